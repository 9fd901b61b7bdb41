import Derived.Test.YtklfnjlenbgmoaaDoorAHStepE
import Derived.Test.YtklfnjlenbgmoaaDoorAHStepK2
import Derived.Test.YtklfnjlenbgmoaaDoorAHMAlloc
import Derived.Test.YtklfnjlenbgmoaaDoorAG25HBoth
import Derived.WalkKit
import Derived.OpenShut
import Derived.LaidMore
import Derived.SizedLaws
import Derived.Deep.Slices
import Derived.ChangeSlices
namespace Go.Proofs.YtklfnjlenbgmoaaDoor
open Go.RowKit
set_option linter.unusedVariables false
attribute [local go_sem ↓] Go.wp_at_zero Go.wp_at_succ
set_option maxRecDepth 20000 in
set_option maxHeartbeats 1000000 in
theorem step_alloc (O A B C X : Int) (ls : Value) (D : List Nat) (w0 : World) (a m : Nat) (W : World) (l : Lay) (H : HS) (M : MS) (hS : Side D w0 a m W l H M) (hi : Inv H M) (hT : Tab w0) (hT2 : Tab64 w0) (h2 : 2 ≤ w0.heap.size) (hD : ∀ b ∈ D, 2 ≤ b) :
    Calls Tryd.prog 25 #[.pointer (some ⟨m, 0, none⟩), .pointer (some ⟨a, 0, none⟩), stepV 1 O A B C X ls] W fun e w' => e = .returned (.bool true) ∧ Went D w0 a m H (allocN M X A B) w' := by
  have hA1 := hS.box (stepO 1 O A B C X ls)
  have HF := mkHid (malloc_ok 1 O A B C X ls D w0 a m _ l H M hA1.side hi hT hT2 h2 hD)
  obtain ⟨W1, hW1⟩ : ∃ W1, W1 = W.alloc (stepO 1 O A B C X ls) := ⟨_, rfl⟩
  rw [← hW1] at HF
  unfold stepV at HF ⊢
  unfold stepO at hW1
  clear hS hi hA1
  go_enter Tryd.func25, Tryd.ntmps25
  go_wp2_with fail
  rw [← hW1]
  refine Calls.mono HF.out ?_
  rintro e w2 ⟨rfl, h6⟩
  have HE := mkHid h6
  clear h6
  go_wp2_with fail
  go_ret
  exact ⟨rfl, HE.out⟩
set_option maxRecDepth 20000 in
set_option maxHeartbeats 1000000 in
theorem step_keep (O A B C X : Int) (zs : List Int) (ao : Option Addr) (c : Nat) (D : List Nat) (w0 : World) (a m : Nat) (W : World) (l : Lay) (H : HS) (M : MS) (hS : Side D w0 a m W l H M) (hi : Inv H M) (hL : LsAt w0 ao c zs) (hLD : zs ≠ [] → ∀ b off, ao = some ⟨b, off, none⟩ → b ∉ D) (hage : H.age ≤ 1000000000) :
    Calls Tryd.prog 25 #[.pointer (some ⟨m, 0, none⟩), .pointer (some ⟨a, 0, none⟩), stepV 11 O A B C X (.slice ao zs.length c)] W fun e w' => e = .returned (.bool true) ∧ Went D w0 a m H (keepN M zs) w' := by
  have hA1 := hS.box (stepO 11 O A B C X (.slice ao zs.length c))
  have hF : Calls Tryd.prog 67 #[.pointer (some ⟨m, 0, none⟩), .pointer (some ⟨a, 0, none⟩), .slice ao zs.length c] (W.alloc (stepO 11 O A B C X (.slice ao zs.length c))) fun e w' => e = .returned (.bool true) ∧ Went D w0 a m H (keepN M zs) w' := by
    cases hall : zs.all (mhas M) with
    | false =>
      rw [show keepN M zs = M from if_neg (by rw [hall]; simp)]
      exact mkeep_no zs ao c D w0 a m _ l H M hA1.side hi hL hLD hall
    | true =>
      obtain ⟨ks, hk1, hk2⟩ := all_nat M zs hall
      have := mkeep_in ks ao c D w0 a m _ l H M hA1.side hi (by rw [← hk1]; exact hL) (fun h => hLD (fun e => h (by rw [e] at hk1; exact List.map_eq_nil_iff.1 hk1.symm))) hk2 hage
      rw [show keepN M zs = { M with things := keptTh M.things ks } from by unfold keepN; rw [if_pos hall, hk1, map_nat_back]]
      rw [show zs.length = ks.length from by rw [hk1, List.length_map]] at this ⊢
      exact this
  have HF := mkHid hF
  obtain ⟨W1, hW1⟩ : ∃ W1, W1 = W.alloc (stepO 11 O A B C X (.slice ao zs.length c)) := ⟨_, rfl⟩
  rw [← hW1] at HF
  unfold stepV
  unfold stepO at hW1
  clear hS hi hA1 hF hL hLD
  generalize keepN M zs = KN at *
  generalize zs.length = zn at *
  go_enter Tryd.func25, Tryd.ntmps25
  go_wp2_with fail
  rw [← hW1]
  refine Calls.mono HF.out ?_
  rintro e w2 ⟨rfl, h6⟩
  have HE := mkHid h6
  clear h6
  go_wp2_with fail
  go_ret
  exact ⟨rfl, HE.out⟩
/-- a step, whatever it is -/
theorem step_any (K O A B C X : Int) (zs : List Int) (ao : Option Addr) (c : Nat) (D : List Nat) (w0 : World) (a m : Nat) (W : World) (l : Lay) (H : HS) (M : MS) (hS : Side D w0 a m W l H M) (hi : Inv H M) (hL : LsAt w0 ao c zs) (hLD : zs ≠ [] → ∀ b off, ao = some ⟨b, off, none⟩ → b ∉ D) (hage : H.age ≤ 1000000000) (hT : Tab w0) (hT2 : Tab64 w0) (h2 : 2 ≤ w0.heap.size) (hD : ∀ b ∈ D, 2 ≤ b) :
    Calls Tryd.prog 25 #[.pointer (some ⟨m, 0, none⟩), .pointer (some ⟨a, 0, none⟩), stepV K O A B C X (.slice ao zs.length c)] W fun e w' => e = .returned (.bool true) ∧ Went D w0 a m H (nextM M K A B X zs) w' := by
  unfold nextM
  by_cases k1 : K = 1
  · rw [if_pos k1]; subst k1; exact step_alloc O A B C X _ D w0 a m W l H M hS hi hT hT2 h2 hD
  rw [if_neg k1]
  by_cases k2 : K = 2
  · rw [if_pos k2]
    subst k2
    cases hA : isM A with
    | false => rw [show markN M A = M from if_neg (by rw [hA]; simp)]; exact step_mark_no O A B C X _ D w0 a m W l H M hS hi hA
    | true =>
      have := of_decide_eq_true hA
      obtain ⟨n, rfl⟩ : ∃ n : Nat, A = (n : Int) := ⟨A.toNat, by omega⟩
      rw [show markN M (n : Int) = { M with mark := n } from if_pos hA]
      exact step_mark_in O B C X n _ D w0 a m W l H M hS hi (by omega)
  rw [if_neg k2]
  by_cases k3 : K = 3
  · rw [if_pos k3]
    subst k3
    cases hA : mhas M A with
    | false => rw [show freeN M A = M from if_neg (by rw [hA]; simp)]; exact step_free_no O A B C X _ D w0 a m W l H M hS hi hA
    | true =>
      rw [show freeN M A = { M with things := M.things.set (A.toNat - 1) (gone (M.things.getD (A.toNat - 1) noTh)) } from if_pos hA]
      obtain ⟨k, rfl, hk, hb⟩ := mhas_yes hA
      rw [sub1]
      exact step_free_in O B C X k _ D w0 a m W l H M hS hi hk hb (by omega)
  rw [if_neg k3]
  by_cases k5 : K = 5
  · rw [if_pos k5]
    subst k5
    cases hA : mhas M A with
    | false => rw [show clsN M A X = M from if_neg (by rw [hA]; simp)]; exact step_cls_no O A B C X _ D w0 a m W l H M hS hi hA
    | true =>
      cases hX : isW X with
      | false =>
        rw [show clsN M A X = M from if_neg (by rw [hX]; simp)]
        obtain ⟨k, rfl, hk, hb⟩ := mhas_yes hA
        exact step_cls_word O B C X k _ D w0 a m W l H M hS hi hk hb hX hT h2 hD
      | true =>
        rw [show clsN M A X = { M with things := M.things.set (A.toNat - 1) (withCls (M.things.getD (A.toNat - 1) noTh) X) } from if_pos ⟨hA, hX⟩]
        obtain ⟨k, rfl, hk, hb⟩ := mhas_yes hA
        rw [sub1]
        exact step_cls_in O B C X k _ D w0 a m W l H M hS hi hk hb hX hT h2 hD
  rw [if_neg k5]
  by_cases k7 : K = 7
  · rw [if_pos k7]
    subst k7
    cases hA : mhas M A with
    | false => rw [show putN M A B X = M from if_neg (by rw [hA]; simp)]; exact step_put_no O A B C X _ D w0 a m W l H M hS hi hA
    | true =>
      obtain ⟨k, rfl, hk, hb⟩ := mhas_yes hA
      by_cases hB : B < 0 ∨ ((M.things.getD k noTh).slots.length : Int) ≤ B
      · rw [show putN M ((k : Int) + 1) B X = M from if_neg (by rw [sub1]; omega)]
        exact step_put_slot O B C X k _ D w0 a m W l H M hS hi hk hb hB
      · obtain ⟨i, rfl⟩ : ∃ i : Nat, B = (i : Int) := ⟨B.toNat, by omega⟩
        cases hX : mayB X ((M.things.getD k noTh).fmt : Int) with
        | false =>
          rw [show putN M ((k : Int) + 1) i X = M from if_neg (by rw [sub1, hX]; simp)]
          exact step_put_word O C X k i _ D w0 a m W l H M hS hi hk hb (by omega) hX hT h2 hD
        | true =>
          rw [show putN M ((k : Int) + 1) i X = { M with things := M.things.set k (withSlot (M.things.getD k noTh) i X) } from by unfold putN; rw [sub1, if_pos ⟨hA, by omega, by omega, hX⟩]; rfl]
          exact step_put_in O C X k i _ D w0 a m W l H M hS hi hk hb (by omega) hX hT h2 hD
  rw [if_neg k7]
  by_cases k8 : K = 8
  · rw [if_pos k8]
    subst k8
    cases hA : mhas M A with
    | false => rw [show exchN M A B = M from if_neg (by rw [hA]; simp)]; exact step_exch_no1 O A B C X _ D w0 a m W l H M hS hi hA
    | true =>
      cases hB : mhas M B with
      | false =>
        rw [show exchN M A B = M from if_neg (by rw [hB]; simp)]
        obtain ⟨x, rfl, hx, bx⟩ := mhas_yes hA
        exact step_exch_no2 O B C X x _ D w0 a m W l H M hS hi hx bx hB
      | true =>
        unfold exchN
        rw [if_pos ⟨hA, hB⟩]
        obtain ⟨x, rfl, hx, bx⟩ := mhas_yes hA
        obtain ⟨y, rfl, hy, by_⟩ := mhas_yes hB
        rw [sub1, sub1]
        exact step_exch_in O C X x y _ D w0 a m W l H M hS hi hx hy bx by_ (by omega)
  rw [if_neg k8]
  by_cases k11 : K = 11
  · rw [if_pos k11]; subst k11; exact step_keep O A B C X zs ao c D w0 a m W l H M hS hi hL hLD hage
  rw [if_neg k11]
  have f : ∀ j : Int, K ≠ j → (K == j) = false := fun j hj => by simpa using hj
  exact step_other K O A B C X _ D w0 a m W l H M hS hi (f 1 k1) (f 2 k2) (f 3 k3) (f 5 k5) (f 7 k7) (f 8 k8) (f 11 k11)
end Go.Proofs.YtklfnjlenbgmoaaDoor
namespace Go.Proofs.YtklfnjlenbgmoaaDoor
open Go.RowKit
set_option linter.unusedVariables false
theorem newA (w : World) : Calls Tryd.prog 10 #[.int .i64 40, .int .i64 3] w fun e w' => e = .returned (.tuple #[.pointer (some ⟨w.heap.size, 0, none⟩), .int .i64 0]) ∧ St w w.heap.size w' nilLay A0 := by
  refine (New_in 40 3 w (by decide) (by decide)).mono ?_
  rintro e w' ⟨rfl, q1, q2, q3⟩
  refine ⟨rfl, q1, q2, fun b hb => ?_⟩
  simp [foot, Lay.blocks, nilLay, blk] at hb
  omega
set_option maxRecDepth 20000 in
set_option maxHeartbeats 2000000 in
theorem alive_any (w : World) (hT : Tab w) (hT2 : Tab64 w) (h2 : 2 ≤ w.heap.size) :
    Calls Tryd.prog 13 #[] w fun e w' => e = .returned (.bool true) ∧ Fr [] w w' := by
  have HT := mkHid hT
  have HT2 := mkHid hT2
  clear hT hT2
  go_enter Tryd.func13, Tryd.ntmps13
  go_wp2_with fail
  refine Calls.mono (newA w) ?_
  rintro e w1 ⟨rfl, hs1⟩
  have HS1 := mkHid hs1
  clear hs1
  go_wp2_with (first | (go_at_call 11; refine (num_any _ _ (by omega) (by omega)).mono ?_; rintro e w' ⟨rfl, hw'⟩; rw [hw']; clear hw' w'))
  refine Calls.mono (alloc1 w w1 _ _ HS1.out HT.out HT2.out h2) ?_
  rintro e w2 ⟨rfl, l2, hs2⟩
  have HS2 := mkHid hs2
  clear hs2 HS1
  go_wp2_with fail
  refine Calls.mono (alloc2 w w2 _ _ HS2.out HT.out HT2.out h2) ?_
  rintro e w3 ⟨rfl, l3, hs3⟩
  have HS3 := mkHid hs3
  clear hs3 HS2
  go_wp2_with fail
  refine Calls.mono (put1 w w3 _ _ HS3.out HT.out h2) ?_
  rintro e w4 ⟨rfl, hs4⟩
  have HS4 := mkHid hs4
  clear hs4 HS3
  go_wp2_with fail
  refine Calls.mono (put2 w w4 _ _ HS4.out HT.out h2) ?_
  rintro e w5 ⟨rfl, hs5⟩
  have HS5 := mkHid hs5
  clear hs5 HS4
  go_wp2_with fail
  refine Calls.mono (exch1 w w5 _ _ HS5.out) ?_
  rintro e w6 ⟨rfl, hs6⟩
  have HS6 := mkHid hs6
  clear hs6 HS5
  go_wp2_with fail
  refine Calls.mono (keep1 w (w6.alloc (.cells #[.int .i64 1] 3)) _ w6.heap.size _ (HS6.out.more (Fr.alloc _ _ _)) (heap_alloc_new _ _) (fun hm => by have := HS6.out.rep.lt _ hm; omega)) ?_
  rintro e w7 ⟨rfl, hs7⟩
  have HS7 := mkHid hs7
  clear hs7 HS6
  go_wp2_with fail
  refine Calls.mono (at1 w w7 _ _ HS7.out) ?_
  rintro e w8 ⟨rfl, hs8⟩
  have HS8 := mkHid hs8
  clear hs8 HS7
  go_wp2_with (first | (go_at_call 11; refine (num_any _ _ (by omega) (by omega)).mono ?_; rintro e w' ⟨rfl, hw'⟩; rw [hw']; clear hw' w'))
  go_ret
  exact ⟨ret_bool (by simp), HS8.out.fr⟩
end Go.Proofs.YtklfnjlenbgmoaaDoor
namespace Go.Proofs.YtklfnjlenbgmoaaDoor
open Go.RowKit
set_option linter.unusedVariables false
attribute [local go_sem ↓] Go.wp_at_zero Go.wp_at_succ
theorem small_det (n : Int) (h0 : -9223372036854775808 ≤ n) (h1 : n ≤ 9223372036854775807) : ∃ a : Nat, a ≤ 2047 ∧ ∀ w, Calls Tryd.prog 9 #[.int .i64 n] w fun e w' => e = .returned (.int .i64 (a : Int)) ∧ w' = w := by
  have t2 : n.tmod 2048 < 2048 := Int.tmod_lt_of_pos n (by omega)
  have t3 : -2048 < n.tmod 2048 := Int.lt_tmod_of_pos n (by omega)
  refine ⟨((n.tmod 2048 + 2048) % 2048).toNat, by omega, fun w => ?_⟩
  go_enter Tryd.func9, Tryd.ntmps9
  go_wp2
  go_ret
  exact ⟨ret_int (by omega), rfl⟩
theorem side_new (w0 W : World) (a m words oops : Nat) (h1 : Rep W a nilLay (emptyH words oops)) (h2 : W.heap[m]? = some (.cells (mcells (emptyM words oops)) 55 (0, 0))) (hf : Fr [] w0 W) (ha : w0.heap.size ≤ a) (hm : w0.heap.size ≤ m) (hne : a ≠ m) : Side [] w0 a m W nilLay (emptyH words oops) (emptyM words oops) where
  rep := h1
  mrep := ⟨h2, World.ownsRow_nil _ _ _ _, fun t ht => by simp [emptyM] at ht, fun i j hi => by simp [emptyM] at hi⟩
  sep := fun g hg hb => by
    simp [foot, Lay.blocks, nilLay, blk] at hg
    simp [mfoot, emptyM, mslots, blk] at hb
    omega
  fr := hf
  geh := fun b hb => by
    simp [foot, Lay.blocks, nilLay, blk] at hb
    right
    omega
  gem := fun b hb => by
    simp [mfoot, emptyM, mslots, blk] at hb
    right
    omega
/-- the step at i, as it lies in old memory -/
def StepAt (w0 : World) (b off i : Nat) : Prop := ∃ (K O A B C X : Int) (ao : Option Addr) (c : Nat) (zs : List Int),
  w0.cell? ⟨b, off + i * 7, none⟩ = some (.int .i64 K) ∧ w0.cell? ⟨b, off + i * 7 + 1, none⟩ = some (.int .i64 O) ∧ w0.cell? ⟨b, off + i * 7 + 2, none⟩ = some (.int .i64 A) ∧ w0.cell? ⟨b, off + i * 7 + 3, none⟩ = some (.int .i64 B) ∧
  w0.cell? ⟨b, off + i * 7 + 4, none⟩ = some (.int .i64 C) ∧ w0.cell? ⟨b, off + i * 7 + 5, none⟩ = some (.int .i64 X) ∧ w0.cell? ⟨b, off + i * 7 + 6, none⟩ = some (.slice ao zs.length c) ∧ LsAt w0 ao c zs
end Go.Proofs.YtklfnjlenbgmoaaDoor
namespace Go.Proofs.YtklfnjlenbgmoaaDoor
open Go.ChangeShapes Go.WideShapes Go.RowKit
set_option linter.unusedVariables false
theorem weightsAll_mem {H : Type} {P : Program} {e : TypeId} {d : DataW H} : ∀ {ds : List (DataW H)}, d ∈ ds → ∀ n ∈ d.weights P e, n ∈ DataW.weightsAll P e ds := by
  intro ds
  induction ds with
  | nil => intro h; simp at h
  | cons x ds ih =>
    intro h n hn
    unfold DataW.weightsAll
    rcases List.mem_cons.1 h with rfl | h
    · exact List.mem_append_left _ hn
    · exact List.mem_append_right _ (ih h n hn)
theorem c58 : Tryd.prog.cellsOf 58 = 7 := by kernel_rfl
theorem c3 : Tryd.prog.cellsOf 3 = 1 := by kernel_rfl
theorem c33 : Tryd.prog.cellsOf 33 = 1 := by kernel_rfl
theorem c22 : Tryd.prog.cellsOf 22 = 1 := by kernel_rfl
theorem b3 : Tryd.prog.bytesOf 3 = 8 := by kernel_rfl
section
variable {H : Type} {enc : TypeId × Value → H} {w : World} {spare : Nat → Bool} {held : Bool}
/-- the list of a step, opened -/
theorem open_ls {fuel : Nat} {u : Value} {y : DataW H × List MemPlace} (h : DataW.trod enc Tryd.prog w 0 spare held fuel 22 [u] = some y) (hz : ∀ n ∈ y.1.weights Tryd.prog 22, n ≤ reachBytes) :
    ∃ (ao : Option Addr) (c : Nat) (zs : List Int), u = .slice ao zs.length c ∧ LsAt w ao c zs := by
  rcases open_ints Tryd.underlying22 Tryd.underlying3 c3 h with ⟨hcs, _⟩ | ⟨a, len, cap, zs, hcs, _, hl, hm, hzl, hx, hc, _⟩
  · simp at hcs
    exact ⟨none, 0, [], hcs, fun _ => ⟨rfl, rfl⟩, fun h => absurd rfl h, by simp⟩
  · simp at hcs
    have hlz : len ≤ zs.length := by rw [hzl]; split <;> omega
    have htl : (zs.take len).length = len := by simp; omega
    refine ⟨some a, cap, zs.take len, by rw [htl]; exact hcs, ⟨fun h => (by cases h), fun hne => ?_, ?_⟩⟩
    · have hpos : 0 < len := by
        rcases Nat.eq_zero_or_pos len with h0 | h0
        · rw [h0] at hne; simp at hne
        · exact h0
      obtain ⟨b, off, spot⟩ := a
      have hspot : spot = none := by simpa [Addr.add] using World.cell?_spot (hc 0 (by omega))
      subst hspot
      have hcell : ∀ j, j < len → w.cell? ⟨b, off + j, none⟩ = some (.int .i64 (zs.getD j 0)) := fun j hj => by
        have := hc j (by omega)
        rwa [Addr.add_mid] at this
      refine ⟨b, off, rfl, World.block_lt_of_cell? w ⟨b, off + 0, none⟩ (hcell 0 hpos), fun j hj => ?_⟩
      rw [htl] at hj
      rw [hcell j hj, List.getD_eq_getElem?_getD, List.getD_eq_getElem?_getD, List.getElem?_take, if_pos hj]
    · rw [htl]
      have hw := hz (((lits (H := H) .i64 (zs.take len)).length + (lits (H := H) .i64 (zs.drop len)).length) * Tryd.prog.bytesOf 3) (by rw [hx]; simp [DataW.weights, Tryd.underlying22])
      have e1 : (lits (H := H) .i64 (zs.take len)).length = len := by simp [lits]; omega
      rw [e1, b3] at hw
      have : reachBytes < 2 ^ 47 := reachBytes_lt
      omega
set_option maxRecDepth 20000 in
/-- the steps, opened -/
theorem open_steps {fuel : Nat} {cs : List Value} {x : DataW H × List MemPlace} (h : DataW.trod enc Tryd.prog w 0 spare held fuel 51 cs = some x) (hz : ∀ n ∈ x.1.weights Tryd.prog 51, n ≤ reachBytes) :
    ∃ (ao : Option Addr) (sz c b off : Nat), cs = [.slice ao sz c] ∧ (0 < sz → ao = some ⟨b, off, none⟩ ∧ b < w.heap.size) ∧ sz ≤ maxLen ∧ ∀ i, i < sz → StepAt w b off i := by
  rcases Go.Deep.open_slice Tryd.underlying51 h with ⟨rfl, rfl⟩ | ⟨a, len, cap, m, n, D, Pl, rfl, _, hl, hm, hmm, rfl, hx⟩
  · exact ⟨none, 0, 0, 0, 0, rfl, fun h => by omega, by unfold maxLen; omega, fun i hi => by omega⟩
  · by_cases h0 : len = 0
    · subst h0
      exact ⟨some a, 0, cap, 0, 0, rfl, fun h => by omega, by unfold maxLen; omega, fun i hi => by omega⟩
    · have hlm : len ≤ m := by rw [hmm]; split <;> omega
      rw [c58] at hx
      obtain ⟨b, off, spot⟩ := a
      have hspot : spot = none := by
        obtain ⟨cs', h1, h2⟩ := hx 0 (by omega)
        obtain ⟨_, hlen, hcell⟩ := World.cells?_some h1
        have := hcell 0 (by omega)
        rw [Go.Deep.add_add] at this
        match cs', hlen with
        | u :: _, _ => simpa [Addr.add] using World.cell?_spot this
      subst hspot
      have hstep : ∀ i, i < len → StepAt w b off i := fun i hi => by
        obtain ⟨cs', h1, h2⟩ := hx i (by omega)
        obtain ⟨_, hlen, hcell⟩ := World.cells?_some h1
        obtain ⟨xs, k, hk, hxy, _, hxl, hf⟩ := DataW.trod_struct Tryd.underlying58 h2
        match xs, hxl, cs', hlen with
        | [y0, y1, y2, y3, y4, y5, y6], _, [t0, t1, t2, t3, t4, t5, t6], _ =>
          have g0 := hf 0 _ rfl
          have g1 := hf 1 _ rfl
          have g2 := hf 2 _ rfl
          have g3 := hf 3 _ rfl
          have g4 := hf 4 _ rfl
          have g5 := hf 5 _ rfl
          have g6 := hf 6 _ rfl
          simp [c3, c33, c22] at g0 g1 g2 g3 g4 g5 g6
          obtain ⟨K, e0, -, -⟩ := DataW.trod_int Tryd.underlying3 g0
          obtain ⟨O, e1, -, -⟩ := DataW.trod_int Tryd.underlying3 g1
          obtain ⟨A, e2, -, -⟩ := DataW.trod_int Tryd.underlying3 g2
          obtain ⟨B, e3, -, -⟩ := DataW.trod_int Tryd.underlying3 g3
          obtain ⟨C, e4, -, -⟩ := DataW.trod_int Tryd.underlying3 g4
          obtain ⟨X, e5, -, -⟩ := DataW.trod_int Tryd.underlying33 g5
          simp at e0 e1 e2 e3 e4 e5
          obtain ⟨lo, lc, zs, e6, hls⟩ := open_ls g6 (fun n hn => by
            refine hz n ?_
            have hd : D i = .agg [y0.1, y1.1, y2.1, y3.1, y4.1, y5.1, y6.1] := by simpa using congrArg Prod.fst hxy
            have h3 : n ∈ (D i).weights Tryd.prog 58 := by
              rw [hd]
              simp only [DataW.weights, Tryd.underlying58]
              exact DataW.weights_mem_each (j := 6) (t := 22) (d := y6.1) rfl rfl n hn
            simp only [DataW.weights, Tryd.underlying51]
            refine List.mem_cons_of_mem _ (List.mem_append_left _ (weightsAll_mem (d := D i) ?_ n h3))
            exact List.mem_map.2 ⟨i, List.mem_range.2 hi, rfl⟩)
          have m0 := hcell 0 (by omega)
          have m1 := hcell 1 (by omega)
          have m2 := hcell 2 (by omega)
          have m3 := hcell 3 (by omega)
          have m4 := hcell 4 (by omega)
          have m5 := hcell 5 (by omega)
          have m6 := hcell 6 (by omega)
          rw [Addr.add_mid, Addr.add_mid] at m0 m1 m2 m3 m4 m5 m6
          simp at m0 m1 m2 m3 m4 m5 m6
          subst e0 e1 e2 e3 e4 e5 e6
          exact ⟨K, O, A, B, C, X, lo, lc, zs, m0, m1, m2, m3, m4, m5, m6, hls⟩
      obtain ⟨K, _, _, _, _, _, _, _, _, m0, _⟩ := hstep 0 (by omega)
      exact ⟨some ⟨b, off, none⟩, len, cap, b, off, rfl, fun _ => ⟨rfl, World.block_lt_of_cell? w _ m0⟩, by omega, hstep⟩
end
end Go.Proofs.YtklfnjlenbgmoaaDoor
