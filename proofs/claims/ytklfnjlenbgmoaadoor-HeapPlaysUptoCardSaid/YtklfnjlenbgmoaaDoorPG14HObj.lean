import Derived.Test.YtklfnjlenbgmoaaDoorPG09HModelL
import Derived.BigQuiet
import Derived.Lib.AppendZeros
import Derived.Test.YtklfnjlenbgmoaaDoorPG10HInvA
import Derived.Deep.RegionLaw
set_option linter.unusedVariables false
namespace Go.Proofs.YtklfnjlenbgmoaaDoor
open Go.RowKit
attribute [local go_sem ↓] Go.wp_at_zero Go.wp_at_succ
set_option maxRecDepth 20000 in
set_option maxHeartbeats 1000000 in
theorem Point_ok (a : Nat) (l : Lay) (H : HS) (w : World) (h : Rep w a l H) :
    Calls Tryd.prog 27 #[.pointer (some ⟨a, 0, none⟩)] w fun e w' => e = .returned (.agg #[.pointer (some ⟨a, 0, none⟩), .int .i64 (H.age : Int), .int .i64 (H.order.length : Int)]) ∧ Fr [] w w' := by
  have hal := h.lt a (by simp [foot])
  have c0 := (World.cell?_alloc_lt w (.cells #[.pointer none, .int .i64 0, .int .i64 0] 62) ⟨a, 0, none⟩ hal).trans h.c0
  have c10 := h.c10
  have c6 := h.c6
  have HM := mkHid (made_any a _ c0)
  clear h c0
  go_enter Tryd.func27, Tryd.ntmps27
  go_wp2_with (go_at_call 44; refine Calls.mono HM.out ?_; rintro e w' ⟨rfl, hw'⟩; rw [hw']; clear hw' w')
  go_region
  all_goals go_wp2_with fail
  refine bodyPost_ret (v := .agg #[.pointer (some ⟨a, 0, none⟩), .int .i64 (H.age : Int), .int .i64 (H.order.length : Int)]) (by simp [results, Tryd.results27, go_sem]) rfl ⟨rfl, (Fr.alloc [] _ _).trans (Fr.drew [] _) (by simp)⟩
def backTo (H : HS) (T : Nat) : Nat → HS
  | 0 => H
  | j + 1 => vacH (backTo H T j) (H.order.getD (T + j) 0)
theorem backTo_age (H : HS) (T : Nat) : ∀ j, (backTo H T j).age = H.age := by
  intro j
  induction j with
  | zero => rfl
  | succ j ih => exact ih
structure BackOk (H : HS) (T : Nat) : Prop where
  t : T ≤ H.order.length
  vac : ∀ j, T + j < H.order.length → VacOk (backTo H T j) (H.order.getD (T + j) 0) ∧ (backTo H T j).order.getD (T + j) 0 = H.order.getD (T + j) 0 ∧ (backTo H T j).order.length = H.order.length
  r1 : (H.order.length : Int) ≤ 1048576
  a1 : (H.age : Int) ≤ 1000000000
theorem run_neq_ptr_same {tp te : TypeId} {j : TypeInfo} (V : World) (a : Addr) (hp : Tryd.prog.underlying tp = some (.pointer te)) (hte : Tryd.prog.info? te = some j) :
    (binOp .neq tp (.pointer (some a)) (.pointer (some a))).run Tryd.prog V = .ok (.bool false) V := by
  have h : ∀ d : Nat, (Op.equalIn (d + 1) tp (.pointer (some a)) (.pointer (some a))).run Tryd.prog V = .ok true V := fun d => by
    simp [Op.equalIn, run_underlying hp, sizeOf, typeInfo, hte, run_sameAddr_same]
  simp only [binOp]
  simp [Op.equal, Op.maxDepth, h 9999]
set_option maxRecDepth 20000 in
set_option maxHeartbeats 1000000 in
theorem Back_no (ag tn : Int) (a : Nat) (l : Lay) (H : HS) (w : World) (h : Rep w a l H) (hne : (ag != (H.age : Int)) = true) :
    Calls Tryd.prog 31 #[.pointer (some ⟨a, 0, none⟩), .agg #[.pointer (some ⟨a, 0, none⟩), .int .i64 ag, .int .i64 tn]] w fun e w' => e = .returned (.int .i64 25) ∧ Fr [] w w' := by
  have hal := h.lt a (by simp [foot])
  have c0 := (World.cell?_alloc_lt w (.cells #[.pointer (some ⟨a, 0, none⟩), .int .i64 ag, .int .i64 tn] 62) ⟨a, 0, none⟩ hal).trans h.c0
  have c10 := (World.cell?_alloc_lt w (.cells #[.pointer (some ⟨a, 0, none⟩), .int .i64 ag, .int .i64 tn] 62) ⟨a, 10, none⟩ hal).trans h.c10
  have HM := mkHid (made_any a _ c0)
  have HE : Hid (∀ n, Fr [] w ((w.alloc (.cells #[.pointer (some ⟨a, 0, none⟩), .int .i64 ag, .int .i64 tn] 62)).drewN n)) := fun n => (Fr.alloc [] _ _).trans (Fr.drewN [] _ _) (by simp)
  obtain ⟨j, hj⟩ := Option.isSome_iff_exists.1 info95
  have hq := fun V => run_neq_ptr_same V ⟨a, 0, none⟩ Tryd.underlying24 hj
  clear h c0 hj
  go_enter Tryd.func31, Tryd.ntmps31
  go_wp2_with (go_at_call 44; refine Calls.mono HM.out ?_; rintro e w' ⟨rfl, hw'⟩; rw [hw']; clear hw' w')
  go_region
  all_goals go_wp2_with fail
  all_goals
    go_ret
    exact ⟨rfl, HE.out _⟩
set_option maxRecDepth 20000 in
set_option maxHeartbeats 1000000 in
theorem Back_ok (T t e0 : Nat) (a : Nat) (l : Lay) (H : HS) (w : World) (h : Rep w a l H) (hk : BackOk H T) (hd : DrawOk (backTo H T (H.order.length - T)) t e0) :
    Calls Tryd.prog 31 #[.pointer (some ⟨a, 0, none⟩), .agg #[.pointer (some ⟨a, 0, none⟩), .int .i64 (H.age : Int), .int .i64 (T : Int)]] w fun e w' => e = .returned (.int .i64 0) ∧ Rep w' a l { drawH (backTo H T (H.order.length - T)) t e0 with age := H.age + 1 } ∧ Nx a l l w w' := by
  have hal := h.lt a (by simp [foot])
  obtain ⟨o, ho⟩ : ∃ o, o = Obj.cells #[.pointer (some ⟨a, 0, none⟩), .int .i64 (H.age : Int), .int .i64 (T : Int)] 62 := ⟨_, rfl⟩
  have c0 := (World.cell?_alloc_lt w o ⟨a, 0, none⟩ hal).trans h.c0
  have c10 := (World.cell?_alloc_lt w o ⟨a, 10, none⟩ hal).trans h.c10
  have c6 := (World.cell?_alloc_lt w o ⟨a, 6, none⟩ hal).trans h.c6
  have HM := mkHid (made_any a _ c0)
  have hr1 := h.alloc o
  have HR1 := mkHid hr1
  have HX1 : Hid (Nx a l l w (w.alloc o)) := Nx.frw (Fr.alloc _ _ _)
  obtain ⟨j, hj⟩ := Option.isSome_iff_exists.1 info95
  have hq := fun V => run_neq_ptr_same V ⟨a, 0, none⟩ Tryd.underlying24 hj
  have ht := hk.t
  have hrl := hk.r1
  have hage := hk.a1
  have HK := mkHid hk
  have HD := mkHid hd
  have u1 : (0 : Int) ≤ (T : Int) := by omega
  have u2 : (T : Int) ≤ (H.order.length : Int) := by omega
  have hcap : H.order.length ≤ l.co := by
    rcases h.order.2 with ⟨q, q0⟩ | ⟨g, cap, cur, q1, q2, q3, q4, q5, q6, q7⟩
    · injection q with _ _ q3; omega
    · injection q1 with _ _ q1c; omega
  have hpo : (l.po = none → H.order.length = 0 ∧ l.co = 0) ∧ (∀ ad, l.po = some ad → ∃ g, ad = ⟨g, 0, none⟩) := by
    rcases h.order.2 with ⟨q, q0⟩ | ⟨g, cap, cur, q1, q2, q3, q4, q5, q6, q7⟩
    · injection q with q1 _ q3; exact ⟨fun _ => ⟨by omega, by omega⟩, fun ad hd => (by rw [q1] at hd; cases hd)⟩
    · injection q1 with q1 _ q1c; exact ⟨fun hd => (by rw [q1] at hd; cases hd), fun ad hd => (by rw [q1] at hd; injection hd with hd; exact ⟨g, hd.symm⟩)⟩
  clear h c0 hj hk hd hr1
  have b0 : (w.alloc o).cell? ⟨w.heap.size, 0, none⟩ = some (.pointer (some ⟨a, 0, none⟩)) := by rw [ho, cell_in (heap_alloc_new w _)]; rfl
  have b1 : (w.alloc o).cell? ⟨w.heap.size, 1, none⟩ = some (.int .i64 (H.age : Int)) := by rw [ho, cell_in (heap_alloc_new w _)]; rfl
  have b2 : (w.alloc o).cell? ⟨w.heap.size, 2, none⟩ = some (.int .i64 (T : Int)) := by rw [ho, cell_in (heap_alloc_new w _)]; rfl
  have u3 : (T : Int) ≤ (l.co : Int) := by omega
  have HPO := mkHid hpo
  clear hpo
  obtain ⟨W1, hW1⟩ : ∃ W1, W1 = w.alloc o := ⟨_, rfl⟩
  rw [← hW1] at HM HR1 HX1 c10 c6 b0 b1 b2
  rw [ho] at hW1
  clear ho
  rcases hpoE : l.po with _ | ad
  · have hpo0 := hpoE
    clear hpo0
    go_enter Tryd.func31, Tryd.ntmps31
    go_wp2_with fail
    rw [← hW1]
    clear hW1
    refine Calls.mono HM.out ?_
    rintro e w' ⟨rfl, hw'⟩
    rw [hw']
    clear hw' w' HM
    go_wp2_with fail
    go_cut [22] (fun q V => q = .bool false ∧ Hid (Eqw W1 V))
    case first =>
      go_region
      all_goals go_wp2_with fail
      all_goals
        go_meet
        case rel => exact ⟨rfl, eqw_drew _⟩
    case rest =>
    obtain ⟨rfl, hc2⟩ := hcut
    have hR2 := HR1.out.eqw hc2.out
    have HF : Hid (∀ n, Rep (wc.drewN n) a l H ∧ Nx a l l w (wc.drewN n)) := fun n => ⟨hR2.drewN n, (HX1.out.eqw hc2.out).eqw ⟨rfl, rfl, rfl, rfl⟩⟩
    have c6' := hR2.c6
    rw [hpoE] at c6'
    have b2' : wc.cell? ⟨w.heap.size, 2, none⟩ = some (.int .i64 (T : Int)) := (World.cell?_of_block (w := W1) (by rw [hc2.out.2.2.2])).trans b2
    have HPE := mkHid hpoE
    clear b0 b1 b2 c6 c10 HR1 HX1 hR2 hpoE
    go_wp2_with fail
    go_quiet (fail)
    all_goals go_wp2_with fail
    all_goals
      have HF1 := mkHid (HF.out nq)
      clear HF c6' b2'
      generalize wc.drewN nq = W2 at *
      go_loopw [31] (fun q wr => ∃ j : Nat, j ≤ H.order.length - T ∧ q = .int .i64 j ∧ Hid (Rep wr a l (backTo H T j) ∧ Nx a l l w wr)) (fun q _ => (H.order.length - T) - (intOf q).toNat)
      case atStart => exact ⟨0, Nat.zero_le _, rfl, HF1.out⟩
      case round =>
        obtain ⟨j, hjn, rfl, hq2⟩ := hrel
        obtain ⟨hr, hx⟩ := hq2.out
        clear hq2
        by_cases hlt : j < H.order.length - T
        · exfalso; have := (HPO.out.1 HPE.out).1; omega
        · have hje : j = H.order.length - T := by omega
          subst hje
          have HDr := mkHid (drawEnd_ok t e0 a l _ wr hr HD.out)
          have HX := mkHid hx
          have hagl : (backTo H T (H.order.length - T)).age = H.age := backTo_age H T _
          clear hr hx
          go_wp2_with fail
          refine Calls.mono HDr.out ?_
          rintro e w3 ⟨rfl, hr3, hx3⟩
          have c10 := hr3.c10
          have f10 := hr3.frozen 10
          have e1 : (drawH (backTo H T (H.order.length - T)) t e0).age = H.age := hagl
          rw [e1] at c10
          have HE : Hid (Rep (w3.setCell ⟨a, 10, none⟩ (.int .i64 ((H.age : Int) + 1))) a l { drawH (backTo H T (H.order.length - T)) t e0 with age := H.age + 1 } ∧ Nx a l l w (w3.setCell ⟨a, 10, none⟩ (.int .i64 ((H.age : Int) + 1)))) :=
            ⟨hr3.set (H' := { drawH (backTo H T (H.order.length - T)) t e0 with age := H.age + 1 }) 10 _ rfl rfl rfl rfl rfl, (HX.out.trans hx3).trans (Nx.fr (Fr.setCell (S := [a]) _ _ _ (by simp)))⟩
          clear hr3 hx3 e1 hagl
          go_wp2_with fail
          go_ret
          exact ⟨rfl, HE.out⟩
  · obtain ⟨g0, hg0⟩ := HPO.out.2 ad hpoE
    subst hg0
    go_enter Tryd.func31, Tryd.ntmps31
    go_wp2_with fail
    rw [← hW1]
    clear hW1
    refine Calls.mono HM.out ?_
    rintro e w' ⟨rfl, hw'⟩
    rw [hw']
    clear hw' w' HM
    go_wp2_with fail
    go_cut [22] (fun q V => q = .bool false ∧ Hid (Eqw W1 V))
    case first =>
      go_region
      all_goals go_wp2_with fail
      all_goals
        go_meet
        case rel => exact ⟨rfl, eqw_drew _⟩
    case rest =>
    obtain ⟨rfl, hc2⟩ := hcut
    have hR2 := HR1.out.eqw hc2.out
    have HF : Hid (∀ n, Rep (wc.drewN n) a l H ∧ Nx a l l w (wc.drewN n)) := fun n => ⟨hR2.drewN n, (HX1.out.eqw hc2.out).eqw ⟨rfl, rfl, rfl, rfl⟩⟩
    have c6' := hR2.c6
    rw [hpoE] at c6'
    have b2' : wc.cell? ⟨w.heap.size, 2, none⟩ = some (.int .i64 (T : Int)) := (World.cell?_of_block (w := W1) (by rw [hc2.out.2.2.2])).trans b2
    have HPE := mkHid hpoE
    clear b0 b1 b2 c6 c10 HR1 HX1 hR2 hpoE
    go_wp2_with fail
    go_quiet (fail)
    all_goals go_wp2_with fail
    all_goals
      have HF1 := mkHid (HF.out nq)
      clear HF c6' b2'
      generalize wc.drewN nq = W2 at *
      go_loopw [31] (fun q wr => ∃ j : Nat, j ≤ H.order.length - T ∧ q = .int .i64 j ∧ Hid (Rep wr a l (backTo H T j) ∧ Nx a l l w wr)) (fun q _ => (H.order.length - T) - (intOf q).toNat)
      case atStart => exact ⟨0, Nat.zero_le _, rfl, HF1.out⟩
      case round =>
        obtain ⟨j, hjn, rfl, hq2⟩ := hrel
        obtain ⟨hr, hx⟩ := hq2.out
        clear hq2
        by_cases hlt : j < H.order.length - T
        · first
          | (exfalso; omega)
          | (obtain ⟨v1, v2, v3⟩ := HK.out.vac j (by omega)
             obtain ⟨go, hgo, hco, hfo, hgoa, hgol⟩ := hr.orderAt (T + j) (by omega)
             have o1 := hco (T + j) (by omega)
             rw [v2] at o1
             have HV := mkHid (vacate_ok (H.order.getD (T + j) 0) a l _ wr hr v1)
             have k1 : (0 : Int) ≤ (j : Int) := by omega
             have k2 : (j : Int) < ((H.order.length - T : Nat) : Int) := by omega
             have HN : Hid (backTo H T (j + 1) = vacH (backTo H T j) (H.order.getD (T + j) 0)) := rfl
             have HX := mkHid hx
             have hgg : go = g0 := by rw [HPE.out] at hgo; injection hgo with hgo; injection hgo with hgo _ _; exact hgo.symm
             subst hgg
             generalize H.order.getD (T + j) 0 = oo at *
             clear hr hx hco hfo v1 v2 v3 hgo HPO
             go_wp2_with fail
             refine Calls.mono HV.out ?_
             rintro e w3 ⟨rfl, hr3, hx3⟩
             have HF3 := mkHid (And.intro hr3 (HX.out.trans hx3))
             clear hr3 hx3
             go_wp2_with fail
             go_roundw
             case rel => exact ⟨j + 1, by omega, by go_num, by rw [HN.out]; exact HF3.out⟩
             case measure => simp [intOf]; omega)
        · have hje : j = H.order.length - T := by omega
          subst hje
          have HDr := mkHid (drawEnd_ok t e0 a l _ wr hr HD.out)
          have HX := mkHid hx
          have hagl : (backTo H T (H.order.length - T)).age = H.age := backTo_age H T _
          clear hr hx
          go_wp2_with fail
          refine Calls.mono HDr.out ?_
          rintro e w3 ⟨rfl, hr3, hx3⟩
          have c10 := hr3.c10
          have f10 := hr3.frozen 10
          have e1 : (drawH (backTo H T (H.order.length - T)) t e0).age = H.age := hagl
          rw [e1] at c10
          have HE : Hid (Rep (w3.setCell ⟨a, 10, none⟩ (.int .i64 ((H.age : Int) + 1))) a l { drawH (backTo H T (H.order.length - T)) t e0 with age := H.age + 1 } ∧ Nx a l l w (w3.setCell ⟨a, 10, none⟩ (.int .i64 ((H.age : Int) + 1)))) :=
            ⟨hr3.set (H' := { drawH (backTo H T (H.order.length - T)) t e0 with age := H.age + 1 }) 10 _ rfl rfl rfl rfl rfl, (HX.out.trans hx3).trans (Nx.fr (Fr.setCell (S := [a]) _ _ _ (by simp)))⟩
          clear hr3 hx3 e1 hagl
          go_wp2_with fail
          go_ret
          exact ⟨rfl, HE.out⟩
theorem info106 : (Tryd.prog.info? 106).map (fun i => (i.zero, i.size, i.bytes)) = some (some (.agg #[.int .i64 0, .int .i64 0, .int .i64 0, .slice none 0 0]), 4, 48) := by kernel_rfl
theorem own_room {w W : World} {e : TypeId} {size g c : Nat} {C : Array Value} (hg : W.heap[g]? = some (.cells C e (0, 0))) (hge : w.heap.size ≤ g) (hC : C.size = c * size) (hc : c ≤ maxLen) : W.ownsRow w.heap.size e size (.slice (some ⟨g, 0, none⟩) 0 c) 0 [] :=
 ⟨by simp, .inr ⟨g, c, C, rfl, hge, hg, Nat.zero_le _, hc, hC, by simp⟩⟩
set_option maxRecDepth 20000 in
set_option maxHeartbeats 600000 in
theorem grow105 (n : Nat) (hn : (n : Int) ≤ 1048576) (w : World) :
  Calls Tryd.prog 105 #[.slice none 0 0, .int .i64 n] w fun e w' => ∃ v, e = .returned v ∧ w'.ownsRow w.heap.size 33 1 v 0 [] ∧ Fr [] w w' := by
 obtain ⟨j0, ji, jz0, jz1, jz2⟩ := info_parts info33
 by_cases h0 : n = 0
 ·subst h0
  go_enter Tryd.func105, Tryd.ntmps105
  go_wp2
  go_ret
  exact ⟨_, rfl, World.ownsRow_nil _ _ _ _, Fr.refl _ _⟩
 ·have hp : (0 : Int) < (n : Int) := by omega
  have hrun := fun ty => Lib.run_append_nil_zeros (P := Tryd.prog) w 80 3 ty 33 j0 (Value.int .i64 0) .i64 .i64 Tryd.underlying80 Tryd.underlying3 ji jz0 n (by omega) (by omega) (by omega) (by rw [jz2]; omega)
  have HRun := mkHid hrun
  have g1 := grownCap_ge w n 0 33
  have g2 := grownCap_le_maxLen w n 0 33 (by unfold maxLen; omega)
  have HE : Hid ((w.drew.alloc (.cells (Builtin.zeroCells (Value.int .i64 0).cells n ++ Builtin.zeroCells (Value.int .i64 0).cells (grownCap w n 0 33 - n)) 33)).ownsRow w.heap.size 33 1 (.slice (some ⟨w.heap.size, 0, none⟩) 0 (grownCap w n 0 33)) 0 [] ∧ Fr [] w (w.drew.alloc (.cells (Builtin.zeroCells (Value.int .i64 0).cells n ++ Builtin.zeroCells (Value.int .i64 0).cells (grownCap w n 0 33 - n)) 33))) :=
   ⟨own_room (heap_alloc_new w.drew _) (Nat.le_refl _) (by
    rw [Array.size_append, size_zeroCells, size_zeroCells, show ((Value.int .i64 0).cells).size = 1 from rfl, ← Nat.add_mul]
    congr 1
    omega) g2, (Fr.drew [] w).trans (Fr.alloc [] _ _) (by simp)⟩
  clear hrun g1 g2
  generalize grownCap w n 0 33 = gc at *
  go_enter Tryd.func105, Tryd.ntmps105
  go_wp2_with (at_builtin; refine Lib.wpList_append_run _ rfl (.tmp 20) (.tmp 21) 80 3 rfl _ _ rfl rfl _ _ (HRun.out _) ?_)
  go_ret
  exact ⟨_, rfl, HE.out.1, HE.out.2⟩
set_option maxRecDepth 20000 in
set_option maxHeartbeats 600000 in
theorem grow61 (n : Nat) (hn : (n : Int) ≤ 1048576) (w : World) :
  Calls Tryd.prog 61 #[.slice none 0 0, .int .i64 n] w fun e w' => ∃ v, e = .returned v ∧ w'.ownsRow w.heap.size 106 4 v 0 [] ∧ Fr [] w w' := by
 obtain ⟨j0, ji, jz0, jz1, jz2⟩ := info_parts info106
 by_cases h0 : n = 0
 ·subst h0
  go_enter Tryd.func61, Tryd.ntmps61
  go_wp2
  go_ret
  exact ⟨_, rfl, World.ownsRow_nil _ _ _ _, Fr.refl _ _⟩
 ·have hp : (0 : Int) < (n : Int) := by omega
  have hrun := fun ty => Lib.run_append_nil_zeros (P := Tryd.prog) w 36 3 ty 106 j0 (Value.agg #[.int .i64 0, .int .i64 0, .int .i64 0, .slice none 0 0]) .i64 .i64 Tryd.underlying36 Tryd.underlying3 ji jz0 n (by omega) (by omega) (by omega) (by rw [jz2]; omega)
  have HRun := mkHid hrun
  have g1 := grownCap_ge w n 0 106
  have g2 := grownCap_le_maxLen w n 0 106 (by unfold maxLen; omega)
  have HE : Hid ((w.drew.alloc (.cells (Builtin.zeroCells (Value.agg #[.int .i64 0, .int .i64 0, .int .i64 0, .slice none 0 0]).cells n ++ Builtin.zeroCells (Value.agg #[.int .i64 0, .int .i64 0, .int .i64 0, .slice none 0 0]).cells (grownCap w n 0 106 - n)) 106)).ownsRow w.heap.size 106 4 (.slice (some ⟨w.heap.size, 0, none⟩) 0 (grownCap w n 0 106)) 0 [] ∧ Fr [] w (w.drew.alloc (.cells (Builtin.zeroCells (Value.agg #[.int .i64 0, .int .i64 0, .int .i64 0, .slice none 0 0]).cells n ++ Builtin.zeroCells (Value.agg #[.int .i64 0, .int .i64 0, .int .i64 0, .slice none 0 0]).cells (grownCap w n 0 106 - n)) 106))) :=
   ⟨own_room (heap_alloc_new w.drew _) (Nat.le_refl _) (by
    rw [Array.size_append, size_zeroCells, size_zeroCells, show ((Value.agg #[.int .i64 0, .int .i64 0, .int .i64 0, .slice none 0 0]).cells).size = 4 from rfl, ← Nat.add_mul]
    congr 1
    omega) g2, (Fr.drew [] w).trans (Fr.alloc [] _ _) (by simp)⟩
  clear hrun g1 g2
  generalize grownCap w n 0 106 = gc at *
  go_enter Tryd.func61, Tryd.ntmps61
  go_wp2_with (at_builtin; refine Lib.wpList_append_run _ rfl (.tmp 20) (.tmp 21) 36 3 rfl _ _ rfl rfl _ _ (HRun.out _) ?_)
  go_ret
  exact ⟨_, rfl, HE.out.1, HE.out.2⟩
theorem step_call {ops : Array Oper} {o : Oper} {a : Act} {w : World} {K : Act → World → Prop} {Q : Exit → Act → World → Prop} {E : Prop} (hgd : o.guard = none) (f : FuncId) (fn : Func) (hfn : Tryd.prog.funcs[f]? = some fn) (hnm : (fn.name == "runtime.NumGoroutine") = false) (hbd : fn.body.isSome = true) (xs : Array Operand) (ts : Array TypeId)
  (ho : o.op = .call { callee := .value (.func f), args := xs, argTypes := ts }) (vs : Array Value) (hvs : xs.map a.eval = vs) (R : Value → World → Prop) (hc : Calls Tryd.prog f vs w fun e w' => ∃ v, e = .returned v ∧ R v w')
  (h : ∀ v w', R v w' → K (a.put o.dst v) w') : if Region.wanted o (yielded ops a.tmps) = true then Oper.wp Tryd.prog o a w K Q else E := by
 have hw : Region.wanted o (yielded ops a.tmps) = true := by simp [Region.wanted, hgd]
 rw [if_pos hw]
 unfold Oper.wp
 have e1 : (execOp a.eval o).run Tryd.prog w = .ok (.enter f vs) w := by
  have h1 : ¬ fn.name = "runtime.NumGoroutine" := by simpa using hnm
  have h2 : ¬ fn.body = none := by intro e; rw [e] at hbd; simp at hbd
  simp [execOp, ho, resolve, invoke, Act.eval, hvs, Deferred.ofValue, callFunc, hfn, h1, h2]
 rw [e1]
 show Calls Tryd.prog f vs w _
 exact hc.mono (fun e w' ⟨v, he, hr⟩ => by subst he; exact h v w' hr)
theorem Is.slot {H : HS} {oop : Nat} {t : Th} (hi : Is H oop t) (i : Nat) (hin : i < t.slots.length) (a : Nat) (l : Lay) (hb : (H.mem.length : Int) ≤ 1048576) (w : World) (h : Rep w a l H) :
  Calls Tryd.prog 98 #[.pointer (some ⟨a, 0, none⟩), sv (H.seats.getD oop (0, 0, 0)), .int .i64 t.fmt, .int .i64 i] w fun e w' => e = .returned (.int .i64 (t.slots.getD i 0)) ∧ Fr [] w w' := by
 have hr := hi.room
 have hl := hi.len
 have h2' := lenN_two t.slots.length t.fmt
 rcases (show t.fmt = 0 ∨ t.fmt = 1 from by have := hi.fmt; omega) with hf | hf
 ·have := lenN_word t.slots.length i t.fmt hf hin
  rw [hf, ← hi.word hf i hin]
  exact slot_w _ i a l H w h (by omega) hb
 ·obtain ⟨old, o1, o2, o3⟩ := hi.byte hf i hin
  have := lenN_byte t.slots.length i hin
  rw [← hf] at this
  rw [hf, o3]
  exact getB_any _ i old a l H w h (by omega) hb o1 (by omega)
theorem own_base {w : World} {b0 b1 : Nat} {e : TypeId} {size : Nat} {v : Value} {n : Nat} {xs : List Value} (h : w.ownsRow b1 e size v n xs) (hb : b0 ≤ b1) : w.ownsRow b0 e size v n xs := by
 refine ⟨h.1, ?_⟩
 rcases h.2 with h2 | ⟨g, cap, cur, h2, h3, h4⟩
 ·exact .inl h2
 ·exact .inr ⟨g, cap, cur, h2, Nat.le_trans hb h3, h4⟩
structure Obj1 (w W : World) (B : Nat) (oop cls fmt : Int) (p L t : Nat) (ss : List Int) (k : Nat) : Prop where
 fr : Fr [] w W
 lo : w.heap.size + 2 ≤ B
 res : W.heap[w.heap.size]? = some (.cells #[.int .i64 0, .int .i64 0, .int .i64 0, .slice none 0 0] 106 (0, 0))
 seat : W.heap[w.heap.size + 1]? = some (.cells #[.int .i64 (p : Int), .int .i64 (L : Int), .int .i64 (t : Int)] 103 (0, 0))
 at_ : ∃ v, W.heap[B]? = some (.cells #[.int .i64 oop, .int .i64 cls, .int .i64 fmt, v] 106 (0, 0)) ∧ W.ownsRow (B + 1) 33 1 v k ((ss.take k).map (Value.int .i64))
theorem Obj1.idle {w W W' : World} {B : Nat} {oop cls fmt : Int} {p L t : Nat} {ss : List Int} {k : Nat} (h : Obj1 w W B oop cls fmt p L t ss k) (hf : Fr [] W W') : Obj1 w W' B oop cls fmt p L t ss k := by
 obtain ⟨v, h1, h2⟩ := h.at_
 exact ⟨h.fr.trans hf (by simp), h.lo, (hf.block _ (lt_of_heap h.res) (by simp)).trans h.res, (hf.block _ (lt_of_heap h.seat) (by simp)).trans h.seat, v, (hf.block _ (lt_of_heap h1) (by simp)).trans h1, own_congr h2 fun g hg => by
  obtain ⟨c, p, q⟩ : ∃ c, True ∧ W.heap[g]? = some c := ⟨_, trivial, Array.getElem?_eq_getElem (h2.lt g hg).2⟩
  exact hf.block g (h2.lt g hg).2 (by simp)⟩
theorem Obj1.next {w W V W2 : World} {B : Nat} {oop cls fmt : Int} {p L t : Nat} {ss : List Int} {k g2 cap : Nat} {v : Value} {x : Int} (h : Obj1 w W B oop cls fmt p L t ss k) (hv : W.heap[B]? = some (.cells #[.int .i64 oop, .int .i64 cls, .int .i64 fmt, v] 106 (0, 0))) (ho : W.ownsRow (B + 1) 33 1 v k ((ss.take k).map (Value.int .i64)))
  (hk : k < ss.length) (hx : ss.getD k 0 = x) (hg : (W.alloc (.cells #[.int .i64 x] 33)).grownBy W2 v.ownBlock) (hown : W2.ownsRow (B + 1) 33 1 (.slice (some ⟨g2, 0, none⟩) (k + 1) cap) (k + 1) ((ss.take k).map (Value.int .i64) ++ [.int .i64 x]))
  (he : Eqw (W2.setCell ⟨B, 3, none⟩ (.slice (some ⟨g2, 0, none⟩) (k + 1) cap)) V) : Obj1 w V B oop cls fmt p L t ss (k + 1) := by
 have hBl := lt_of_heap hv
 have hne : ∀ b, v.ownBlock = some b → B + 1 ≤ b := fun b hb => (ho.lt b hb).1
 have hsame : ∀ i, i < W.heap.size → i ≤ B → W2.heap[i]? = W.heap[i]? := fun i hi hle => by
  rw [hg.block i (by simp; omega) (fun e => by have := hne _ e.symm; omega)]
  exact Below.heap_alloc _ _ _ hi
 have hV : ∀ i, i ≠ B → V.heap[i]? = W2.heap[i]? := fun i hi => by rw [he.2.2.2, set_else hi]
 have hlo := h.lo
 have hg2 : B + 1 ≤ g2 := (hown.lt g2 rfl).1
 refine ⟨?_, h.lo, ?_, ?_, .slice (some ⟨g2, 0, none⟩) (k + 1) cap, ?_, ?_⟩
 ·have F1 : Fr [] w W2 := by
   refine ⟨hg.os.trans h.fr.os, hg.tape.trans h.fr.tape, hg.output.trans h.fr.output, Nat.le_trans h.fr.size (Nat.le_trans (by simp) hg.size), fun i hi hn => ?_⟩
   have := h.fr.size
   rw [hsame i (by omega) (by omega)]
   exact h.fr.block i hi (by simp)
  have F2 : Fr [] w (W2.setCell ⟨B, 3, none⟩ (.slice (some ⟨g2, 0, none⟩) (k + 1) cap)) := F1.trans (Fr.setCell (S := [B]) _ _ _ (by simp)) (fun b hb => by simp at hb; subst hb; right; omega)
  exact F2.trans (he.fr []) (by simp)
 ·rw [hV _ (by omega), hsame _ (lt_of_heap h.res) (by omega)]; exact h.res
 ·rw [hV _ (by omega), hsame _ (lt_of_heap h.seat) (by omega)]; exact h.seat
 ·have h4 := hsame B hBl (Nat.le_refl _)
  rw [hv] at h4
  rw [he.2.2.2, set_in h4]
  rfl
 ·have e1 : (ss.take (k + 1)).map (Value.int .i64) = (ss.take k).map (Value.int .i64) ++ [.int .i64 x] := by
   rw [List.take_succ_eq_append_getElem hk, List.map_append, ← hx, List.getD_eq_getElem?_getD, List.getElem?_eq_getElem hk]
   rfl
  rw [e1]
  exact own_congr hown fun g hg3 => hV g (by
   have : g = g2 := by simpa [Value.ownBlock] using hg3.symm
   omega)
set_option maxRecDepth 20000 in
set_option maxHeartbeats 1000000 in
theorem object_ok (oop : Nat) (t : Th) (a : Nat) (l : Lay) (H : HS) (w : World) (h : Rep w a l H) (hi : Is H oop t) (hb : (H.mem.length : Int) ≤ 1048576) :
  Calls Tryd.prog 62 #[.pointer (some ⟨a, 0, none⟩), .int .i64 oop] w fun e w' => ∃ v, e = .returned (.agg #[.int .i64 oop, .int .i64 t.cls, .int .i64 (t.fmt : Int), v]) ∧ w'.ownsRow w.heap.size 33 1 v t.slots.length (t.slots.map (Value.int .i64)) ∧ Fr [] w w' := by
 obtain ⟨h1, h2, h3⟩ := has_yes hi.has
 have hr := hi.room
 have hl := hi.len
 have hfm := hi.fmt
 have h2' := lenN_two t.slots.length t.fmt
 have hal := h.lt a (by simp [foot])
 obtain ⟨gs, hgs, hcs, hfs, hgsa, hgsl⟩ := h.seatAt oop (by omega)
 obtain ⟨p0, p1, p2⟩ := hcs oop (by omega)
 obtain ⟨gm, hgm, hcg, hfg, hga, hgl⟩ := h.memBlock (by omega)
 have qm := hcg (H.seats.getD oop (0, 0, 0)).1 (by omega)
 rw [hi.cls] at qm
 have c4 := h.c4
 have c5 := h.c5
 rw [hgs] at c5
 rw [hgm] at c4
 have HSh : Hid (∀ V, Fr [] w V → Calls Tryd.prog 71 #[.pointer (some ⟨a, 0, none⟩), sv (H.seats.getD oop (0, 0, 0))] V fun e w' => e = .returned (.tuple #[.int .i64 t.slots.length, .int .i64 t.fmt]) ∧ Fr [] V w') := by
  intro V hV
  have := shape_of (H.seats.getD oop (0, 0, 0)) (2 * t.slots.length + t.fmt) a l H V (h.keep hV (by simp)) (by omega) hi.shape hb
  rw [show (2 * t.slots.length + t.fmt) / 2 = t.slots.length from by omega, show (2 * t.slots.length + t.fmt) % 2 = t.fmt from by omega] at this
  exact this
 have HSl : Hid (∀ V, Fr [] w V → ∀ i, i < t.slots.length → Calls Tryd.prog 98 #[.pointer (some ⟨a, 0, none⟩), sv (H.seats.getD oop (0, 0, 0)), .int .i64 t.fmt, .int .i64 i] V fun e w' => e = .returned (.int .i64 (t.slots.getD i 0)) ∧ Fr [] V w') := fun V hV i hin => hi.slot i hin a l hb V (h.keep hV (by simp))
 have hs1 := hi.room
 clear h hi hcs hfs hcg
 generalize H.seats.getD oop (0, 0, 0) = s at *
 obtain ⟨p, L, tn⟩ := s
 dsimp only [sv, I] at *
 have k1 : (0 : Int) ≤ (oop : Int) := by omega
 have k2 : (oop : Int) < (H.seats.length : Int) := by omega
 have k3 : (0 : Int) ≤ (p : Int) := by omega
 have k4 : (p : Int) < (H.mem.length : Int) := by omega
 obtain ⟨j0, ji, jz0, jz1, jz2⟩ := info_parts info33
 go_enter Tryd.func62, Tryd.ntmps62
 go_wp2_with fail
 have F2 : Fr [] w ((w.alloc (.cells #[.int .i64 0, .int .i64 0, .int .i64 0, .slice none 0 0] 106)).alloc (.cells #[.int .i64 (p : Int), .int .i64 (L : Int), .int .i64 (tn : Int)] 103)) := (Fr.alloc [] _ _).trans (Fr.alloc [] _ _) (by simp)
 have HB : Hid (((w.alloc (.cells #[.int .i64 0, .int .i64 0, .int .i64 0, .slice none 0 0] 106)).alloc (.cells #[.int .i64 (p : Int), .int .i64 (L : Int), .int .i64 (tn : Int)] 103)).heap[w.heap.size]? = some (.cells #[.int .i64 0, .int .i64 0, .int .i64 0, .slice none 0 0] 106 (0, 0)) ∧
   ((w.alloc (.cells #[.int .i64 0, .int .i64 0, .int .i64 0, .slice none 0 0] 106)).alloc (.cells #[.int .i64 (p : Int), .int .i64 (L : Int), .int .i64 (tn : Int)] 103)).heap[w.heap.size + 1]? = some (.cells #[.int .i64 (p : Int), .int .i64 (L : Int), .int .i64 (tn : Int)] 103 (0, 0)) ∧
   ((w.alloc (.cells #[.int .i64 0, .int .i64 0, .int .i64 0, .slice none 0 0] 106)).alloc (.cells #[.int .i64 (p : Int), .int .i64 (L : Int), .int .i64 (tn : Int)] 103)).heap.size = w.heap.size + 2) := by
  refine ⟨?_, ?_, by simp⟩
  ·rw [Below.heap_alloc _ _ _ (by simp)]; exact heap_alloc_new _ _
  ·have := heap_alloc_new (w.alloc (.cells #[.int .i64 0, .int .i64 0, .int .i64 0, .slice none 0 0] 106)) (.cells #[.int .i64 (p : Int), .int .i64 (L : Int), .int .i64 (tn : Int)] 103)
   simpa using this
 have HSh2 := mkHid (HSh.out _ F2)
 have HF2 := mkHid F2
 clear F2 HSh
 generalize ((w.alloc (.cells #[.int .i64 0, .int .i64 0, .int .i64 0, .slice none 0 0] 106)).alloc (.cells #[.int .i64 (p : Int), .int .i64 (L : Int), .int .i64 (tn : Int)] 103)) = W2 at *
 refine Calls.mono HSh2.out ?_
 rintro e w3 ⟨rfl, hf3⟩
 obtain ⟨hb1, hb2, hb3⟩ := HB.out
 have F3 := HF2.out.trans hf3 (by simp)
 have r1 := (hf3.block _ (lt_of_heap hb1) (by simp)).trans hb1
 have r2 := (hf3.block _ (lt_of_heap hb2) (by simp)).trans hb2
 have hz3 := hf3.size
 have d4 := (F3.cell (p := ⟨a, 4, none⟩) hal (by simp)).trans c4
 have dm := (F3.cell (p := ⟨gm, p, none⟩) hgl (by simp)).trans qm
 have b0 : w3.cell? ⟨w.heap.size + 1, 0, none⟩ = some (.int .i64 (p : Int)) := by rw [cell_in r2]; rfl
 have hz4 : w.heap.size + 2 ≤ w3.heap.size := by omega
 have hz5 : w.heap.size + 1 < w3.heap.size := by omega
 have hz6 : a < w3.heap.size := by omega
 have hz7 : gm < w3.heap.size := by omega
 have HO : Hid (∀ V, Eqw (w3.alloc (.cells #[.int .i64 (oop : Int), .int .i64 t.cls, .int .i64 (t.fmt : Int), .slice none 0 0] 106)) V → Obj1 w V w3.heap.size oop t.cls t.fmt p L tn t.slots 0) := by
  intro V hV
  have hk : ∀ i, i < w3.heap.size → V.heap[i]? = w3.heap[i]? := fun i hi => by rw [hV.2.2.2]; exact Below.heap_alloc _ _ _ hi
  exact ⟨(F3.trans (Fr.alloc [] _ _) (by simp)).trans (hV.fr []) (by simp), hz4, (hk _ (by omega)).trans r1, (hk _ (by omega)).trans r2, .slice none 0 0, by rw [hV.2.2.2]; exact heap_alloc_new _ _, World.ownsRow_nil _ _ _ _⟩
 clear hb1 hb2 hb3 F3 r1 r2 hf3 HB HF2 HSh2 p0 p1 p2 qm c4 c5
 go_wp2_with fail
 go_region
 all_goals go_wp2_with fail
 have HO1 := mkHid (HO.out _ (eqw_drew _))
 have HG := mkHid (grow105 t.slots.length (by omega) ((w3.alloc (.cells #[.int .i64 (oop : Int), .int .i64 t.cls, .int .i64 (t.fmt : Int), .slice none 0 0] 106)).drew))
 have hVs : ((w3.alloc (.cells #[.int .i64 (oop : Int), .int .i64 t.cls, .int .i64 (t.fmt : Int), .slice none 0 0] 106)).drew).heap.size = w3.heap.size + 1 := by simp
 clear HO d4 dm b0 hz5 hz6 hz7 k1 k2 k3 k4 hgsl hgl hga hgsa hgs hgm
 generalize (w3.alloc (.cells #[.int .i64 (oop : Int), .int .i64 t.cls, .int .i64 (t.fmt : Int), .slice none 0 0] 106)).drew = V0 at *
 refine Calls.mono HG.out ?_
 rintro e w4 ⟨v4, rfl, ho4, hf4⟩
 obtain ⟨p4, c4, rfl⟩ : ∃ p c, v4 = .slice p 0 c := by
  rcases ho4.2 with ⟨h2, h3⟩ | ⟨g, cap, cur, h2, _⟩
  ·exact ⟨none, 0, h2⟩
  ·exact ⟨_, cap, h2⟩
 have hO4 := HO1.out.idle hf4
 obtain ⟨v0, hv0, -⟩ := hO4.at_
 have e3 : w4.cell? ⟨w3.heap.size, 3, none⟩ = some v0 := by rw [cell_in hv0]; rfl
 have f3 := frozen_in hv0 3
 rw [hVs] at ho4
 have HO4 : Hid (Obj1 w (w4.setCell ⟨w3.heap.size, 3, none⟩ (.slice p4 0 c4)) w3.heap.size oop t.cls t.fmt p L tn t.slots 0) := by
  have hne : ∀ i, i ≠ w3.heap.size → (w4.setCell ⟨w3.heap.size, 3, none⟩ (.slice p4 0 c4)).heap[i]? = w4.heap[i]? := fun i hi => set_else hi
  refine ⟨hO4.fr.trans (Fr.setCell (S := [w3.heap.size]) _ _ _ (by simp)) (fun b hb => by simp at hb; subst hb; right; omega), hO4.lo, (hne _ (by omega)).trans hO4.res, (hne _ (by omega)).trans hO4.seat, .slice p4 0 c4, ?_, ?_⟩
  ·rw [set_in hv0]; rfl
  ·exact own_congr ho4 fun g hg => hne g (by have := (ho4.lt g hg).1; omega)
 clear hO4 hv0 ho4 hf4 HG HO1
 go_wp2_with fail
 generalize w4.setCell ⟨w3.heap.size, 3, none⟩ (.slice p4 0 c4) = W4 at *
 go_loopw [40] (fun q wr => ∃ k : Nat, k ≤ t.slots.length ∧ q = .int .i64 k ∧ Hid (Obj1 w wr w3.heap.size oop t.cls t.fmt p L tn t.slots k)) (fun q _ => t.slots.length - (intOf q).toNat)
 case atStart => exact ⟨0, Nat.zero_le _, rfl, HO4.out⟩
 case round =>
  obtain ⟨k, hkn, rfl, hq⟩ := hrel
  obtain ⟨v, hv, ho⟩ := hq.out.at_
  by_cases hlt : k < t.slots.length
  ·have k2 : (k : Int) < (t.slots.length : Int) := by omega
   have d3 : wr.cell? ⟨w3.heap.size, 3, none⟩ = some v := by rw [cell_in hv]; rfl
   have g0 : wr.cell? ⟨w.heap.size + 1, 0, none⟩ = some (.int .i64 (p : Int)) := by rw [cell_in hq.out.seat]; rfl
   have g1 : wr.cell? ⟨w.heap.size + 1, 1, none⟩ = some (.int .i64 (L : Int)) := by rw [cell_in hq.out.seat]; rfl
   have g2 : wr.cell? ⟨w.heap.size + 1, 2, none⟩ = some (.int .i64 (tn : Int)) := by rw [cell_in hq.out.seat]; rfl
   obtain ⟨x, hx⟩ : ∃ x, t.slots.getD k 0 = x := ⟨_, rfl⟩
   have HSk : Hid (Calls Tryd.prog 98 #[.pointer (some ⟨a, 0, none⟩), .agg #[.int .i64 (p : Int), .int .i64 (L : Int), .int .i64 (tn : Int)], .int .i64 t.fmt, .int .i64 k] wr.drew fun e w' => ∃ v, e = .returned v ∧ (v = .int .i64 x ∧ Hid (Fr [] wr w'))) := by
    have := HSl.out wr.drew (hq.out.fr.trans (Fr.drew [] wr) (by simp)) k hlt
    rw [hx] at this
    refine Calls.mono this ?_
    rintro e w' ⟨rfl, hf⟩
    exact ⟨_, rfl, rfl, (Fr.drew [] wr).trans hf (by simp)⟩
   have HBf : Hid (∀ V, Hid (Fr [] wr V) → w3.heap.size < V.heap.size ∧ V.cell? ⟨w3.heap.size, 3, none⟩ = some v ∧ (V.alloc (.cells #[.int .i64 x] 33)).ownsRow (w3.heap.size + 1) 33 1 v k ((t.slots.take k).map (Value.int .i64)) ∧ (∀ j u, ([.int .i64 x] : List Value)[j]? = some u → (V.alloc (.cells #[.int .i64 x] 33)).cell? ((⟨V.heap.size, 0, none⟩ : Addr).add j) = some u)) := by
    intro V hV
    refine ⟨Nat.lt_of_lt_of_le (lt_of_heap hv) hV.out.size, (hV.out.cell (p := ⟨w3.heap.size, 3, none⟩) (lt_of_heap hv) (by simp)).trans d3, (own_congr ho fun g hg => hV.out.block g (ho.lt g hg).2 (by simp)).alloc _, World.news_of_block (heap_alloc_new V (.cells #[.int .i64 x] 33))⟩
   have HN : Hid (∀ V g2 cap W2 V2, Hid (Fr [] wr V) → (V.alloc (.cells #[.int .i64 x] 33)).grownBy W2 v.ownBlock → W2.ownsRow (w3.heap.size + 1) 33 1 (.slice (some ⟨g2, 0, none⟩) (k + 1) cap) (k + 1) ((t.slots.take k).map (Value.int .i64) ++ [.int .i64 x]) → Eqw (W2.setCell ⟨w3.heap.size, 3, none⟩ (.slice (some ⟨g2, 0, none⟩) (k + 1) cap)) V2 → Obj1 w V2 w3.heap.size oop t.cls t.fmt p L tn t.slots (k + 1)) := by
    intro V g2 cap W2 V2 hV hg hown he
    exact (hq.out.idle hV.out).next ((hV.out.block _ (lt_of_heap hv) (by simp)).trans hv) (own_congr ho fun g hg => hV.out.block g (ho.lt g hg).2 (by simp)) hlt hx hg hown he
   have HFz : Hid (∀ V W2, Hid (Fr [] wr V) → (V.alloc (.cells #[.int .i64 x] 33)).grownBy W2 v.ownBlock → W2.frozen? ⟨w3.heap.size, 3, none⟩ = false ∧ W2.cell? ⟨w3.heap.size, 3, none⟩ = some v) := by
    intro V W2 hV hg
    have h1 : W2.heap[w3.heap.size]? = some (.cells #[.int .i64 (oop : Int), .int .i64 t.cls, .int .i64 (t.fmt : Int), v] 106 (0, 0)) := by
     rw [hg.block _ (by simp; have := lt_of_heap hv; have := hV.out.size; omega) (fun e => by have := (ho.lt _ e.symm).1; omega), Below.heap_alloc _ _ _ (Nat.lt_of_lt_of_le (lt_of_heap hv) hV.out.size)]
     exact (hV.out.block _ (lt_of_heap hv) (by simp)).trans hv
    exact ⟨frozen_in h1 3, by rw [cell_in h1]; rfl⟩
   have hB := lt_of_heap hv
   clear hq hv ho HSl hx
   go_wp2_with fail
   go_region_law
    (first
     | (refine step_append_lies _ rfl (.tmp 44) (.tmp 50) 80 rfl (w3.heap.size + 1) 33 j0 (.int .i64 0) 1 8 Tryd.underlying80 ji jz0 jz1 jz2 rfl (by decide) v k ((t.slots.take k).map (Value.int .i64)) (by simp [Act.eval]) z3 ⟨w5.heap.size, 0, none⟩ 1 1 [.int .i64 x] (by simp [Act.eval]) rfl z4 (by simp [Value.oneCell']) (by decide) (by unfold maxLen; omega) (by omega) (by simp; omega) _ rfl ?_; intro g6 c6 w6 hown6 hgrow6 hat6 hlt6; obtain ⟨y1, y2⟩ := HFz.out w5 w6 hf5 hgrow6)
     | (refine step_call rfl 98 Tryd.f98 Tryd.func98 (by kernel_rfl) (by kernel_rfl) _ _ rfl _ (by simp [Act.eval]) _ HSk.out ?_; rintro _ w5 ⟨rfl, hf5⟩; obtain ⟨z1, z2, z3, z4⟩ := HBf.out w5 hf5))
   all_goals go_wp2_with fail
   all_goals
    go_roundw
    case rel => exact ⟨k + 1, by omega, by go_num, HN.out w5 g6 c6 w6 _ hf5 hgrow6 hown6 ⟨rfl, rfl, rfl, rfl⟩⟩
    case measure => simp [intOf]; omega
  ·have hke : k = t.slots.length := by omega
   subst hke
   rw [List.take_length] at ho
   have hB := lt_of_heap hv
   have d0 : wr.cell? ⟨w3.heap.size, 0, none⟩ = some (.int .i64 (oop : Int)) := by rw [cell_in hv]; rfl
   have d1 : wr.cell? ⟨w3.heap.size, 1, none⟩ = some (.int .i64 t.cls) := by rw [cell_in hv]; rfl
   have d2 : wr.cell? ⟨w3.heap.size, 2, none⟩ = some (.int .i64 (t.fmt : Int)) := by rw [cell_in hv]; rfl
   have d3 : wr.cell? ⟨w3.heap.size, 3, none⟩ = some v := by rw [cell_in hv]; rfl
   have hr := hq.out.res
   have r0 : wr.cell? ⟨w.heap.size, 0, none⟩ = some (.int .i64 0) := by rw [cell_in hr]; rfl
   have r1 : wr.cell? ⟨w.heap.size, 1, none⟩ = some (.int .i64 0) := by rw [cell_in hr]; rfl
   have r2 : wr.cell? ⟨w.heap.size, 2, none⟩ = some (.int .i64 0) := by rw [cell_in hr]; rfl
   have r3 : wr.cell? ⟨w.heap.size, 3, none⟩ = some (.slice none 0 0) := by rw [cell_in hr]; rfl
   have y0 := frozen_in hr 0
   have y1 := frozen_in hr 1
   have y2 := frozen_in hr 2
   have y3 := frozen_in hr 3
   have hlo := hq.out.lo
   obtain ⟨pv, cv, rfl⟩ : ∃ p c, v = .slice p t.slots.length c := by
    rcases ho.2 with ⟨h2, h3⟩ | ⟨g, cap, cur, h2, _⟩
    ·exact ⟨none, 0, by rw [h2, h3]⟩
    ·exact ⟨_, cap, h2⟩
   have HE : Hid (∀ V, Fr [w.heap.size] wr V → V.ownsRow w.heap.size 33 1 (.slice pv t.slots.length cv) t.slots.length (t.slots.map (Value.int .i64)) ∧ Fr [] w V) := by
    intro V hV
    refine ⟨own_base (own_congr ho fun g hg => hV.block g (ho.lt g hg).2 (by have := (ho.lt g hg).1; simp; omega)) (by omega), hq.out.fr.trans hV (fun b hb => by simp at hb; subst hb; right; exact Nat.le_refl _)⟩
   have hne : w.heap.size ≠ w3.heap.size := by omega
   have HRes := mkHid hr
   clear hq hv ho HSl hr
   go_wp2_with fail
   obtain ⟨V, hV⟩ : ∃ V, V = (((wr.setCell ⟨w.heap.size, 0, none⟩ (.int .i64 (oop : Int))).setCell ⟨w.heap.size, 1, none⟩ (.int .i64 t.cls)).setCell ⟨w.heap.size, 2, none⟩ (.int .i64 (t.fmt : Int))).setCell ⟨w.heap.size, 3, none⟩ (.slice pv t.slots.length cv) := ⟨_, rfl⟩
   have hVb : V.heap[w.heap.size]? = some (.cells #[.int .i64 (oop : Int), .int .i64 t.cls, .int .i64 (t.fmt : Int), .slice pv t.slots.length cv] 106 (0, 0)) := by
    rw [hV, set_in (set_in (set_in (set_in HRes.out 0 _) 1 _) 2 _) 3 _]
    rfl
   have F : Fr [w.heap.size] wr V := by
    rw [hV]
    exact (((Fr.setCell (S := [w.heap.size]) wr ⟨w.heap.size, 0, none⟩ (.int .i64 (oop : Int)) (by simp)).trans (Fr.setCell (S := [w.heap.size]) _ ⟨w.heap.size, 1, none⟩ (.int .i64 t.cls) (by simp)) (fun b hb => .inl hb)).trans (Fr.setCell (S := [w.heap.size]) _ ⟨w.heap.size, 2, none⟩ (.int .i64 (t.fmt : Int)) (by simp)) (fun b hb => .inl hb)).trans (Fr.setCell (S := [w.heap.size]) _ ⟨w.heap.size, 3, none⟩ (.slice pv t.slots.length cv) (by simp)) (fun b hb => .inl hb)
   rw [← hV]
   clear hV
   have x0 : V.cell? ⟨w.heap.size, 0, none⟩ = some (.int .i64 (oop : Int)) := by rw [cell_in hVb]; rfl
   have x1 : V.cell? ⟨w.heap.size, 1, none⟩ = some (.int .i64 t.cls) := by rw [cell_in hVb]; rfl
   have x2 : V.cell? ⟨w.heap.size, 2, none⟩ = some (.int .i64 (t.fmt : Int)) := by rw [cell_in hVb]; rfl
   have x3 : V.cell? ⟨w.heap.size, 3, none⟩ = some (.slice pv t.slots.length cv) := by rw [cell_in hVb]; rfl
   refine bodyPost_ret (v := .agg #[.int .i64 (oop : Int), .int .i64 t.cls, .int .i64 (t.fmt : Int), .slice pv t.slots.length cv]) (by simp [results, Tryd.results62, go_sem, x0, x1, x2, x3]) rfl ?_
   obtain ⟨h5, h6⟩ := HE.out V F
   exact ⟨_, rfl, h5, h6⟩
end Go.Proofs.YtklfnjlenbgmoaaDoor
