import Derived.Test.YtcoddjdicodmhaaDoorKHFree
import Derived.BigQuiet
namespace Go.Proofs.YtcoddjdicodmhaaDoor
open Go.RowKit
set_option linter.unusedVariables false
attribute [local go_sem ↓] Go.wp_at_zero Go.wp_at_succ
set_option maxRecDepth 20000 in
set_option maxHeartbeats 1000000 in
theorem Point_ok (a : Nat) (l : Lay) (H : HS) (w : World) (h : Rep w a l H) :
    Calls Tryd.prog 27 #[.pointer (some ⟨a, 0, none⟩)] w fun e w' => e = .returned (.agg #[.pointer (some ⟨a, 0, none⟩), .int .i64 (H.age : Int), .int .i64 (H.order.length : Int)]) ∧ Fr [] w w' := by
  have hal := h.lt a (by simp [foot])
  have c0 := (World.cell?_alloc_lt w (.cells #[.pointer none, .int .i64 0, .int .i64 0] 62) ⟨a, 0, none⟩ hal).trans h.c0
  have c10 := h.c10
  have c6 := h.c6
  have HM := mkHid (made_any a _ c0)
  clear h c0
  go_enter Tryd.func27, Tryd.ntmps27
  go_wp2_with (go_at_call 44; refine Calls.mono HM.out ?_; rintro e w' ⟨rfl, hw'⟩; rw [hw']; clear hw' w')
  go_region
  all_goals go_wp2_with fail
  refine bodyPost_ret (v := .agg #[.pointer (some ⟨a, 0, none⟩), .int .i64 (H.age : Int), .int .i64 (H.order.length : Int)]) (by simp [results, Tryd.results27, go_sem]) rfl ⟨rfl, (Fr.alloc [] _ _).trans (Fr.drew [] _) (by simp)⟩
/-- those from turn k on go, the first j of them -/
def backTo (H : HS) (T : Nat) : Nat → HS
  | 0 => H
  | j + 1 => vacH (backTo H T j) (H.order.getD (T + j) 0)
theorem backTo_age (H : HS) (T : Nat) : ∀ j, (backTo H T j).age = H.age := by
  intro j
  induction j with
  | zero => rfl
  | succ j ih => exact ih
structure BackOk (H : HS) (T : Nat) : Prop where
  t : T ≤ H.order.length
  vac : ∀ j, T + j < H.order.length → VacOk (backTo H T j) (H.order.getD (T + j) 0) ∧ (backTo H T j).order.getD (T + j) 0 = H.order.getD (T + j) 0 ∧ (backTo H T j).order.length = H.order.length
  r1 : (H.order.length : Int) ≤ 1048576
  a1 : (H.age : Int) ≤ 1000000000
theorem run_neq_ptr_same {tp te : TypeId} {j : TypeInfo} (V : World) (a : Addr) (hp : Tryd.prog.underlying tp = some (.pointer te)) (hte : Tryd.prog.info? te = some j) :
    (binOp .neq tp (.pointer (some a)) (.pointer (some a))).run Tryd.prog V = .ok (.bool false) V := by
  have h : ∀ d : Nat, (Op.equalIn (d + 1) tp (.pointer (some a)) (.pointer (some a))).run Tryd.prog V = .ok true V := fun d => by
    simp [Op.equalIn, run_underlying hp, sizeOf, typeInfo, hte, run_sameAddr_same]
  simp only [binOp]
  simp [Op.equal, Op.maxDepth, h 9999]
set_option maxRecDepth 20000 in
set_option maxHeartbeats 1000000 in
theorem Back_no (ag tn : Int) (a : Nat) (l : Lay) (H : HS) (w : World) (h : Rep w a l H) (hne : (ag != (H.age : Int)) = true) :
    Calls Tryd.prog 31 #[.pointer (some ⟨a, 0, none⟩), .agg #[.pointer (some ⟨a, 0, none⟩), .int .i64 ag, .int .i64 tn]] w fun e w' => e = .returned (.int .i64 25) ∧ Fr [] w w' := by
  have hal := h.lt a (by simp [foot])
  have c0 := (World.cell?_alloc_lt w (.cells #[.pointer (some ⟨a, 0, none⟩), .int .i64 ag, .int .i64 tn] 62) ⟨a, 0, none⟩ hal).trans h.c0
  have c10 := (World.cell?_alloc_lt w (.cells #[.pointer (some ⟨a, 0, none⟩), .int .i64 ag, .int .i64 tn] 62) ⟨a, 10, none⟩ hal).trans h.c10
  have HM := mkHid (made_any a _ c0)
  have HE : Hid (∀ n, Fr [] w ((w.alloc (.cells #[.pointer (some ⟨a, 0, none⟩), .int .i64 ag, .int .i64 tn] 62)).drewN n)) := fun n => (Fr.alloc [] _ _).trans (Fr.drewN [] _ _) (by simp)
  obtain ⟨j, hj⟩ := Option.isSome_iff_exists.1 info95
  have hq := fun V => run_neq_ptr_same V ⟨a, 0, none⟩ Tryd.underlying24 hj
  clear h c0 hj
  go_enter Tryd.func31, Tryd.ntmps31
  go_wp2_with (go_at_call 44; refine Calls.mono HM.out ?_; rintro e w' ⟨rfl, hw'⟩; rw [hw']; clear hw' w')
  go_region
  all_goals go_wp2_with fail
  all_goals
    go_ret
    exact ⟨rfl, HE.out _⟩
set_option maxRecDepth 20000 in
set_option maxHeartbeats 1000000 in
theorem Back_ok (T t e0 : Nat) (a : Nat) (l : Lay) (H : HS) (w : World) (h : Rep w a l H) (hk : BackOk H T) (hd : DrawOk (backTo H T (H.order.length - T)) t e0) :
    Calls Tryd.prog 31 #[.pointer (some ⟨a, 0, none⟩), .agg #[.pointer (some ⟨a, 0, none⟩), .int .i64 (H.age : Int), .int .i64 (T : Int)]] w fun e w' => e = .returned (.int .i64 0) ∧ Rep w' a l { drawH (backTo H T (H.order.length - T)) t e0 with age := H.age + 1 } ∧ Nx a l l w w' := by
  have hal := h.lt a (by simp [foot])
  obtain ⟨o, ho⟩ : ∃ o, o = Obj.cells #[.pointer (some ⟨a, 0, none⟩), .int .i64 (H.age : Int), .int .i64 (T : Int)] 62 := ⟨_, rfl⟩
  have c0 := (World.cell?_alloc_lt w o ⟨a, 0, none⟩ hal).trans h.c0
  have c10 := (World.cell?_alloc_lt w o ⟨a, 10, none⟩ hal).trans h.c10
  have c6 := (World.cell?_alloc_lt w o ⟨a, 6, none⟩ hal).trans h.c6
  have HM := mkHid (made_any a _ c0)
  have hr1 := h.alloc o
  have HR1 := mkHid hr1
  have HX1 : Hid (Nx a l l w (w.alloc o)) := Nx.frw (Fr.alloc _ _ _)
  obtain ⟨j, hj⟩ := Option.isSome_iff_exists.1 info95
  have hq := fun V => run_neq_ptr_same V ⟨a, 0, none⟩ Tryd.underlying24 hj
  have ht := hk.t
  have hrl := hk.r1
  have hage := hk.a1
  have HK := mkHid hk
  have HD := mkHid hd
  have u1 : (0 : Int) ≤ (T : Int) := by omega
  have u2 : (T : Int) ≤ (H.order.length : Int) := by omega
  have hcap : H.order.length ≤ l.co := by
    rcases h.order.2 with ⟨q, q0⟩ | ⟨g, cap, cur, q1, q2, q3, q4, q5, q6, q7⟩
    · injection q with _ _ q3; omega
    · injection q1 with _ _ q1c; omega
  have hpo : (l.po = none → H.order.length = 0 ∧ l.co = 0) ∧ (∀ ad, l.po = some ad → ∃ g, ad = ⟨g, 0, none⟩) := by
    rcases h.order.2 with ⟨q, q0⟩ | ⟨g, cap, cur, q1, q2, q3, q4, q5, q6, q7⟩
    · injection q with q1 _ q3; exact ⟨fun _ => ⟨by omega, by omega⟩, fun ad hd => (by rw [q1] at hd; cases hd)⟩
    · injection q1 with q1 _ q1c; exact ⟨fun hd => (by rw [q1] at hd; cases hd), fun ad hd => (by rw [q1] at hd; injection hd with hd; exact ⟨g, hd.symm⟩)⟩
  clear h c0 hj hk hd hr1
  have b0 : (w.alloc o).cell? ⟨w.heap.size, 0, none⟩ = some (.pointer (some ⟨a, 0, none⟩)) := by rw [ho, cell_in (heap_alloc_new w _)]; rfl
  have b1 : (w.alloc o).cell? ⟨w.heap.size, 1, none⟩ = some (.int .i64 (H.age : Int)) := by rw [ho, cell_in (heap_alloc_new w _)]; rfl
  have b2 : (w.alloc o).cell? ⟨w.heap.size, 2, none⟩ = some (.int .i64 (T : Int)) := by rw [ho, cell_in (heap_alloc_new w _)]; rfl
  have u3 : (T : Int) ≤ (l.co : Int) := by omega
  have HPO := mkHid hpo
  clear hpo
  obtain ⟨W1, hW1⟩ : ∃ W1, W1 = w.alloc o := ⟨_, rfl⟩
  rw [← hW1] at HM HR1 HX1 c10 c6 b0 b1 b2
  rw [ho] at hW1
  clear ho
  rcases hpoE : l.po with _ | ad
  · have hpo0 := hpoE
    clear hpo0
    go_enter Tryd.func31, Tryd.ntmps31
    go_wp2_with fail
    rw [← hW1]
    clear hW1
    refine Calls.mono HM.out ?_
    rintro e w' ⟨rfl, hw'⟩
    rw [hw']
    clear hw' w' HM
    go_wp2_with fail
    go_cut [22] (fun q V => q = .bool false ∧ Hid (Eqw W1 V))
    case first =>
      go_region
      all_goals go_wp2_with fail
      all_goals
        go_meet
        case rel => exact ⟨rfl, eqw_drew _⟩
    case rest =>
    obtain ⟨rfl, hc2⟩ := hcut
    have hR2 := HR1.out.eqw hc2.out
    have HF : Hid (∀ n, Rep (wc.drewN n) a l H ∧ Nx a l l w (wc.drewN n)) := fun n => ⟨hR2.drewN n, (HX1.out.eqw hc2.out).eqw ⟨rfl, rfl, rfl, rfl⟩⟩
    have c6' := hR2.c6
    rw [hpoE] at c6'
    have b2' : wc.cell? ⟨w.heap.size, 2, none⟩ = some (.int .i64 (T : Int)) := (World.cell?_of_block (w := W1) (by rw [hc2.out.2.2.2])).trans b2
    have HPE := mkHid hpoE
    clear b0 b1 b2 c6 c10 HR1 HX1 hR2 hpoE
    go_wp2_with fail
    go_quiet (fail)
    all_goals go_wp2_with fail
    all_goals
      have HF1 := mkHid (HF.out nq)
      clear HF c6' b2'
      generalize wc.drewN nq = W2 at *
      go_loopw [31] (fun q wr => ∃ j : Nat, j ≤ H.order.length - T ∧ q = .int .i64 j ∧ Hid (Rep wr a l (backTo H T j) ∧ Nx a l l w wr)) (fun q _ => (H.order.length - T) - (intOf q).toNat)
      case atStart => exact ⟨0, Nat.zero_le _, rfl, HF1.out⟩
      case round =>
        obtain ⟨j, hjn, rfl, hq2⟩ := hrel
        obtain ⟨hr, hx⟩ := hq2.out
        clear hq2
        by_cases hlt : j < H.order.length - T
        · exfalso; have := (HPO.out.1 HPE.out).1; omega
        · have hje : j = H.order.length - T := by omega
          subst hje
          have HDr := mkHid (drawEnd_ok t e0 a l _ wr hr HD.out)
          have HX := mkHid hx
          have hagl : (backTo H T (H.order.length - T)).age = H.age := backTo_age H T _
          clear hr hx
          go_wp2_with fail
          refine Calls.mono HDr.out ?_
          rintro e w3 ⟨rfl, hr3, hx3⟩
          have c10 := hr3.c10
          have f10 := hr3.frozen 10
          have e1 : (drawH (backTo H T (H.order.length - T)) t e0).age = H.age := hagl
          rw [e1] at c10
          have HE : Hid (Rep (w3.setCell ⟨a, 10, none⟩ (.int .i64 ((H.age : Int) + 1))) a l { drawH (backTo H T (H.order.length - T)) t e0 with age := H.age + 1 } ∧ Nx a l l w (w3.setCell ⟨a, 10, none⟩ (.int .i64 ((H.age : Int) + 1)))) :=
            ⟨hr3.set (H' := { drawH (backTo H T (H.order.length - T)) t e0 with age := H.age + 1 }) 10 _ rfl rfl rfl rfl rfl, (HX.out.trans hx3).trans (Nx.fr (Fr.setCell (S := [a]) _ _ _ (by simp)))⟩
          clear hr3 hx3 e1 hagl
          go_wp2_with fail
          go_ret
          exact ⟨rfl, HE.out⟩
  · obtain ⟨g0, hg0⟩ := HPO.out.2 ad hpoE
    subst hg0
    go_enter Tryd.func31, Tryd.ntmps31
    go_wp2_with fail
    rw [← hW1]
    clear hW1
    refine Calls.mono HM.out ?_
    rintro e w' ⟨rfl, hw'⟩
    rw [hw']
    clear hw' w' HM
    go_wp2_with fail
    go_cut [22] (fun q V => q = .bool false ∧ Hid (Eqw W1 V))
    case first =>
      go_region
      all_goals go_wp2_with fail
      all_goals
        go_meet
        case rel => exact ⟨rfl, eqw_drew _⟩
    case rest =>
    obtain ⟨rfl, hc2⟩ := hcut
    have hR2 := HR1.out.eqw hc2.out
    have HF : Hid (∀ n, Rep (wc.drewN n) a l H ∧ Nx a l l w (wc.drewN n)) := fun n => ⟨hR2.drewN n, (HX1.out.eqw hc2.out).eqw ⟨rfl, rfl, rfl, rfl⟩⟩
    have c6' := hR2.c6
    rw [hpoE] at c6'
    have b2' : wc.cell? ⟨w.heap.size, 2, none⟩ = some (.int .i64 (T : Int)) := (World.cell?_of_block (w := W1) (by rw [hc2.out.2.2.2])).trans b2
    have HPE := mkHid hpoE
    clear b0 b1 b2 c6 c10 HR1 HX1 hR2 hpoE
    go_wp2_with fail
    go_quiet (fail)
    all_goals go_wp2_with fail
    all_goals
      have HF1 := mkHid (HF.out nq)
      clear HF c6' b2'
      generalize wc.drewN nq = W2 at *
      go_loopw [31] (fun q wr => ∃ j : Nat, j ≤ H.order.length - T ∧ q = .int .i64 j ∧ Hid (Rep wr a l (backTo H T j) ∧ Nx a l l w wr)) (fun q _ => (H.order.length - T) - (intOf q).toNat)
      case atStart => exact ⟨0, Nat.zero_le _, rfl, HF1.out⟩
      case round =>
        obtain ⟨j, hjn, rfl, hq2⟩ := hrel
        obtain ⟨hr, hx⟩ := hq2.out
        clear hq2
        by_cases hlt : j < H.order.length - T
        · first
          | (exfalso; omega)
          | (obtain ⟨v1, v2, v3⟩ := HK.out.vac j (by omega)
             obtain ⟨go, hgo, hco, hfo, hgoa, hgol⟩ := hr.orderAt (T + j) (by omega)
             have o1 := hco (T + j) (by omega)
             rw [v2] at o1
             have HV := mkHid (vacate_ok (H.order.getD (T + j) 0) a l _ wr hr v1)
             have k1 : (0 : Int) ≤ (j : Int) := by omega
             have k2 : (j : Int) < ((H.order.length - T : Nat) : Int) := by omega
             have HN : Hid (backTo H T (j + 1) = vacH (backTo H T j) (H.order.getD (T + j) 0)) := rfl
             have HX := mkHid hx
             have hgg : go = g0 := by rw [HPE.out] at hgo; injection hgo with hgo; injection hgo with hgo _ _; exact hgo.symm
             subst hgg
             generalize H.order.getD (T + j) 0 = oo at *
             clear hr hx hco hfo v1 v2 v3 hgo HPO
             go_wp2_with fail
             refine Calls.mono HV.out ?_
             rintro e w3 ⟨rfl, hr3, hx3⟩
             have HF3 := mkHid (And.intro hr3 (HX.out.trans hx3))
             clear hr3 hx3
             go_wp2_with fail
             go_roundw
             case rel => exact ⟨j + 1, by omega, by go_num, by rw [HN.out]; exact HF3.out⟩
             case measure => simp [intOf]; omega)
        · have hje : j = H.order.length - T := by omega
          subst hje
          have HDr := mkHid (drawEnd_ok t e0 a l _ wr hr HD.out)
          have HX := mkHid hx
          have hagl : (backTo H T (H.order.length - T)).age = H.age := backTo_age H T _
          clear hr hx
          go_wp2_with fail
          refine Calls.mono HDr.out ?_
          rintro e w3 ⟨rfl, hr3, hx3⟩
          have c10 := hr3.c10
          have f10 := hr3.frozen 10
          have e1 : (drawH (backTo H T (H.order.length - T)) t e0).age = H.age := hagl
          rw [e1] at c10
          have HE : Hid (Rep (w3.setCell ⟨a, 10, none⟩ (.int .i64 ((H.age : Int) + 1))) a l { drawH (backTo H T (H.order.length - T)) t e0 with age := H.age + 1 } ∧ Nx a l l w (w3.setCell ⟨a, 10, none⟩ (.int .i64 ((H.age : Int) + 1)))) :=
            ⟨hr3.set (H' := { drawH (backTo H T (H.order.length - T)) t e0 with age := H.age + 1 }) 10 _ rfl rfl rfl rfl rfl, (HX.out.trans hx3).trans (Nx.fr (Fr.setCell (S := [a]) _ _ _ (by simp)))⟩
          clear hr3 hx3 e1 hagl
          go_wp2_with fail
          go_ret
          exact ⟨rfl, HE.out⟩
end Go.Proofs.YtcoddjdicodmhaaDoor
