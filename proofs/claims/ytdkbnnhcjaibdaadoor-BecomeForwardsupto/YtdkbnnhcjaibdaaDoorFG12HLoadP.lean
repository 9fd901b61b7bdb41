import Derived.Test.YtdkbnnhcjaibdaaDoorFG05HAll
import Derived.BigQuiet
import Derived.Test.YtdkbnnhcjaibdaaDoorFG11HInvK
import Derived.Test.YtdkbnnhcjaibdaaDoorFG07HRd
namespace Go.Proofs.YtdkbnnhcjaibdaaDoor
open Go.RowKit
set_option linter.unusedVariables false
attribute [local go_sem ↓] Go.wp_at_zero Go.wp_at_succ
set_option maxRecDepth 20000 in
set_option maxHeartbeats 1000000 in
theorem Point_ok (a : Nat) (l : Lay) (H : HS) (w : World) (h : Rep w a l H) :
    Calls Tryd.prog 43 #[.pointer (some ⟨a, 0, none⟩)] w fun e w' => e = .returned (.agg #[.pointer (some ⟨a, 0, none⟩), .int .i64 (H.age : Int), .int .i64 (H.order.length : Int)]) ∧ Fr [] w w' := by
  have hal := h.lt a (by simp [foot])
  have c0 := (World.cell?_alloc_lt w (.cells #[.pointer none, .int .i64 0, .int .i64 0] 91) ⟨a, 0, none⟩ hal).trans h.c0
  have c10 := h.c10
  have c6 := h.c6
  have HM := mkHid (made_any a _ c0)
  clear h c0
  go_enter Tryd.func43, Tryd.ntmps43
  go_wp2_with (go_at_call 62; refine Calls.mono HM.out ?_; rintro e w' ⟨rfl, hw'⟩; rw [hw']; clear hw' w')
  go_region
  all_goals go_wp2_with fail
  refine bodyPost_ret (v := .agg #[.pointer (some ⟨a, 0, none⟩), .int .i64 (H.age : Int), .int .i64 (H.order.length : Int)]) (by simp [results, Tryd.results43, go_sem]) rfl ⟨rfl, (Fr.alloc [] _ _).trans (Fr.drew [] _) (by simp)⟩
/-- those from turn k on go, the first j of them -/
def backTo (H : HS) (T : Nat) : Nat → HS
  | 0 => H
  | j + 1 => vacH (backTo H T j) (H.order.getD (T + j) 0)
theorem backTo_age (H : HS) (T : Nat) : ∀ j, (backTo H T j).age = H.age := by
  intro j
  induction j with
  | zero => rfl
  | succ j ih => exact ih
structure BackOk (H : HS) (T : Nat) : Prop where
  t : T ≤ H.order.length
  vac : ∀ j, T + j < H.order.length → VacOk (backTo H T j) (H.order.getD (T + j) 0) ∧ (backTo H T j).order.getD (T + j) 0 = H.order.getD (T + j) 0 ∧ (backTo H T j).order.length = H.order.length
  r1 : (H.order.length : Int) ≤ 1048576
  a1 : (H.age : Int) ≤ 1000000000
theorem run_neq_ptr_same {tp te : TypeId} {j : TypeInfo} (V : World) (a : Addr) (hp : Tryd.prog.underlying tp = some (.pointer te)) (hte : Tryd.prog.info? te = some j) :
    (binOp .neq tp (.pointer (some a)) (.pointer (some a))).run Tryd.prog V = .ok (.bool false) V := by
  have h : ∀ d : Nat, (Op.equalIn (d + 1) tp (.pointer (some a)) (.pointer (some a))).run Tryd.prog V = .ok true V := fun d => by
    simp [Op.equalIn, run_underlying hp, sizeOf, typeInfo, hte, run_sameAddr_same]
  simp only [binOp]
  simp [Op.equal, Op.maxDepth, h 9999]
set_option maxRecDepth 20000 in
set_option maxHeartbeats 1000000 in
theorem Back_no (ag tn : Int) (a : Nat) (l : Lay) (H : HS) (w : World) (h : Rep w a l H) (hne : (ag != (H.age : Int)) = true) :
    Calls Tryd.prog 46 #[.pointer (some ⟨a, 0, none⟩), .agg #[.pointer (some ⟨a, 0, none⟩), .int .i64 ag, .int .i64 tn]] w fun e w' => e = .returned (.int .i64 25) ∧ Fr [] w w' := by
  have hal := h.lt a (by simp [foot])
  have c0 := (World.cell?_alloc_lt w (.cells #[.pointer (some ⟨a, 0, none⟩), .int .i64 ag, .int .i64 tn] 91) ⟨a, 0, none⟩ hal).trans h.c0
  have c10 := (World.cell?_alloc_lt w (.cells #[.pointer (some ⟨a, 0, none⟩), .int .i64 ag, .int .i64 tn] 91) ⟨a, 10, none⟩ hal).trans h.c10
  have HM := mkHid (made_any a _ c0)
  have HE : Hid (∀ n, Fr [] w ((w.alloc (.cells #[.pointer (some ⟨a, 0, none⟩), .int .i64 ag, .int .i64 tn] 91)).drewN n)) := fun n => (Fr.alloc [] _ _).trans (Fr.drewN [] _ _) (by simp)
  obtain ⟨j, hj⟩ := Option.isSome_iff_exists.1 info95
  have hq := fun V => run_neq_ptr_same V ⟨a, 0, none⟩ Tryd.underlying24 hj
  clear h c0 hj
  go_enter Tryd.func46, Tryd.ntmps46
  go_wp2_with (go_at_call 62; refine Calls.mono HM.out ?_; rintro e w' ⟨rfl, hw'⟩; rw [hw']; clear hw' w')
  go_region
  all_goals go_wp2_with fail
  all_goals
    go_ret
    exact ⟨rfl, HE.out _⟩
set_option maxRecDepth 20000 in
set_option maxHeartbeats 1000000 in
theorem Back_ok (T t e0 : Nat) (a : Nat) (l : Lay) (H : HS) (w : World) (h : Rep w a l H) (hk : BackOk H T) (hd : DrawOk (backTo H T (H.order.length - T)) t e0) :
    Calls Tryd.prog 46 #[.pointer (some ⟨a, 0, none⟩), .agg #[.pointer (some ⟨a, 0, none⟩), .int .i64 (H.age : Int), .int .i64 (T : Int)]] w fun e w' => e = .returned (.int .i64 0) ∧ Rep w' a l { drawH (backTo H T (H.order.length - T)) t e0 with age := H.age + 1 } ∧ Nx a l l w w' := by
  have hal := h.lt a (by simp [foot])
  obtain ⟨o, ho⟩ : ∃ o, o = Obj.cells #[.pointer (some ⟨a, 0, none⟩), .int .i64 (H.age : Int), .int .i64 (T : Int)] 91 := ⟨_, rfl⟩
  have c0 := (World.cell?_alloc_lt w o ⟨a, 0, none⟩ hal).trans h.c0
  have c10 := (World.cell?_alloc_lt w o ⟨a, 10, none⟩ hal).trans h.c10
  have c6 := (World.cell?_alloc_lt w o ⟨a, 6, none⟩ hal).trans h.c6
  have HM := mkHid (made_any a _ c0)
  have hr1 := h.alloc o
  have HR1 := mkHid hr1
  have HX1 : Hid (Nx a l l w (w.alloc o)) := Nx.frw (Fr.alloc _ _ _)
  obtain ⟨j, hj⟩ := Option.isSome_iff_exists.1 info95
  have hq := fun V => run_neq_ptr_same V ⟨a, 0, none⟩ Tryd.underlying24 hj
  have ht := hk.t
  have hrl := hk.r1
  have hage := hk.a1
  have HK := mkHid hk
  have HD := mkHid hd
  have u1 : (0 : Int) ≤ (T : Int) := by omega
  have u2 : (T : Int) ≤ (H.order.length : Int) := by omega
  have hcap : H.order.length ≤ l.co := by
    rcases h.order.2 with ⟨q, q0⟩ | ⟨g, cap, cur, q1, q2, q3, q4, q5, q6, q7⟩
    · injection q with _ _ q3; omega
    · injection q1 with _ _ q1c; omega
  have hpo : (l.po = none → H.order.length = 0 ∧ l.co = 0) ∧ (∀ ad, l.po = some ad → ∃ g, ad = ⟨g, 0, none⟩) := by
    rcases h.order.2 with ⟨q, q0⟩ | ⟨g, cap, cur, q1, q2, q3, q4, q5, q6, q7⟩
    · injection q with q1 _ q3; exact ⟨fun _ => ⟨by omega, by omega⟩, fun ad hd => (by rw [q1] at hd; cases hd)⟩
    · injection q1 with q1 _ q1c; exact ⟨fun hd => (by rw [q1] at hd; cases hd), fun ad hd => (by rw [q1] at hd; injection hd with hd; exact ⟨g, hd.symm⟩)⟩
  clear h c0 hj hk hd hr1
  have b0 : (w.alloc o).cell? ⟨w.heap.size, 0, none⟩ = some (.pointer (some ⟨a, 0, none⟩)) := by rw [ho, cell_in (heap_alloc_new w _)]; rfl
  have b1 : (w.alloc o).cell? ⟨w.heap.size, 1, none⟩ = some (.int .i64 (H.age : Int)) := by rw [ho, cell_in (heap_alloc_new w _)]; rfl
  have b2 : (w.alloc o).cell? ⟨w.heap.size, 2, none⟩ = some (.int .i64 (T : Int)) := by rw [ho, cell_in (heap_alloc_new w _)]; rfl
  have u3 : (T : Int) ≤ (l.co : Int) := by omega
  have HPO := mkHid hpo
  clear hpo
  obtain ⟨W1, hW1⟩ : ∃ W1, W1 = w.alloc o := ⟨_, rfl⟩
  rw [← hW1] at HM HR1 HX1 c10 c6 b0 b1 b2
  rw [ho] at hW1
  clear ho
  rcases hpoE : l.po with _ | ad
  · have hpo0 := hpoE
    clear hpo0
    go_enter Tryd.func46, Tryd.ntmps46
    go_wp2_with fail
    rw [← hW1]
    clear hW1
    refine Calls.mono HM.out ?_
    rintro e w' ⟨rfl, hw'⟩
    rw [hw']
    clear hw' w' HM
    go_wp2_with fail
    go_cut [22] (fun q V => q = .bool false ∧ Hid (Eqw W1 V))
    case first =>
      go_region
      all_goals go_wp2_with fail
      all_goals
        go_meet
        case rel => exact ⟨rfl, eqw_drew _⟩
    case rest =>
    obtain ⟨rfl, hc2⟩ := hcut
    have hR2 := HR1.out.eqw hc2.out
    have HF : Hid (∀ n, Rep (wc.drewN n) a l H ∧ Nx a l l w (wc.drewN n)) := fun n => ⟨hR2.drewN n, (HX1.out.eqw hc2.out).eqw ⟨rfl, rfl, rfl, rfl⟩⟩
    have c6' := hR2.c6
    rw [hpoE] at c6'
    have b2' : wc.cell? ⟨w.heap.size, 2, none⟩ = some (.int .i64 (T : Int)) := (World.cell?_of_block (w := W1) (by rw [hc2.out.2.2.2])).trans b2
    have HPE := mkHid hpoE
    clear b0 b1 b2 c6 c10 HR1 HX1 hR2 hpoE
    go_wp2_with fail
    go_quiet (fail)
    all_goals go_wp2_with fail
    all_goals
      have HF1 := mkHid (HF.out nq)
      clear HF c6' b2'
      generalize wc.drewN nq = W2 at *
      go_loopw [31] (fun q wr => ∃ j : Nat, j ≤ H.order.length - T ∧ q = .int .i64 j ∧ Hid (Rep wr a l (backTo H T j) ∧ Nx a l l w wr)) (fun q _ => (H.order.length - T) - (intOf q).toNat)
      case atStart => exact ⟨0, Nat.zero_le _, rfl, HF1.out⟩
      case round =>
        obtain ⟨j, hjn, rfl, hq2⟩ := hrel
        obtain ⟨hr, hx⟩ := hq2.out
        clear hq2
        by_cases hlt : j < H.order.length - T
        · exfalso; have := (HPO.out.1 HPE.out).1; omega
        · have hje : j = H.order.length - T := by omega
          subst hje
          have HDr := mkHid (drawEnd_ok t e0 a l _ wr hr HD.out)
          have HX := mkHid hx
          have hagl : (backTo H T (H.order.length - T)).age = H.age := backTo_age H T _
          clear hr hx
          go_wp2_with fail
          refine Calls.mono HDr.out ?_
          rintro e w3 ⟨rfl, hr3, hx3⟩
          have c10 := hr3.c10
          have f10 := hr3.frozen 10
          have e1 : (drawH (backTo H T (H.order.length - T)) t e0).age = H.age := hagl
          rw [e1] at c10
          have HE : Hid (Rep (w3.setCell ⟨a, 10, none⟩ (.int .i64 ((H.age : Int) + 1))) a l { drawH (backTo H T (H.order.length - T)) t e0 with age := H.age + 1 } ∧ Nx a l l w (w3.setCell ⟨a, 10, none⟩ (.int .i64 ((H.age : Int) + 1)))) :=
            ⟨hr3.set (H' := { drawH (backTo H T (H.order.length - T)) t e0 with age := H.age + 1 }) 10 _ rfl rfl rfl rfl rfl, (HX.out.trans hx3).trans (Nx.fr (Fr.setCell (S := [a]) _ _ _ (by simp)))⟩
          clear hr3 hx3 e1 hagl
          go_wp2_with fail
          go_ret
          exact ⟨rfl, HE.out⟩
  · obtain ⟨g0, hg0⟩ := HPO.out.2 ad hpoE
    subst hg0
    go_enter Tryd.func46, Tryd.ntmps46
    go_wp2_with fail
    rw [← hW1]
    clear hW1
    refine Calls.mono HM.out ?_
    rintro e w' ⟨rfl, hw'⟩
    rw [hw']
    clear hw' w' HM
    go_wp2_with fail
    go_cut [22] (fun q V => q = .bool false ∧ Hid (Eqw W1 V))
    case first =>
      go_region
      all_goals go_wp2_with fail
      all_goals
        go_meet
        case rel => exact ⟨rfl, eqw_drew _⟩
    case rest =>
    obtain ⟨rfl, hc2⟩ := hcut
    have hR2 := HR1.out.eqw hc2.out
    have HF : Hid (∀ n, Rep (wc.drewN n) a l H ∧ Nx a l l w (wc.drewN n)) := fun n => ⟨hR2.drewN n, (HX1.out.eqw hc2.out).eqw ⟨rfl, rfl, rfl, rfl⟩⟩
    have c6' := hR2.c6
    rw [hpoE] at c6'
    have b2' : wc.cell? ⟨w.heap.size, 2, none⟩ = some (.int .i64 (T : Int)) := (World.cell?_of_block (w := W1) (by rw [hc2.out.2.2.2])).trans b2
    have HPE := mkHid hpoE
    clear b0 b1 b2 c6 c10 HR1 HX1 hR2 hpoE
    go_wp2_with fail
    go_quiet (fail)
    all_goals go_wp2_with fail
    all_goals
      have HF1 := mkHid (HF.out nq)
      clear HF c6' b2'
      generalize wc.drewN nq = W2 at *
      go_loopw [31] (fun q wr => ∃ j : Nat, j ≤ H.order.length - T ∧ q = .int .i64 j ∧ Hid (Rep wr a l (backTo H T j) ∧ Nx a l l w wr)) (fun q _ => (H.order.length - T) - (intOf q).toNat)
      case atStart => exact ⟨0, Nat.zero_le _, rfl, HF1.out⟩
      case round =>
        obtain ⟨j, hjn, rfl, hq2⟩ := hrel
        obtain ⟨hr, hx⟩ := hq2.out
        clear hq2
        by_cases hlt : j < H.order.length - T
        · first
          | (exfalso; omega)
          | (obtain ⟨v1, v2, v3⟩ := HK.out.vac j (by omega)
             obtain ⟨go, hgo, hco, hfo, hgoa, hgol⟩ := hr.orderAt (T + j) (by omega)
             have o1 := hco (T + j) (by omega)
             rw [v2] at o1
             have HV := mkHid (vacate_ok (H.order.getD (T + j) 0) a l _ wr hr v1)
             have k1 : (0 : Int) ≤ (j : Int) := by omega
             have k2 : (j : Int) < ((H.order.length - T : Nat) : Int) := by omega
             have HN : Hid (backTo H T (j + 1) = vacH (backTo H T j) (H.order.getD (T + j) 0)) := rfl
             have HX := mkHid hx
             have hgg : go = g0 := by rw [HPE.out] at hgo; injection hgo with hgo; injection hgo with hgo _ _; exact hgo.symm
             subst hgg
             generalize H.order.getD (T + j) 0 = oo at *
             clear hr hx hco hfo v1 v2 v3 hgo HPO
             go_wp2_with fail
             refine Calls.mono HV.out ?_
             rintro e w3 ⟨rfl, hr3, hx3⟩
             have HF3 := mkHid (And.intro hr3 (HX.out.trans hx3))
             clear hr3 hx3
             go_wp2_with fail
             go_roundw
             case rel => exact ⟨j + 1, by omega, by go_num, by rw [HN.out]; exact HF3.out⟩
             case measure => simp [intOf]; omega)
        · have hje : j = H.order.length - T := by omega
          subst hje
          have HDr := mkHid (drawEnd_ok t e0 a l _ wr hr HD.out)
          have HX := mkHid hx
          have hagl : (backTo H T (H.order.length - T)).age = H.age := backTo_age H T _
          clear hr hx
          go_wp2_with fail
          refine Calls.mono HDr.out ?_
          rintro e w3 ⟨rfl, hr3, hx3⟩
          have c10 := hr3.c10
          have f10 := hr3.frozen 10
          have e1 : (drawH (backTo H T (H.order.length - T)) t e0).age = H.age := hagl
          rw [e1] at c10
          have HE : Hid (Rep (w3.setCell ⟨a, 10, none⟩ (.int .i64 ((H.age : Int) + 1))) a l { drawH (backTo H T (H.order.length - T)) t e0 with age := H.age + 1 } ∧ Nx a l l w (w3.setCell ⟨a, 10, none⟩ (.int .i64 ((H.age : Int) + 1)))) :=
            ⟨hr3.set (H' := { drawH (backTo H T (H.order.length - T)) t e0 with age := H.age + 1 }) 10 _ rfl rfl rfl rfl rfl, (HX.out.trans hx3).trans (Nx.fr (Fr.setCell (S := [a]) _ _ _ (by simp)))⟩
          clear hr3 hx3 e1 hagl
          go_wp2_with fail
          go_ret
          exact ⟨rfl, HE.out⟩
end Go.Proofs.YtdkbnnhcjaibdaaDoor

namespace Go.Proofs.YtdkbnnhcjaibdaaDoor
open Go.RowKit
set_option linter.unusedVariables false
/-- what lies between a point and a Back: allocations alone -/
structure Behind (H0 : HS) (M0 : MS) (H : HS) (M : MS) : Prop where
  inv : Inv H M
  age : H.age = H0.age
  words : H.words = H0.words
  oops : H.oops = H0.oops
  mark : H.mark = 0
  len : H0.order.length ≤ H.order.length
  old : ∀ j, j < H0.order.length → H.order.getD j 0 = H0.order.getD j 0
  young : ∀ j, H0.order.length ≤ j → j < H.order.length → H.order.getD j 0 ≠ 0
  tl : M0.things.length ≤ M.things.length
  same : ∀ k, (M0.things.getD k noTh).there = true → M.things.getD k noTh = M0.things.getD k noTh
theorem behind_refl {H : HS} {M : MS} (h : Inv H M) (hm : H.mark = 0) : Behind H M H M :=
  ⟨h, rfl, rfl, rfl, hm, Nat.le_refl _, fun _ _ => rfl, fun j h1 h2 => by omega, Nat.le_refl _, fun _ _ => rfl⟩
/-- which of the things are old: those whose turn lies ahead of the point -/
theorem Behind.turnOld {H0 H : HS} {M0 M : MS} (h0 : Inv H0 M0) (h : Behind H0 M0 H M) (k : Nat) (hb : (M.things.getD k noTh).there = true) : (M0.things.getD k noTh).there = true ↔ (H.seats.getD (k + 1) (0, 0, 0)).2.2 < H0.order.length := by
  obtain ⟨u1, u2⟩ := h.inv.turn k (th_in hb) hb
  constructor
  · intro hb0
    obtain ⟨v1, v2⟩ := h0.turn k (th_in hb0) hb0
    have e := h.old _ v1
    rw [v2] at e
    have := (h.inv.order (H0.seats.getD (k + 1) (0, 0, 0)).2.2 (by have := h.len; omega) (by omega)).2.2
    rw [e] at this
    omega
  · intro hlt
    have e := h.old _ hlt
    rw [u2] at e
    have := (h0.order _ hlt (by omega)).2.1
    rw [← e, Nat.add_sub_cancel] at this
    exact this
/-- the young ones go, one by one -/
theorem Behind.backs {H0 H : HS} {M0 M : MS} (h0 : Inv H0 M0) (h : Behind H0 M0 H M) : ∀ j, H0.order.length + j ≤ H.order.length → ∃ X : List Th, InvV (backTo H H0.order.length j) { M with things := X } ∧ X.length = M.things.length ∧
    (∀ k, X.getD k noTh = if (M.things.getD k noTh).there = true ∧ H0.order.length ≤ (H.seats.getD (k + 1) (0, 0, 0)).2.2 ∧ (H.seats.getD (k + 1) (0, 0, 0)).2.2 < H0.order.length + j then gone (M.things.getD k noTh) else M.things.getD k noTh) ∧
    (backTo H H0.order.length j).order.length = H.order.length ∧ (∀ r, r < H0.order.length ∨ H0.order.length + j ≤ r → (backTo H H0.order.length j).order.getD r 0 = H.order.getD r 0) ∧
    (∀ r, H0.order.length ≤ r → r < H0.order.length + j → (backTo H H0.order.length j).order.getD r 0 = 0) ∧
    (backTo H H0.order.length j).words = H.words ∧ (backTo H H0.order.length j).oops = H.oops ∧ (backTo H H0.order.length j).mark = H.mark := by
  intro j
  induction j with
  | zero => intro _; exact ⟨M.things, h.inv.toInvV, rfl, fun k => by rw [if_neg (by omega)], rfl, fun _ _ => rfl, fun r h1 h2 => by omega, rfl, rfl, rfl⟩
  | succ j ih =>
    intro hj
    obtain ⟨X, h1, h2, h3, h4, h5, h6, h7, h8, h9⟩ := ih (by omega)
    have hne := h.young (H0.order.length + j) (by omega) (by omega)
    have ho := h5 (H0.order.length + j) (.inr (Nat.le_refl _))
    obtain ⟨u1, u2, u3⟩ := h.inv.order (H0.order.length + j) (by omega) hne
    obtain ⟨o1, o2, o3⟩ := h1.order (H0.order.length + j) (by omega) (by rw [ho]; exact hne)
    rw [ho] at o1 o2 o3
    obtain ⟨i0, hi0⟩ : ∃ i0, H.order.getD (H0.order.length + j) 0 = i0 + 1 := ⟨H.order.getD (H0.order.length + j) 0 - 1, by omega⟩
    rw [hi0] at u1 u2 u3 o1 o2 o3
    rw [Nat.add_sub_cancel] at u2 o2
    have hlt : i0 < X.length := o1
    have hvac := h1.vac i0 hlt o2
    have hg := fun i => getD_set X i0 i (gone (X.getD i0 noTh)) hlt
    have e : backTo H H0.order.length (j + 1) = vacH (backTo H H0.order.length j) (i0 + 1) := by
      show vacH (backTo H H0.order.length j) (H.order.getD (H0.order.length + j) 0) = _
      rw [hi0]
    rw [e]
    have hord : ∀ r, (vacH (backTo H H0.order.length j) (i0 + 1)).order.getD r 0 = if r = H0.order.length + j then 0 else (backTo H H0.order.length j).order.getD r 0 := fun r => by
      show ((backTo H H0.order.length j).order.set ((backTo H H0.order.length j).seats.getD (i0 + 1) (0, 0, 0)).2.2 0).getD r 0 = _
      rw [o3, getD_nat _ _ _ _ (by omega)]
    refine ⟨X.set i0 (gone (X.getD i0 noTh)), hvac, by rw [List.length_set]; exact h2, fun k => ?_, ?_, fun r hr => ?_, fun r r1 r2 => ?_, h7, h8, h9⟩
    · have hXi : X.getD i0 noTh = M.things.getD i0 noTh := by rw [h3 i0, if_neg (fun hh => by omega)]
      have hat : ∀ k, (M.things.getD k noTh).there = true → (H.seats.getD (k + 1) (0, 0, 0)).2.2 = H0.order.length + j → k = i0 := fun k hb e => by
        have := (h.inv.turn k (th_in hb) hb).2
        rw [e, hi0] at this
        omega
      rw [hg]
      by_cases e2 : k = i0
      · rw [if_pos e2, hXi, e2, if_pos ⟨u2, by omega, by omega⟩]
      · rw [if_neg e2, h3 k]
        have hiff : ((M.things.getD k noTh).there = true ∧ H0.order.length ≤ (H.seats.getD (k + 1) (0, 0, 0)).2.2 ∧ (H.seats.getD (k + 1) (0, 0, 0)).2.2 < H0.order.length + j) ↔ ((M.things.getD k noTh).there = true ∧ H0.order.length ≤ (H.seats.getD (k + 1) (0, 0, 0)).2.2 ∧ (H.seats.getD (k + 1) (0, 0, 0)).2.2 < H0.order.length + (j + 1)) := by
          refine ⟨fun q => ⟨q.1, q.2.1, by omega⟩, fun q => ⟨q.1, q.2.1, ?_⟩⟩
          by_cases e3 : (H.seats.getD (k + 1) (0, 0, 0)).2.2 = H0.order.length + j
          · exact absurd (hat k q.1 e3) e2
          · have := q.2.2; omega
        simp only [hiff]
    · show ((backTo H H0.order.length j).order.set _ 0).length = _; rw [List.length_set]; exact h4
    · rw [hord, if_neg (by omega)]; exact h5 r (by omega)
    · rw [hord]
      by_cases e3 : r = H0.order.length + j
      · rw [if_pos e3]
      · rw [if_neg e3]; exact h6 r r1 (by omega)
theorem Behind.backOk {H0 H : HS} {M0 M : MS} (h0 : Inv H0 M0) (h : Behind H0 M0 H M) (hage : (H.age : Int) ≤ 1000000000) : BackOk H H0.order.length where
  t := h.len
  vac := fun j hj => by
    obtain ⟨X, h1, h2, h3, h4, h5, h6, h7, h8, h9⟩ := h.backs h0 j (by omega)
    have hne := h.young (H0.order.length + j) (by omega) hj
    have ho := h5 (H0.order.length + j) (.inr (Nat.le_refl _))
    obtain ⟨o1, o2, o3⟩ := h1.order (H0.order.length + j) (by omega) (by rw [ho]; exact hne)
    rw [ho] at o1 o2 o3
    obtain ⟨i0, hi0⟩ : ∃ i0, H.order.getD (H0.order.length + j) 0 = i0 + 1 := ⟨H.order.getD (H0.order.length + j) 0 - 1, by omega⟩
    rw [hi0] at o1 o2 ho ⊢
    rw [Nat.add_sub_cancel] at o2
    exact ⟨h1.vacOk i0 o1 o2, ho, h4⟩
  r1 := by have := h.inv.safe.order; omega
  a1 := hage
/-- two models of which one has things more that are not there -/
structure Agree (M M0 : MS) : Prop where
  words : M.words = M0.words
  oops : M.oops = M0.oops
  mark : M.mark = M0.mark
  len : M0.things.length ≤ M.things.length
  there : ∀ k, (M.things.getD k noTh).there = (M0.things.getD k noTh).there
  same : ∀ k, (M0.things.getD k noTh).there = true → M.things.getD k noTh = M0.things.getD k noTh
theorem thereTo_out (S : List Th) (k : Nat) (hk : S.length ≤ k) : thereTo S k = thereTo S S.length := by
  unfold thereTo
  rw [List.take_of_length_le hk, List.take_length]
theorem Agree.thereTo {M M0 : MS} (h : Agree M M0) : ∀ k, k ≤ M.things.length → thereTo M.things k = Go.Proofs.YtdkbnnhcjaibdaaDoor.thereTo M0.things k := by
  intro k
  induction k with
  | zero => intro _; rfl
  | succ k ih =>
    intro hk
    have hl := h.len
    by_cases e : k < M0.things.length
    · rw [thereTo_succ _ _ (by omega), thereTo_succ _ _ e, ih (by omega), h.there k]
    · have hf : (M.things.getD k noTh).there = false := by
        rw [h.there k, List.getD_eq_getElem?_getD, List.getElem?_eq_none (by omega)]
        rfl
      rw [thereTo_succ _ _ (by omega), ih (by omega), hf, thereTo_out M0.things k (by omega), thereTo_out M0.things (k + 1) (by omega)]
      simp
theorem Agree.thereAll {M M0 : MS} (h : Agree M M0) : Go.Proofs.YtdkbnnhcjaibdaaDoor.thereTo M.things M.things.length = Go.Proofs.YtdkbnnhcjaibdaaDoor.thereTo M0.things M0.things.length := by
  rw [h.thereTo _ (Nat.le_refl _), thereTo_out M0.things _ h.len]
theorem Agree.endAll {M M0 : MS} (h : Agree M M0) : endTo M.things M.things.length = endTo M0.things M0.things.length := by
  have hmax : ∀ (S : List Th) (k : Nat), k ≤ S.length → (∀ j, j < k → (S.getD j noTh).there = true → (S.getD j noTh).place + lenN (S.getD j noTh).slots.length (S.getD j noTh).fmt ≤ endTo S k) ∧ (endTo S k = 0 ∨ ∃ j, j < k ∧ (S.getD j noTh).there = true ∧ (S.getD j noTh).place + lenN (S.getD j noTh).slots.length (S.getD j noTh).fmt = endTo S k) := by
    intro S k
    induction k with
    | zero => intro _; exact ⟨fun j hj => by omega, .inl rfl⟩
    | succ k ih =>
      intro hk
      obtain ⟨a1, a2⟩ := ih (by omega)
      rw [endTo_succ]
      split
      · rename_i hc
        refine ⟨fun j hj hb => ?_, .inr ⟨k, by omega, hc.1, rfl⟩⟩
        by_cases e : j = k
        · rw [e]; exact Nat.le_refl _
        · have := a1 j (by omega) hb; omega
      · rename_i hc
        refine ⟨fun j hj hb => ?_, ?_⟩
        · by_cases e : j = k
          · rw [e] at hb ⊢
            by_cases hx : endTo S k < (S.getD k noTh).place + lenN (S.getD k noTh).slots.length (S.getD k noTh).fmt
            · exact absurd ⟨hb, hx⟩ hc
            · omega
          · exact a1 j (by omega) hb
        · rcases a2 with a2 | ⟨j, j1, j2, j3⟩
          · exact .inl a2
          · exact .inr ⟨j, by omega, j2, j3⟩
  obtain ⟨a1, a2⟩ := hmax M0.things M0.things.length (Nat.le_refl _)
  refine endTo_is M.things _ _ (fun j hj hb => ?_) ?_
  · have hb0 : (M0.things.getD j noTh).there = true := by rw [← h.there j]; exact hb
    rw [h.same j hb0]
    exact a1 j (th_in hb0) hb0
  · rcases a2 with a2 | ⟨j, j1, j2, j3⟩
    · exact .inl a2
    · exact .inr ⟨j, by have := h.len; omega, by rw [h.there j]; exact j2, by rw [h.same j j2]; exact j3⟩
theorem Agree.low {M M0 : MS} (h : Agree M M0) : lowTo M.things = lowTo M0.things := by
  obtain ⟨f1, f2⟩ := lowTo_free M0.things
  obtain ⟨g1, g2⟩ := lowTo_free M.things
  have p0 : 1 ≤ lowTo M0.things := by unfold lowTo; omega
  have p1 : 1 ≤ lowTo M.things := by unfold lowTo; omega
  rcases Nat.lt_trichotomy (lowTo M.things) (lowTo M0.things) with e | e | e
  · have := f2 (lowTo M.things - 1) (by omega)
    rw [← h.there, g1] at this
    cases this
  · exact e
  · have := g2 (lowTo M0.things - 1) (by omega)
    rw [h.there, f1] at this
    cases this
/-- what the heap says of the one it says of the other -/
theorem Agree.told {H : HS} {M M0 : MS} (h : Agree M M0) (ht : Told H M) : Told H M0 where
  small := ht.small
  words := ht.words.trans h.words
  oops := ht.oops.trans h.oops
  mark := ht.mark.trans h.mark
  fin := by rw [ht.fin, h.endAll]
  cnt := by rw [ht.cnt, h.thereAll]
  is := fun k hk hb => by rw [← h.same k hb]; exact ht.is k (by have := h.len; omega) (by rw [h.there]; exact hb)
  none := fun k hk hb => ht.none k (by have := h.len; omega) (by rw [h.there]; exact hb)
  all := fun k hk hb => by rw [← h.thereTo k (by have := h.len; omega)]; exact ht.all k (by have := h.len; omega) (by rw [h.there]; exact hb)
  allLen := by rw [ht.allLen, h.thereAll]
  seats := ht.seats
/-- behind a Back all is as it was at the point -/
theorem Behind.back {H0 H : HS} {M0 M : MS} (h0 : Inv H0 M0) (hm0 : H0.mark = 0) (h : Behind H0 M0 H M) : ∃ t e0 M2, DrawOk (backTo H H0.order.length (H.order.length - H0.order.length)) t e0 ∧ Inv { drawH (backTo H H0.order.length (H.order.length - H0.order.length)) t e0 with age := H.age + 1 } M2 ∧ Agree M2 M0 ∧
    stKeys (drawH (backTo H H0.order.length (H.order.length - H0.order.length)) t e0) M2.things (drawH (backTo H H0.order.length (H.order.length - H0.order.length)) t e0).order.length = stKeys H0 M0.things H0.order.length ∧
    (drawH (backTo H H0.order.length (H.order.length - H0.order.length)) t e0).words = H0.words ∧ (drawH (backTo H H0.order.length (H.order.length - H0.order.length)) t e0).oops = H0.oops ∧ (drawH (backTo H H0.order.length (H.order.length - H0.order.length)) t e0).mark = 0 := by
  have hlen := h.len
  obtain ⟨X, h1, h2, h3, h4, h5, h6, h7, h8, h9⟩ := h.backs h0 (H.order.length - H0.order.length) (by omega)
  obtain ⟨t, e0, hd, hinv⟩ := h1.draw
  have hXt : ∀ k, (X.getD k noTh).there = (M0.things.getD k noTh).there ∧ ((M0.things.getD k noTh).there = true → X.getD k noTh = M0.things.getD k noTh) := fun k => by
    rw [h3 k]
    cases hb : (M.things.getD k noTh).there with
    | false =>
      rw [if_neg (fun hc => by cases hc.1), hb]
      cases hb0 : (M0.things.getD k noTh).there with
      | false => exact ⟨rfl, fun hc => by cases hc⟩
      | true =>
        have := h.same k hb0
        rw [this, hb0] at hb
        cases hb
    | true =>
      have hiff := h.turnOld h0 k hb
      have hu := (h.inv.turn k (th_in hb) hb).1
      cases hb0 : (M0.things.getD k noTh).there with
      | true =>
        have := hiff.1 hb0
        rw [if_neg (fun hc => by omega), h.same k hb0]
        exact ⟨hb0, fun _ => rfl⟩
      | false =>
        have : ¬ (H.seats.getD (k + 1) (0, 0, 0)).2.2 < H0.order.length := fun hc => by
          have := hiff.2 hc
          rw [hb0] at this
          cases this
        rw [if_pos ⟨rfl, by omega, by omega⟩]
        exact ⟨rfl, fun hc => by cases hc⟩
  have hag : Agree { M with things := X } M0 := by
    refine ⟨?_, ?_, ?_, ?_, fun k => (hXt k).1, fun k hb => (hXt k).2 hb⟩
    · show M.words = M0.words; rw [← h.inv.words, h.words, h0.words]
    · show M.oops = M0.oops; rw [← h.inv.oops, h.oops, h0.oops]
    · show M.mark = M0.mark; rw [← h.inv.mark, h.mark, ← h0.mark, hm0]
    · show M0.things.length ≤ X.length; rw [h2]; exact h.tl
  have htT : t = H0.order.length := by
    have ht1 := hd.t1
    rcases Nat.lt_trichotomy t H0.order.length with e | e | e
    · exfalso
      have hz := hd.t2 (H0.order.length - 1) (by omega) (by omega)
      rw [h5 _ (.inl (by omega)), h.old _ (by omega)] at hz
      exact h0.last (H0.order.length - 1) (by omega) hz
    · exact e
    · exfalso
      have := (hd.t3 (by omega)).1
      exact this (h6 (t - 1) (by omega) (by omega))
  have hord : (drawH (backTo H H0.order.length (H.order.length - H0.order.length)) t e0).order = H0.order := by
    show (backTo H H0.order.length (H.order.length - H0.order.length)).order.take t = H0.order
    rw [htT]
    apply List.ext_getElem?
    intro r
    rw [List.getElem?_take]
    by_cases hr : r < H0.order.length
    · rw [if_pos hr]
      have e1 := h5 r (.inl hr)
      rw [h.old r hr] at e1
      rw [List.getD_eq_getElem?_getD, List.getD_eq_getElem?_getD, List.getElem?_eq_getElem (by omega), List.getElem?_eq_getElem hr] at e1
      rw [List.getElem?_eq_getElem (by omega), List.getElem?_eq_getElem hr]
      exact congrArg some e1
    · rw [if_neg hr, List.getElem?_eq_none (by omega)]
  refine ⟨t, e0, { M with things := X }, hd, hinv.aged _, hag, ?_, ?_, ?_, ?_⟩
  · unfold stKeys
    rw [hord, List.take_length]
    apply List.map_congr_left
    intro o ho
    obtain ⟨ho1, ho2⟩ := List.mem_filter.1 ho
    obtain ⟨r, hr, hro⟩ := List.getElem_of_mem ho1
    have hne : o ≠ 0 := by simpa using ho2
    have hg : H0.order.getD r 0 = o := by rw [List.getD_eq_getElem?_getD, List.getElem?_eq_getElem hr, hro]; rfl
    have hb := (h0.order r hr (by rw [hg]; exact hne)).2.1
    rw [hg] at hb
    show (o, (X.getD (o - 1) noTh).cls, (X.getD (o - 1) noTh).fmt, (X.getD (o - 1) noTh).slots) = _
    rw [(hXt (o - 1)).2 hb]
  · show (backTo H H0.order.length (H.order.length - H0.order.length)).words = _; rw [h7]; exact h.words
  · show (backTo H H0.order.length (H.order.length - H0.order.length)).oops = _; rw [h8]; exact h.oops
  · show (backTo H H0.order.length (H.order.length - H0.order.length)).mark = _; rw [h9]; exact h.mark
end Go.Proofs.YtdkbnnhcjaibdaaDoor

namespace Go.Proofs.YtdkbnnhcjaibdaaDoor
open Go.RowKit
set_option linter.unusedVariables false
/-- a thing is laid at q, whatever lies ahead of it -/
def putAt (S : List Th) (q : Nat) (t : Th) : List Th := if q < S.length then S.set q t else S ++ (List.replicate (q - S.length) noTh ++ [t])
theorem putAt_get (S : List Th) (q i : Nat) (t : Th) : (putAt S q t).getD i noTh = if i = q then t else S.getD i noTh := by
  unfold putAt
  split
  · rename_i h; exact getD_set S q i t h
  · rename_i h
    rw [List.getD_eq_getElem?_getD, List.getD_eq_getElem?_getD]
    by_cases h1 : i < S.length
    · rw [List.getElem?_append_left h1, if_neg (by omega)]
    · rw [List.getElem?_append_right (by omega), List.getElem?_eq_none (l := S) (by omega)]
      by_cases h2 : i < q
      · rw [List.getElem?_append_left (by simp; omega), List.getElem?_replicate, if_pos (by omega), if_neg (by omega)]; rfl
      · rw [List.getElem?_append_right (by simp; omega), List.length_replicate]
        by_cases h3 : i = q
        · rw [if_pos h3, show i - S.length - (q - S.length) = 0 from by omega]; rfl
        · rw [if_neg h3, List.getElem?_eq_none (by simp; omega)]
theorem putAt_length (S : List Th) (q : Nat) (t : Th) : (putAt S q t).length = max S.length (q + 1) := by
  unfold putAt
  split
  · rw [List.length_set]; omega
  · simp; omega
theorem thereTo_putAt (S : List Th) (q : Nat) (t : Th) (hf : (S.getD q noTh).there = false) (ht : t.there = true) : thereTo (putAt S q t) (putAt S q t).length = thereTo S S.length + 1 := by
  by_cases h : q < S.length
  · have := thereTo_put S q t (by omega) hf ht
    unfold putTh at this
    unfold putAt
    rw [if_pos h] at this ⊢
    exact this
  · unfold putAt
    rw [if_neg h]
    unfold thereTo
    rw [List.take_length, List.take_length, List.filter_append, List.filter_append]
    simp [ht, noTh]
theorem Inv.layAt {H : HS} {M : MS} (h : Inv H M) (q : Nat) (hq0 : q < M.oops) (hqf : (M.things.getD q noTh).there = false) (cl : Int) (n f : Nat) (p pt : Option Addr) (c ct : Nat) (hf : f ≤ 1) (hn : n ≤ 8192) (hr1 : H.count < H.oops) (hr2 : H.mem.length + lenN n f ≤ H.words) :
    Inv (layH H (q + 1) cl n f) { M with things := putAt M.things q ⟨true, cl, f, endTo M.things M.things.length, List.replicate n (newX f), p, c⟩, pt := pt, ct := ct } := by
  have hfree : (M.things.getD q noTh).there = false ∧ True := ⟨hqf, trivial⟩
  rw [← h.fin]
  generalize ht : (⟨true, cl, f, H.mem.length, List.replicate n (newX f), p, c⟩ : Th) = t
  have t1 : t.there = true := by rw [← ht]
  have t2 : t.cls = cl := by rw [← ht]
  have t3 : t.fmt = f := by rw [← ht]
  have t4 : t.place = H.mem.length := by rw [← ht]
  have t5 : t.slots = List.replicate n (newX f) := by rw [← ht]
  have t6 : t.slots.length = n := by rw [t5]; simp
  have hg := fun i => putAt_get M.things q i t
  have hgl := putAt_length M.things q t
  have hS : ∀ i, (layH H (q + 1) cl n f).seats.getD i (0, 0, 0) = if i = q + 1 then (H.mem.length, lenN n f, H.order.length) else H.seats.getD i (0, 0, 0) := fun i => laySeat H.seats (q + 1) i _
  have hSl : (layH H (q + 1) cl n f).seats.length = max H.seats.length (q + 2) := by
    show ((padSeats H.seats (q + 1 + 1)).set (q + 1) _).length = _
    unfold padSeats
    simp
    omega
  have hM : (layH H (q + 1) cl n f).mem = H.mem ++ objCells cl n f := rfl
  have hMl : (H.mem ++ objCells cl n f).length = H.mem.length + lenN n f := by rw [List.length_append, objCells_len cl n f hf]
  have hO : (layH H (q + 1) cl n f).order = H.order ++ [q + 1] := rfl
  have hOg : ∀ j, (H.order ++ [q + 1]).getD j 0 = if j = H.order.length then q + 1 else H.order.getD j 0 := fun j => by
    rw [List.getD_eq_getElem?_getD, List.getD_eq_getElem?_getD]
    by_cases e : j = H.order.length
    · rw [if_pos e, e, List.getElem?_append_right (Nat.le_refl _)]; simp
    · rw [if_neg e]
      by_cases hl : j < H.order.length
      · rw [List.getElem?_append_left hl]
      · rw [List.getElem?_eq_none (by simp; omega), List.getElem?_eq_none (by omega)]
  have hL := h.len
  have hsm := h.safe.small
  have ho := hsm.oops
  have hw := hsm.words
  have hshort := h.short
  have hl2 := lenN_two n f
  have hmost := h.most
  have hoo := h.oops
  have hend : ∀ i, i < M.things.length → (M.things.getD i noTh).there = true → (M.things.getD i noTh).place + lenN (M.things.getD i noTh).slots.length (M.things.getD i noTh).fmt ≤ H.mem.length := fun i h1 h2 => by rw [h.fin]; exact endTo_ge M.things _ i h1 h2
  exact {
    safe := ⟨⟨hw, ho, by rw [hM, hMl]; show ((H.mem.length + lenN n f : Nat) : Int) ≤ (H.words : Int); omega, by show ((H.count + 1 : Nat) : Int) ≤ (H.oops : Int); omega, hsm.mark⟩,
      by show H.low ≤ (addBits H.bits (q + 1)).length; rw [addBits_len]; have := h.safe.low; omega,
      by show ((addBits H.bits (q + 1)).length : Int) ≤ 1024; rw [addBits_len]; have := h.safe.bl; omega,
      fun i => addBits_le H.bits (q + 1) h.safe.bits i, by rw [hSl]; have := h.safe.seats; omega,
      by rw [hO]; simp only [List.length_append, List.length_singleton]; omega⟩
    words := h.words
    oops := h.oops
    mark := h.mark
    len := by
      rw [hSl]
      show max H.seats.length (q + 2) ≤ (putAt M.things q t).length + 1
      rw [hgl]
      omega
    seat0 := by rw [hS, if_neg (by omega)]; exact h.seat0
    there := fun i hi => by
      show (((putAt M.things q t).getD i noTh).there = true ↔ _)
      rw [hg i, hS (i + 1)]
      by_cases e : i = q
      · rw [if_pos e, if_pos (by omega)]; simp only [t1, true_iff]; show lenN n f ≠ 0; omega
      · rw [if_neg e, if_neg (by omega)]
        by_cases hil : i < M.things.length
        · exact h.there i hil
        · have e1 : M.things.getD i noTh = noTh := by rw [List.getD_eq_getElem?_getD, List.getElem?_eq_none (by omega)]; rfl
          have e2 : H.seats.getD (i + 1) (0, 0, 0) = (0, 0, 0) := by
            rw [List.getD_eq_getElem?_getD, List.getElem?_eq_none (by omega)]; rfl
          rw [e1, e2]
          simp [noTh]
    seat := fun i hi hb => by
      have hb2 : ((putAt M.things q t).getD i noTh).there = true := hb
      show _ = ((putAt M.things q t).getD i noTh).place ∧ _ = lenN ((putAt M.things q t).getD i noTh).slots.length ((putAt M.things q t).getD i noTh).fmt
      rw [hg i] at hb2 ⊢
      rw [hS (i + 1)]
      by_cases e : i = q
      · rw [if_pos e, if_pos (by omega), t4, t6, t3]; exact ⟨rfl, rfl⟩
      · rw [if_neg e] at hb2 ⊢; rw [if_neg (by omega)]; exact h.seat i (th_in hb2) hb2
    is := fun i hi hb => by
      have hb2 : ((putAt M.things q t).getD i noTh).there = true := hb
      show Is _ (i + 1) ((putAt M.things q t).getD i noTh)
      rw [hg i] at hb2 ⊢
      by_cases e : i = q
      · rw [if_pos e, e]; exact is_laid _ q cl n f t hf hn t2 t3 t5
      · rw [if_neg e] at hb2 ⊢
        have hi2 := th_in hb2
        have hI := h.is i hi2 hb2
        have hr := hI.room
        refine hI.same (by rw [hS, if_neg (by omega)]) (by rw [hSl]; have := (has_yes hI.has).2.1; omega) (by rw [hM, hMl]; omega) (fun x h1 h2 => by rw [hM]; exact getD_left _ _ x (by omega))
    count := by show H.count + 1 = thereTo (putAt M.things q t) (putAt M.things q t).length; rw [thereTo_putAt M.things q t hqf t1, h.count]
    fin := by
      rw [hM, hMl]
      show _ = endTo (putAt M.things q t) (putAt M.things q t).length
      refine (endTo_is _ _ _ (fun j hj hb => ?_) (.inr ⟨q, by omega, by rw [hg, if_pos rfl]; exact t1, by rw [hg, if_pos rfl, t4, t6, t3]⟩)).symm
      rw [hg j] at hb ⊢
      by_cases e : j = q
      · rw [if_pos e, t4, t6, t3]; exact Nat.le_refl _
      · rw [if_neg e] at hb ⊢
        have := hend j (th_in hb) hb
        omega
    turn := fun i hi hb => by
      have hb2 : ((putAt M.things q t).getD i noTh).there = true := hb
      rw [hg i] at hb2
      rw [hS (i + 1), hO, hOg]
      by_cases e : i = q
      · rw [if_pos (by omega)]; simp; omega
      · rw [if_neg e] at hb2
        rw [if_neg (by omega)]
        have := h.turn i (th_in hb2) hb2
        rw [if_neg (by omega)]
        exact ⟨by rw [List.length_append, List.length_singleton]; omega, this.2⟩
    order := fun j hj hne => by
      rw [hO] at hj hne ⊢
      show _ ≤ (putAt M.things q t).length ∧ ((putAt M.things q t).getD _ noTh).there = true ∧ _
      rw [hOg] at hne ⊢
      by_cases e : j = H.order.length
      · rw [if_pos e, hS, if_pos rfl, hg, if_pos (by omega)]
        exact ⟨by omega, t1, e.symm⟩
      · rw [if_neg e] at hne ⊢
        simp at hj
        obtain ⟨o1, o2, o3⟩ := h.order j (by omega) hne
        have hne2 : H.order.getD j 0 ≠ q + 1 := fun e2 => by
          rw [e2, Nat.add_sub_cancel, hfree.1] at o2
          simp at o2
        rw [hS, if_neg hne2, hg, if_neg (by omega)]
        exact ⟨by omega, o2, o3⟩
    rise := fun i j hij hj hi0 hj0 => by
      rw [hO] at hj hi0 hj0 ⊢
      rw [hOg] at hi0 hj0 ⊢
      rw [hOg j]
      simp at hj
      rw [if_neg (by omega)] at hi0 ⊢
      obtain ⟨o1, o2, o3⟩ := h.order i (by omega) hi0
      have hne2 : H.order.getD i 0 ≠ q + 1 := fun e2 => by
        rw [e2, Nat.add_sub_cancel, hfree.1] at o2
        simp at o2
      rw [hS, if_neg hne2, hS]
      by_cases e : j = H.order.length
      · rw [if_pos e, if_pos rfl]
        have hI := h.seat (H.order.getD i 0 - 1) (by omega) o2
        have := hend (H.order.getD i 0 - 1) (by omega) o2
        rw [show H.order.getD i 0 - 1 + 1 = H.order.getD i 0 from by omega] at hI
        show _ ≤ H.mem.length
        omega
      · rw [if_neg e] at hj0 ⊢
        obtain ⟨p1, p2, p3⟩ := h.order j (by omega) hj0
        have hne3 : H.order.getD j 0 ≠ q + 1 := fun e2 => by
          rw [e2, Nat.add_sub_cancel, hfree.1] at p2
          simp at p2
        rw [if_neg hne3]
        exact h.rise i j hij (by omega) hi0 hj0
    last := fun j hj => by
      rw [hO] at hj ⊢
      simp at hj
      rw [hOg, if_pos (by omega)]
      omega
    gaps := fun x hx hc => by
      rw [hM] at hx ⊢
      rw [hMl] at hx
      by_cases hlt : x < H.mem.length
      · rw [getD_left _ _ x hlt]
        refine h.gaps x hlt (fun i hi hb => ?_)
        have hiq : i ≠ q := fun e => by rw [e, hfree.1] at hb; simp at hb
        have := hc i (by show i < (putAt M.things q t).length; omega) (by show ((putAt M.things q t).getD i noTh).there = true; rw [hg, if_neg hiq]; exact hb)
        have h3 : x < ((putAt M.things q t).getD i noTh).place ∨ ((putAt M.things q t).getD i noTh).place + lenN ((putAt M.things q t).getD i noTh).slots.length ((putAt M.things q t).getD i noTh).fmt ≤ x := this
        rw [hg, if_neg hiq] at h3
        exact h3
      · have := hc q (by show q < (putAt M.things q t).length; omega) (by show ((putAt M.things q t).getD q noTh).there = true; rw [hg, if_pos rfl]; exact t1)
        have h3 : x < ((putAt M.things q t).getD q noTh).place ∨ ((putAt M.things q t).getD q noTh).place + lenN ((putAt M.things q t).getD q noTh).slots.length ((putAt M.things q t).getD q noTh).fmt ≤ x := this
        rw [hg, if_pos rfl, t4, t6, t3] at h3
        omega
    bit := fun j => by
      show ((addBits H.bits (q + 1)).getD (j / 64) 0).testBit (j % 64) = ((putAt M.things q t).getD j noTh).there
      rw [addBits_bit H.bits (q + 1) j (by omega), hg, Nat.add_sub_cancel]
      split
      · exact t1.symm
      · exact h.bit j
    low := fun i hi => by
      have hi2 : i < H.low := hi
      show (addBits H.bits (q + 1)).getD i 0 = full
      have hb : H.bits.getD i 0 = full := h.low i hi2
      have h1 := addBits_le H.bits (q + 1) h.safe.bits i
      rw [addBits_getD] at h1 ⊢
      split
      · rw [if_pos (by assumption)] at h1
        have := Nat.left_le_or (n := H.bits.getD i 0) (m := 2 ^ ((q + 1 - 1) % 64))
        omega
      · exact hb
    model := ⟨by show ((putAt M.things q t).length : Int) ≤ 65538; have := h.model.len; omega, fun i hi => by
        show (((putAt M.things q t).getD i noTh).slots.length : Int) ≤ 8192
        rw [hg]
        split
        · rw [t6]; omega
        · by_cases hil : i < M.things.length
          · exact h.model.slots i hil
          · rw [List.getD_eq_getElem?_getD, List.getElem?_eq_none (by omega)]; simp [noTh], fun i hi => by
        show (((putAt M.things q t).getD i noTh).place : Int) ≤ 1048576
        rw [hg]
        split
        · rw [t4]; have := h.room; omega
        · by_cases hil : i < M.things.length
          · exact h.model.place i hil
          · rw [List.getD_eq_getElem?_getD, List.getElem?_eq_none (by omega)]; simp [noTh]⟩
    deep := fun j hj hne => by
      rw [hO] at hj hne ⊢
      rw [hOg] at hne ⊢
      by_cases e : j = H.order.length
      · rw [if_pos e, hS, if_pos rfl]
        show 2 * j ≤ H.mem.length
        omega
      · rw [if_neg e] at hne ⊢
        simp at hj
        obtain ⟨o1, o2, o3⟩ := h.order j (by omega) hne
        have hne2 : H.order.getD j 0 ≠ q + 1 := fun e2 => by
          rw [e2, Nat.add_sub_cancel, hfree.1] at o2
          simp at o2
        rw [hS, if_neg hne2]
        exact h.deep j (by omega) hne
    most := by show (putAt M.things q t).length ≤ M.oops; omega
    room := h.room }
end Go.Proofs.YtdkbnnhcjaibdaaDoor

