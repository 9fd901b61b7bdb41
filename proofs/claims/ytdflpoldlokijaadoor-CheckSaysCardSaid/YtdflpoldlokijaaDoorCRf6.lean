import Derived.Test.YtdflpoldlokijaaDoorCRf1
namespace Go.Proofs.YtdflpoldlokijaaDoor
open Go.RowKit
set_option linter.unusedVariables false
set_option linter.unusedSimpArgs false
attribute [local go_sem ↓] Go.wp_at_zero Go.wp_at_succ
theorem slot_scope (sc : List Nat) (x y : Int) : bel y (scopeR sc x) = isSlotP sc x y := by
  unfold scopeR isSlotP inR bel
  by_cases h : 0 ≤ x ∧ x < sc.length
  · rw [if_pos h]
    simp [h.1, show x ≤ (sc.length : Int) - 1 by omega]
  · rw [if_neg h]
    by_cases h0 : 0 ≤ x
    · have h1 : ¬ x ≤ (sc.length : Int) - 1 := by omega
      simp [h1]; omega
    · simp [h0]; omega
section
variable {w : World} {B x : Nat} {F : WFx} {bs : List Bd} {pb : Option Addr} {cb : Nat} {rs : List Ri} {pr : Option Addr} {cr : Nat} {el : Nat} {er : Int}
set_option maxRecDepth 100000 in
set_option maxHeartbeats 4000000 in
theorem opnd1 (h : WR w B x F bs pb cb rs pr cr el er) {inf : List Inf} (hb : BOk bs inf) (k : Nat) (sc : List Nat) (b e : Nat) (hk : inf[k]? = some (sc, b, e)) (hs1 : 1 ≤ sc.length) (hs25 : sc.length ≤ 25) (hl : bs.length ≤ 100000) (at_ sz nx to_ a b2 c : Int) (hr : -9223372036854775808 ≤ a ∧ a ≤ 9223372036854775807) : Calls Tryd.prog 56 #[.pointer (some ⟨x, 0, none⟩), .agg #[.int .i64 at_, .int .i64 sz, .int .i64 1, .int .i64 (k : Int), .int .i64 nx, .int .i64 to_, .int .i64 a, .int .i64 b2, .int .i64 c]] w fun e w' => e = .returned (.bool (fitP F.C.b F.C.lits sc 1 a b2 c)) ∧ Fr [] w w' := by
  have hxw := lt_of_heap h.top
  have HR : Hid (fitP F.C.b F.C.lits sc 1 a b2 c = true) := mkHid rfl
  clear h hb hk
  go_enter Tryd.func56, Tryd.ntmps56
  go_wp2_with fail
  go_ret
  refine ⟨by rw [HR.out]; rfl, ?_⟩
  first | exact Fr.alloc [] w _ | exact (Fr.alloc [] w _).dn _ | exact (Fr.alloc [] w _).tr0 (Fr.drew [] _)
set_option maxRecDepth 100000 in
set_option maxHeartbeats 4000000 in
theorem opnd2 (h : WR w B x F bs pb cb rs pr cr el er) {inf : List Inf} (hb : BOk bs inf) (k : Nat) (sc : List Nat) (b e : Nat) (hk : inf[k]? = some (sc, b, e)) (hs1 : 1 ≤ sc.length) (hs25 : sc.length ≤ 25) (hl : bs.length ≤ 100000) (at_ sz nx to_ a b2 c : Int) (hr : -9223372036854775808 ≤ a ∧ a ≤ 9223372036854775807) : Calls Tryd.prog 56 #[.pointer (some ⟨x, 0, none⟩), .agg #[.int .i64 at_, .int .i64 sz, .int .i64 2, .int .i64 (k : Int), .int .i64 nx, .int .i64 to_, .int .i64 a, .int .i64 b2, .int .i64 c]] w fun e w' => e = .returned (.bool (fitP F.C.b F.C.lits sc 2 a b2 c)) ∧ Fr [] w w' := by
  have hxw := lt_of_heap h.top
  have HR : Hid (fitP F.C.b F.C.lits sc 2 a b2 c = true) := mkHid rfl
  clear h hb hk
  go_enter Tryd.func56, Tryd.ntmps56
  go_wp2_with fail
  go_ret
  refine ⟨by rw [HR.out]; rfl, ?_⟩
  first | exact Fr.alloc [] w _ | exact (Fr.alloc [] w _).dn _ | exact (Fr.alloc [] w _).tr0 (Fr.drew [] _)
set_option maxRecDepth 100000 in
set_option maxHeartbeats 4000000 in
theorem opnd3 (h : WR w B x F bs pb cb rs pr cr el er) {inf : List Inf} (hb : BOk bs inf) (k : Nat) (sc : List Nat) (b e : Nat) (hk : inf[k]? = some (sc, b, e)) (hs1 : 1 ≤ sc.length) (hs25 : sc.length ≤ 25) (hl : bs.length ≤ 100000) (at_ sz nx to_ a b2 c : Int) (hr : -9223372036854775808 ≤ a ∧ a ≤ 9223372036854775807) : Calls Tryd.prog 56 #[.pointer (some ⟨x, 0, none⟩), .agg #[.int .i64 at_, .int .i64 sz, .int .i64 3, .int .i64 (k : Int), .int .i64 nx, .int .i64 to_, .int .i64 a, .int .i64 b2, .int .i64 c]] w fun e w' => e = .returned (.bool (fitP F.C.b F.C.lits sc 3 a b2 c)) ∧ Fr [] w w' := by
  have hxw := lt_of_heap h.top
  have HR : Hid (fitP F.C.b F.C.lits sc 3 a b2 c = true) := mkHid rfl
  clear h hb hk
  go_enter Tryd.func56, Tryd.ntmps56
  go_wp2_with fail
  go_ret
  refine ⟨by rw [HR.out]; rfl, ?_⟩
  first | exact Fr.alloc [] w _ | exact (Fr.alloc [] w _).dn _ | exact (Fr.alloc [] w _).tr0 (Fr.drew [] _)
set_option maxRecDepth 100000 in
set_option maxHeartbeats 4000000 in
theorem opnd4 (h : WR w B x F bs pb cb rs pr cr el er) {inf : List Inf} (hb : BOk bs inf) (k : Nat) (sc : List Nat) (b e : Nat) (hk : inf[k]? = some (sc, b, e)) (hs1 : 1 ≤ sc.length) (hs25 : sc.length ≤ 25) (hl : bs.length ≤ 100000) (at_ sz nx to_ a b2 c : Int) (hr : -9223372036854775808 ≤ a ∧ a ≤ 9223372036854775807) : Calls Tryd.prog 56 #[.pointer (some ⟨x, 0, none⟩), .agg #[.int .i64 at_, .int .i64 sz, .int .i64 4, .int .i64 (k : Int), .int .i64 nx, .int .i64 to_, .int .i64 a, .int .i64 b2, .int .i64 c]] w fun e w' => e = .returned (.bool (fitP F.C.b F.C.lits sc 4 a b2 c)) ∧ Fr [] w w' := by
  have hxw := lt_of_heap h.top
  have HR : Hid (fitP F.C.b F.C.lits sc 4 a b2 c = true) := mkHid rfl
  clear h hb hk
  go_enter Tryd.func56, Tryd.ntmps56
  go_wp2_with fail
  go_ret
  refine ⟨by rw [HR.out]; rfl, ?_⟩
  first | exact Fr.alloc [] w _ | exact (Fr.alloc [] w _).dn _ | exact (Fr.alloc [] w _).tr0 (Fr.drew [] _)
set_option maxRecDepth 100000 in
set_option maxHeartbeats 4000000 in
theorem opnd15 (h : WR w B x F bs pb cb rs pr cr el er) {inf : List Inf} (hb : BOk bs inf) (k : Nat) (sc : List Nat) (b e : Nat) (hk : inf[k]? = some (sc, b, e)) (hs1 : 1 ≤ sc.length) (hs25 : sc.length ≤ 25) (hl : bs.length ≤ 100000) (at_ sz nx to_ a b2 c : Int) (hr : -9223372036854775808 ≤ a ∧ a ≤ 9223372036854775807) : Calls Tryd.prog 56 #[.pointer (some ⟨x, 0, none⟩), .agg #[.int .i64 at_, .int .i64 sz, .int .i64 15, .int .i64 (k : Int), .int .i64 nx, .int .i64 to_, .int .i64 a, .int .i64 b2, .int .i64 c]] w fun e w' => e = .returned (.bool (fitP F.C.b F.C.lits sc 15 a b2 c)) ∧ Fr [] w w' := by
  have hxw := lt_of_heap h.top
  have HR : Hid (fitP F.C.b F.C.lits sc 15 a b2 c = true) := mkHid rfl
  clear h hb hk
  go_enter Tryd.func56, Tryd.ntmps56
  go_wp2_with fail
  go_ret
  refine ⟨by rw [HR.out]; rfl, ?_⟩
  first | exact Fr.alloc [] w _ | exact (Fr.alloc [] w _).dn _ | exact (Fr.alloc [] w _).tr0 (Fr.drew [] _)
set_option maxRecDepth 100000 in
set_option maxHeartbeats 4000000 in
theorem opnd16 (h : WR w B x F bs pb cb rs pr cr el er) {inf : List Inf} (hb : BOk bs inf) (k : Nat) (sc : List Nat) (b e : Nat) (hk : inf[k]? = some (sc, b, e)) (hs1 : 1 ≤ sc.length) (hs25 : sc.length ≤ 25) (hl : bs.length ≤ 100000) (at_ sz nx to_ a b2 c : Int) (hr : -9223372036854775808 ≤ a ∧ a ≤ 9223372036854775807) : Calls Tryd.prog 56 #[.pointer (some ⟨x, 0, none⟩), .agg #[.int .i64 at_, .int .i64 sz, .int .i64 16, .int .i64 (k : Int), .int .i64 nx, .int .i64 to_, .int .i64 a, .int .i64 b2, .int .i64 c]] w fun e w' => e = .returned (.bool (fitP F.C.b F.C.lits sc 16 a b2 c)) ∧ Fr [] w w' := by
  have hxw := lt_of_heap h.top
  have HR : Hid (fitP F.C.b F.C.lits sc 16 a b2 c = true) := mkHid rfl
  clear h hb hk
  go_enter Tryd.func56, Tryd.ntmps56
  go_wp2_with fail
  go_ret
  refine ⟨by rw [HR.out]; rfl, ?_⟩
  first | exact Fr.alloc [] w _ | exact (Fr.alloc [] w _).dn _ | exact (Fr.alloc [] w _).tr0 (Fr.drew [] _)
set_option maxRecDepth 100000 in
set_option maxHeartbeats 4000000 in
theorem opnd20 (h : WR w B x F bs pb cb rs pr cr el er) {inf : List Inf} (hb : BOk bs inf) (k : Nat) (sc : List Nat) (b e : Nat) (hk : inf[k]? = some (sc, b, e)) (hs1 : 1 ≤ sc.length) (hs25 : sc.length ≤ 25) (hl : bs.length ≤ 100000) (at_ sz nx to_ a b2 c : Int) (hr : -9223372036854775808 ≤ a ∧ a ≤ 9223372036854775807) : Calls Tryd.prog 56 #[.pointer (some ⟨x, 0, none⟩), .agg #[.int .i64 at_, .int .i64 sz, .int .i64 20, .int .i64 (k : Int), .int .i64 nx, .int .i64 to_, .int .i64 a, .int .i64 b2, .int .i64 c]] w fun e w' => e = .returned (.bool (fitP F.C.b F.C.lits sc 20 a b2 c)) ∧ Fr [] w w' := by
  have hxw := lt_of_heap h.top
  have HR : Hid (fitP F.C.b F.C.lits sc 20 a b2 c = true) := mkHid rfl
  clear h hb hk
  go_enter Tryd.func56, Tryd.ntmps56
  go_wp2_with fail
  go_ret
  refine ⟨by rw [HR.out]; rfl, ?_⟩
  first | exact Fr.alloc [] w _ | exact (Fr.alloc [] w _).dn _ | exact (Fr.alloc [] w _).tr0 (Fr.drew [] _)
set_option maxRecDepth 100000 in
set_option maxHeartbeats 4000000 in
theorem opnd21 (h : WR w B x F bs pb cb rs pr cr el er) {inf : List Inf} (hb : BOk bs inf) (k : Nat) (sc : List Nat) (b e : Nat) (hk : inf[k]? = some (sc, b, e)) (hs1 : 1 ≤ sc.length) (hs25 : sc.length ≤ 25) (hl : bs.length ≤ 100000) (at_ sz nx to_ a b2 c : Int) (hr : -9223372036854775808 ≤ a ∧ a ≤ 9223372036854775807) : Calls Tryd.prog 56 #[.pointer (some ⟨x, 0, none⟩), .agg #[.int .i64 at_, .int .i64 sz, .int .i64 21, .int .i64 (k : Int), .int .i64 nx, .int .i64 to_, .int .i64 a, .int .i64 b2, .int .i64 c]] w fun e w' => e = .returned (.bool (fitP F.C.b F.C.lits sc 21 a b2 c)) ∧ Fr [] w w' := by
  have hxw := lt_of_heap h.top
  have HR : Hid (fitP F.C.b F.C.lits sc 21 a b2 c = true) := mkHid rfl
  clear h hb hk
  go_enter Tryd.func56, Tryd.ntmps56
  go_wp2_with fail
  go_ret
  refine ⟨by rw [HR.out]; rfl, ?_⟩
  first | exact Fr.alloc [] w _ | exact (Fr.alloc [] w _).dn _ | exact (Fr.alloc [] w _).tr0 (Fr.drew [] _)
set_option maxRecDepth 100000 in
set_option maxHeartbeats 4000000 in
theorem opnd22 (h : WR w B x F bs pb cb rs pr cr el er) {inf : List Inf} (hb : BOk bs inf) (k : Nat) (sc : List Nat) (b e : Nat) (hk : inf[k]? = some (sc, b, e)) (hs1 : 1 ≤ sc.length) (hs25 : sc.length ≤ 25) (hl : bs.length ≤ 100000) (at_ sz nx to_ a b2 c : Int) (hr : -9223372036854775808 ≤ a ∧ a ≤ 9223372036854775807) : Calls Tryd.prog 56 #[.pointer (some ⟨x, 0, none⟩), .agg #[.int .i64 at_, .int .i64 sz, .int .i64 22, .int .i64 (k : Int), .int .i64 nx, .int .i64 to_, .int .i64 a, .int .i64 b2, .int .i64 c]] w fun e w' => e = .returned (.bool (fitP F.C.b F.C.lits sc 22 a b2 c)) ∧ Fr [] w w' := by
  have hxw := lt_of_heap h.top
  have HR : Hid (fitP F.C.b F.C.lits sc 22 a b2 c = true) := mkHid rfl
  clear h hb hk
  go_enter Tryd.func56, Tryd.ntmps56
  go_wp2_with fail
  go_ret
  refine ⟨by rw [HR.out]; rfl, ?_⟩
  first | exact Fr.alloc [] w _ | exact (Fr.alloc [] w _).dn _ | exact (Fr.alloc [] w _).tr0 (Fr.drew [] _)
set_option maxRecDepth 100000 in
set_option maxHeartbeats 4000000 in
theorem opnd23 (h : WR w B x F bs pb cb rs pr cr el er) {inf : List Inf} (hb : BOk bs inf) (k : Nat) (sc : List Nat) (b e : Nat) (hk : inf[k]? = some (sc, b, e)) (hs1 : 1 ≤ sc.length) (hs25 : sc.length ≤ 25) (hl : bs.length ≤ 100000) (at_ sz nx to_ a b2 c : Int) (hr : -9223372036854775808 ≤ a ∧ a ≤ 9223372036854775807) : Calls Tryd.prog 56 #[.pointer (some ⟨x, 0, none⟩), .agg #[.int .i64 at_, .int .i64 sz, .int .i64 23, .int .i64 (k : Int), .int .i64 nx, .int .i64 to_, .int .i64 a, .int .i64 b2, .int .i64 c]] w fun e w' => e = .returned (.bool (fitP F.C.b F.C.lits sc 23 a b2 c)) ∧ Fr [] w w' := by
  have hxw := lt_of_heap h.top
  have HR : Hid (fitP F.C.b F.C.lits sc 23 a b2 c = true) := mkHid rfl
  clear h hb hk
  go_enter Tryd.func56, Tryd.ntmps56
  go_wp2_with fail
  go_ret
  refine ⟨by rw [HR.out]; rfl, ?_⟩
  first | exact Fr.alloc [] w _ | exact (Fr.alloc [] w _).dn _ | exact (Fr.alloc [] w _).tr0 (Fr.drew [] _)
set_option maxRecDepth 100000 in
set_option maxHeartbeats 4000000 in
theorem opnd24 (h : WR w B x F bs pb cb rs pr cr el er) {inf : List Inf} (hb : BOk bs inf) (k : Nat) (sc : List Nat) (b e : Nat) (hk : inf[k]? = some (sc, b, e)) (hs1 : 1 ≤ sc.length) (hs25 : sc.length ≤ 25) (hl : bs.length ≤ 100000) (at_ sz nx to_ a b2 c : Int) (hr : -9223372036854775808 ≤ a ∧ a ≤ 9223372036854775807) : Calls Tryd.prog 56 #[.pointer (some ⟨x, 0, none⟩), .agg #[.int .i64 at_, .int .i64 sz, .int .i64 24, .int .i64 (k : Int), .int .i64 nx, .int .i64 to_, .int .i64 a, .int .i64 b2, .int .i64 c]] w fun e w' => e = .returned (.bool (fitP F.C.b F.C.lits sc 24 a b2 c)) ∧ Fr [] w w' := by
  have hxw := lt_of_heap h.top
  have HR : Hid (fitP F.C.b F.C.lits sc 24 a b2 c = true) := mkHid rfl
  clear h hb hk
  go_enter Tryd.func56, Tryd.ntmps56
  go_wp2_with fail
  go_ret
  refine ⟨by rw [HR.out]; rfl, ?_⟩
  first | exact Fr.alloc [] w _ | exact (Fr.alloc [] w _).dn _ | exact (Fr.alloc [] w _).tr0 (Fr.drew [] _)
set_option maxRecDepth 100000 in
set_option maxHeartbeats 4000000 in
theorem opnd25 (h : WR w B x F bs pb cb rs pr cr el er) {inf : List Inf} (hb : BOk bs inf) (k : Nat) (sc : List Nat) (b e : Nat) (hk : inf[k]? = some (sc, b, e)) (hs1 : 1 ≤ sc.length) (hs25 : sc.length ≤ 25) (hl : bs.length ≤ 100000) (at_ sz nx to_ a b2 c : Int) (hr : -9223372036854775808 ≤ a ∧ a ≤ 9223372036854775807) : Calls Tryd.prog 56 #[.pointer (some ⟨x, 0, none⟩), .agg #[.int .i64 at_, .int .i64 sz, .int .i64 25, .int .i64 (k : Int), .int .i64 nx, .int .i64 to_, .int .i64 a, .int .i64 b2, .int .i64 c]] w fun e w' => e = .returned (.bool (fitP F.C.b F.C.lits sc 25 a b2 c)) ∧ Fr [] w w' := by
  have hxw := lt_of_heap h.top
  have HR : Hid (fitP F.C.b F.C.lits sc 25 a b2 c = true) := mkHid rfl
  clear h hb hk
  go_enter Tryd.func56, Tryd.ntmps56
  go_wp2_with fail
  go_ret
  refine ⟨by rw [HR.out]; rfl, ?_⟩
  first | exact Fr.alloc [] w _ | exact (Fr.alloc [] w _).dn _ | exact (Fr.alloc [] w _).tr0 (Fr.drew [] _)
set_option maxRecDepth 100000 in
set_option maxHeartbeats 4000000 in
theorem opnd26 (h : WR w B x F bs pb cb rs pr cr el er) {inf : List Inf} (hb : BOk bs inf) (k : Nat) (sc : List Nat) (b e : Nat) (hk : inf[k]? = some (sc, b, e)) (hs1 : 1 ≤ sc.length) (hs25 : sc.length ≤ 25) (hl : bs.length ≤ 100000) (at_ sz nx to_ a b2 c : Int) (hr : -9223372036854775808 ≤ a ∧ a ≤ 9223372036854775807) : Calls Tryd.prog 56 #[.pointer (some ⟨x, 0, none⟩), .agg #[.int .i64 at_, .int .i64 sz, .int .i64 26, .int .i64 (k : Int), .int .i64 nx, .int .i64 to_, .int .i64 a, .int .i64 b2, .int .i64 c]] w fun e w' => e = .returned (.bool (fitP F.C.b F.C.lits sc 26 a b2 c)) ∧ Fr [] w w' := by
  have hxw := lt_of_heap h.top
  have HR : Hid (fitP F.C.b F.C.lits sc 26 a b2 c = true) := mkHid rfl
  clear h hb hk
  go_enter Tryd.func56, Tryd.ntmps56
  go_wp2_with fail
  go_ret
  refine ⟨by rw [HR.out]; rfl, ?_⟩
  first | exact Fr.alloc [] w _ | exact (Fr.alloc [] w _).dn _ | exact (Fr.alloc [] w _).tr0 (Fr.drew [] _)
set_option maxRecDepth 100000 in
set_option maxHeartbeats 4000000 in
theorem opnd5 (h : WR w B x F bs pb cb rs pr cr el er) {inf : List Inf} (hb : BOk bs inf) (k : Nat) (sc : List Nat) (b e : Nat) (hk : inf[k]? = some (sc, b, e)) (hs1 : 1 ≤ sc.length) (hs25 : sc.length ≤ 25) (hl : bs.length ≤ 100000) (at_ sz nx to_ a b2 c : Int) (hr : -9223372036854775808 ≤ a ∧ a ≤ 9223372036854775807) : Calls Tryd.prog 56 #[.pointer (some ⟨x, 0, none⟩), .agg #[.int .i64 at_, .int .i64 sz, .int .i64 5, .int .i64 (k : Int), .int .i64 nx, .int .i64 to_, .int .i64 a, .int .i64 b2, .int .i64 c]] w fun e w' => e = .returned (.bool (fitP F.C.b F.C.lits sc 5 a b2 c)) ∧ Fr [] w w' := by
  have hxw := lt_of_heap h.top
  by_cases q2 : -1073741824 ≤ a
  · skip
    by_cases q1 : a ≤ 1073741823
    · skip
      have HR : Hid (fitP F.C.b F.C.lits sc 5 a b2 c = true) := by show fitP _ _ _ _ _ _ _ = _; unfold fitP inR; simp; try omega
      clear h hb hk
      go_enter Tryd.func56, Tryd.ntmps56
      go_wp2_with fail
      go_ret
      refine ⟨by rw [HR.out]; rfl, ?_⟩
      first | exact Fr.alloc [] w _ | exact (Fr.alloc [] w _).dn _ | exact (Fr.alloc [] w _).tr0 (Fr.drew [] _)
    · have d1 : decide (a ≤ 1073741823) = false := decide_eq_false q1
      have HR : Hid (fitP F.C.b F.C.lits sc 5 a b2 c = false) := by show fitP _ _ _ _ _ _ _ = _; unfold fitP inR; simp; try omega
      clear h hb hk
      go_enter Tryd.func56, Tryd.ntmps56
      go_wp2_with fail
      go_ret
      refine ⟨by rw [HR.out]; rfl, ?_⟩
      first | exact Fr.alloc [] w _ | exact (Fr.alloc [] w _).dn _ | exact (Fr.alloc [] w _).tr0 (Fr.drew [] _)
  · have d2 : decide (-1073741824 ≤ a) = false := decide_eq_false q2
    have HR : Hid (fitP F.C.b F.C.lits sc 5 a b2 c = false) := by show fitP _ _ _ _ _ _ _ = _; unfold fitP inR; simp; try omega
    clear h hb hk
    go_enter Tryd.func56, Tryd.ntmps56
    go_wp2_with fail
    go_ret
    refine ⟨by rw [HR.out]; rfl, ?_⟩
    first | exact Fr.alloc [] w _ | exact (Fr.alloc [] w _).dn _ | exact (Fr.alloc [] w _).tr0 (Fr.drew [] _)
set_option maxRecDepth 100000 in
set_option maxHeartbeats 4000000 in
theorem opnd8 (h : WR w B x F bs pb cb rs pr cr el er) {inf : List Inf} (hb : BOk bs inf) (k : Nat) (sc : List Nat) (b e : Nat) (hk : inf[k]? = some (sc, b, e)) (hs1 : 1 ≤ sc.length) (hs25 : sc.length ≤ 25) (hl : bs.length ≤ 100000) (at_ sz nx to_ a b2 c : Int) (hr : -9223372036854775808 ≤ a ∧ a ≤ 9223372036854775807) : Calls Tryd.prog 56 #[.pointer (some ⟨x, 0, none⟩), .agg #[.int .i64 at_, .int .i64 sz, .int .i64 8, .int .i64 (k : Int), .int .i64 nx, .int .i64 to_, .int .i64 a, .int .i64 b2, .int .i64 c]] w fun e w' => e = .returned (.bool (fitP F.C.b F.C.lits sc 8 a b2 c)) ∧ Fr [] w w' := by
  have hxw := lt_of_heap h.top
  obtain ⟨V, hV⟩ : ∃ V, w.alloc (.cells #[.int .i64 at_, .int .i64 sz, .int .i64 8, .int .i64 (k : Int), .int .i64 nx, .int .i64 to_, .int .i64 a, .int .i64 b2, .int .i64 c] 78) = V := ⟨_, rfl⟩
  have FV : Fr [] w V := by rw [← hV]; exact Fr.alloc [] w _
  have GV := heap_alloc_new w (.cells #[.int .i64 at_, .int .i64 sz, .int .i64 8, .int .i64 (k : Int), .int .i64 nx, .int .i64 to_, .int .i64 a, .int .i64 b2, .int .i64 c] 78)
  rw [hV] at GV
  have l2 : V.cell? ⟨w.heap.size, 2, none⟩ = some (.int .i64 8) := cell_in GV 2
  have l3 : V.cell? ⟨w.heap.size, 3, none⟩ = some (.int .i64 (k : Int)) := cell_in GV 3
  have l6 : V.cell? ⟨w.heap.size, 6, none⟩ = some (.int .i64 a) := cell_in GV 6
  have l7 : V.cell? ⟨w.heap.size, 7, none⟩ = some (.int .i64 b2) := cell_in GV 7
  have l8 : V.cell? ⟨w.heap.size, 8, none⟩ = some (.int .i64 c) := cell_in GV 8
  have hr2 := h.idle FV
  have c3 : V.cell? ⟨x, 3, none⟩ = some (.slice F.lp F.C.lits F.lc) := hr2.cell 3
  have c5 : V.cell? ⟨x, 5, none⟩ = some (.int .i64 F.C.b.fields) := hr2.cell 5
  have c6 : V.cell? ⟨x, 6, none⟩ = some (.int .i64 F.C.b.classes) := hr2.cell 6
  have c7 : V.cell? ⟨x, 7, none⟩ = some (.int .i64 F.C.b.globals) := hr2.cell 7
  have c8 : V.cell? ⟨x, 8, none⟩ = some (.int .i64 F.C.b.symbols) := hr2.cell 8
  have HFV := mkHid FV
  by_cases q2 : 1 ≤ a
  · skip
    by_cases q1 : a ≤ F.C.b.classes
    · skip
      have HR : Hid (fitP F.C.b F.C.lits sc 8 a b2 c = true) := by show fitP _ _ _ _ _ _ _ = _; unfold fitP inR; simp; try omega
      clear hb hk
      clear h hr2 GV FV
      go_enter Tryd.func56, Tryd.ntmps56
      go_wp2_with fail
      try rw [hV]
      clear hV
      go_quiet (fail)
      go_wp2_with fail
      go_ret
      exact ⟨by rw [HR.out]; rfl, HFV.out.dn _⟩
    · have d1 : decide (a ≤ F.C.b.classes) = false := decide_eq_false q1
      have HR : Hid (fitP F.C.b F.C.lits sc 8 a b2 c = false) := by show fitP _ _ _ _ _ _ _ = _; unfold fitP inR; simp; try omega
      clear hb hk
      clear h hr2 GV FV
      go_enter Tryd.func56, Tryd.ntmps56
      go_wp2_with fail
      try rw [hV]
      clear hV
      go_quiet (fail)
      go_wp2_with fail
      go_ret
      exact ⟨by rw [HR.out]; rfl, HFV.out.dn _⟩
  · have d2 : decide (1 ≤ a) = false := decide_eq_false q2
    have HR : Hid (fitP F.C.b F.C.lits sc 8 a b2 c = false) := by show fitP _ _ _ _ _ _ _ = _; unfold fitP inR; simp; try omega
    clear hb hk
    clear h hr2 GV FV
    go_enter Tryd.func56, Tryd.ntmps56
    go_wp2_with fail
    try rw [hV]
    clear hV
    go_quiet (fail)
    go_wp2_with fail
    go_ret
    exact ⟨by rw [HR.out]; rfl, HFV.out.dn _⟩
set_option maxRecDepth 100000 in
set_option maxHeartbeats 4000000 in
theorem opnd6 (h : WR w B x F bs pb cb rs pr cr el er) {inf : List Inf} (hb : BOk bs inf) (k : Nat) (sc : List Nat) (b e : Nat) (hk : inf[k]? = some (sc, b, e)) (hs1 : 1 ≤ sc.length) (hs25 : sc.length ≤ 25) (hl : bs.length ≤ 100000) (at_ sz nx to_ a b2 c : Int) (hr : -9223372036854775808 ≤ a ∧ a ≤ 9223372036854775807) : Calls Tryd.prog 56 #[.pointer (some ⟨x, 0, none⟩), .agg #[.int .i64 at_, .int .i64 sz, .int .i64 6, .int .i64 (k : Int), .int .i64 nx, .int .i64 to_, .int .i64 a, .int .i64 b2, .int .i64 c]] w fun e w' => e = .returned (.bool (fitP F.C.b F.C.lits sc 6 a b2 c)) ∧ Fr [] w w' := by
  have hxw := lt_of_heap h.top
  obtain ⟨V, hV⟩ : ∃ V, w.alloc (.cells #[.int .i64 at_, .int .i64 sz, .int .i64 6, .int .i64 (k : Int), .int .i64 nx, .int .i64 to_, .int .i64 a, .int .i64 b2, .int .i64 c] 78) = V := ⟨_, rfl⟩
  have FV : Fr [] w V := by rw [← hV]; exact Fr.alloc [] w _
  have GV := heap_alloc_new w (.cells #[.int .i64 at_, .int .i64 sz, .int .i64 6, .int .i64 (k : Int), .int .i64 nx, .int .i64 to_, .int .i64 a, .int .i64 b2, .int .i64 c] 78)
  rw [hV] at GV
  have l2 : V.cell? ⟨w.heap.size, 2, none⟩ = some (.int .i64 6) := cell_in GV 2
  have l3 : V.cell? ⟨w.heap.size, 3, none⟩ = some (.int .i64 (k : Int)) := cell_in GV 3
  have l6 : V.cell? ⟨w.heap.size, 6, none⟩ = some (.int .i64 a) := cell_in GV 6
  have l7 : V.cell? ⟨w.heap.size, 7, none⟩ = some (.int .i64 b2) := cell_in GV 7
  have l8 : V.cell? ⟨w.heap.size, 8, none⟩ = some (.int .i64 c) := cell_in GV 8
  have hr2 := h.idle FV
  have c3 : V.cell? ⟨x, 3, none⟩ = some (.slice F.lp F.C.lits F.lc) := hr2.cell 3
  have c5 : V.cell? ⟨x, 5, none⟩ = some (.int .i64 F.C.b.fields) := hr2.cell 5
  have c6 : V.cell? ⟨x, 6, none⟩ = some (.int .i64 F.C.b.classes) := hr2.cell 6
  have c7 : V.cell? ⟨x, 7, none⟩ = some (.int .i64 F.C.b.globals) := hr2.cell 7
  have c8 : V.cell? ⟨x, 8, none⟩ = some (.int .i64 F.C.b.symbols) := hr2.cell 8
  have HFV := mkHid FV
  have HR : Hid (fitP F.C.b F.C.lits sc 6 a b2 c = bel a (F.C.lits : Int)) := mkHid rfl
  have H1 : Hid (∀ q, Calls Tryd.prog 54 #[.int .i64 a, .int .i64 (F.C.lits : Int)] (V.drewN q) fun e w' => e = .returned (.bool (bel a (F.C.lits : Int))) ∧ w' = V.drewN q) := fun q => rwithin_ok _ _ _
  generalize bel a (F.C.lits : Int) = bb at *
  clear hb hk
  clear h hr2 GV FV
  go_enter Tryd.func56, Tryd.ntmps56
  go_wp2_with fail
  try rw [hV]
  clear hV
  go_quiet (first
      | (go_at_call 54; refine (H1.out _).mono ?_; rintro e2 w2 ⟨rfl, rfl⟩; exact ⟨rfl, _, rfl⟩))
  go_wp2_with fail
  go_ret
  exact ⟨by rw [HR.out]; rfl, HFV.out.dn _⟩
set_option maxRecDepth 100000 in
set_option maxHeartbeats 4000000 in
theorem opnd7 (h : WR w B x F bs pb cb rs pr cr el er) {inf : List Inf} (hb : BOk bs inf) (k : Nat) (sc : List Nat) (b e : Nat) (hk : inf[k]? = some (sc, b, e)) (hs1 : 1 ≤ sc.length) (hs25 : sc.length ≤ 25) (hl : bs.length ≤ 100000) (at_ sz nx to_ a b2 c : Int) (hr : -9223372036854775808 ≤ a ∧ a ≤ 9223372036854775807) : Calls Tryd.prog 56 #[.pointer (some ⟨x, 0, none⟩), .agg #[.int .i64 at_, .int .i64 sz, .int .i64 7, .int .i64 (k : Int), .int .i64 nx, .int .i64 to_, .int .i64 a, .int .i64 b2, .int .i64 c]] w fun e w' => e = .returned (.bool (fitP F.C.b F.C.lits sc 7 a b2 c)) ∧ Fr [] w w' := by
  have hxw := lt_of_heap h.top
  obtain ⟨V, hV⟩ : ∃ V, w.alloc (.cells #[.int .i64 at_, .int .i64 sz, .int .i64 7, .int .i64 (k : Int), .int .i64 nx, .int .i64 to_, .int .i64 a, .int .i64 b2, .int .i64 c] 78) = V := ⟨_, rfl⟩
  have FV : Fr [] w V := by rw [← hV]; exact Fr.alloc [] w _
  have GV := heap_alloc_new w (.cells #[.int .i64 at_, .int .i64 sz, .int .i64 7, .int .i64 (k : Int), .int .i64 nx, .int .i64 to_, .int .i64 a, .int .i64 b2, .int .i64 c] 78)
  rw [hV] at GV
  have l2 : V.cell? ⟨w.heap.size, 2, none⟩ = some (.int .i64 7) := cell_in GV 2
  have l3 : V.cell? ⟨w.heap.size, 3, none⟩ = some (.int .i64 (k : Int)) := cell_in GV 3
  have l6 : V.cell? ⟨w.heap.size, 6, none⟩ = some (.int .i64 a) := cell_in GV 6
  have l7 : V.cell? ⟨w.heap.size, 7, none⟩ = some (.int .i64 b2) := cell_in GV 7
  have l8 : V.cell? ⟨w.heap.size, 8, none⟩ = some (.int .i64 c) := cell_in GV 8
  have hr2 := h.idle FV
  have c3 : V.cell? ⟨x, 3, none⟩ = some (.slice F.lp F.C.lits F.lc) := hr2.cell 3
  have c5 : V.cell? ⟨x, 5, none⟩ = some (.int .i64 F.C.b.fields) := hr2.cell 5
  have c6 : V.cell? ⟨x, 6, none⟩ = some (.int .i64 F.C.b.classes) := hr2.cell 6
  have c7 : V.cell? ⟨x, 7, none⟩ = some (.int .i64 F.C.b.globals) := hr2.cell 7
  have c8 : V.cell? ⟨x, 8, none⟩ = some (.int .i64 F.C.b.symbols) := hr2.cell 8
  have HFV := mkHid FV
  have HR : Hid (fitP F.C.b F.C.lits sc 7 a b2 c = bel a F.C.b.symbols) := mkHid rfl
  have H1 : Hid (∀ q, Calls Tryd.prog 54 #[.int .i64 a, .int .i64 F.C.b.symbols] (V.drewN q) fun e w' => e = .returned (.bool (bel a F.C.b.symbols)) ∧ w' = V.drewN q) := fun q => rwithin_ok _ _ _
  generalize bel a F.C.b.symbols = bb at *
  clear hb hk
  clear h hr2 GV FV
  go_enter Tryd.func56, Tryd.ntmps56
  go_wp2_with fail
  try rw [hV]
  clear hV
  go_quiet (first
      | (go_at_call 54; refine (H1.out _).mono ?_; rintro e2 w2 ⟨rfl, rfl⟩; exact ⟨rfl, _, rfl⟩))
  go_wp2_with fail
  go_ret
  exact ⟨by rw [HR.out]; rfl, HFV.out.dn _⟩
set_option maxRecDepth 100000 in
set_option maxHeartbeats 4000000 in
theorem opnd9 (h : WR w B x F bs pb cb rs pr cr el er) {inf : List Inf} (hb : BOk bs inf) (k : Nat) (sc : List Nat) (b e : Nat) (hk : inf[k]? = some (sc, b, e)) (hs1 : 1 ≤ sc.length) (hs25 : sc.length ≤ 25) (hl : bs.length ≤ 100000) (at_ sz nx to_ a b2 c : Int) (hr : -9223372036854775808 ≤ a ∧ a ≤ 9223372036854775807) : Calls Tryd.prog 56 #[.pointer (some ⟨x, 0, none⟩), .agg #[.int .i64 at_, .int .i64 sz, .int .i64 9, .int .i64 (k : Int), .int .i64 nx, .int .i64 to_, .int .i64 a, .int .i64 b2, .int .i64 c]] w fun e w' => e = .returned (.bool (fitP F.C.b F.C.lits sc 9 a b2 c)) ∧ Fr [] w w' := by
  have hxw := lt_of_heap h.top
  obtain ⟨V, hV⟩ : ∃ V, w.alloc (.cells #[.int .i64 at_, .int .i64 sz, .int .i64 9, .int .i64 (k : Int), .int .i64 nx, .int .i64 to_, .int .i64 a, .int .i64 b2, .int .i64 c] 78) = V := ⟨_, rfl⟩
  have FV : Fr [] w V := by rw [← hV]; exact Fr.alloc [] w _
  have GV := heap_alloc_new w (.cells #[.int .i64 at_, .int .i64 sz, .int .i64 9, .int .i64 (k : Int), .int .i64 nx, .int .i64 to_, .int .i64 a, .int .i64 b2, .int .i64 c] 78)
  rw [hV] at GV
  have l2 : V.cell? ⟨w.heap.size, 2, none⟩ = some (.int .i64 9) := cell_in GV 2
  have l3 : V.cell? ⟨w.heap.size, 3, none⟩ = some (.int .i64 (k : Int)) := cell_in GV 3
  have l6 : V.cell? ⟨w.heap.size, 6, none⟩ = some (.int .i64 a) := cell_in GV 6
  have l7 : V.cell? ⟨w.heap.size, 7, none⟩ = some (.int .i64 b2) := cell_in GV 7
  have l8 : V.cell? ⟨w.heap.size, 8, none⟩ = some (.int .i64 c) := cell_in GV 8
  have hr2 := h.idle FV
  have c3 : V.cell? ⟨x, 3, none⟩ = some (.slice F.lp F.C.lits F.lc) := hr2.cell 3
  have c5 : V.cell? ⟨x, 5, none⟩ = some (.int .i64 F.C.b.fields) := hr2.cell 5
  have c6 : V.cell? ⟨x, 6, none⟩ = some (.int .i64 F.C.b.classes) := hr2.cell 6
  have c7 : V.cell? ⟨x, 7, none⟩ = some (.int .i64 F.C.b.globals) := hr2.cell 7
  have c8 : V.cell? ⟨x, 8, none⟩ = some (.int .i64 F.C.b.symbols) := hr2.cell 8
  have HFV := mkHid FV
  have HR : Hid (fitP F.C.b F.C.lits sc 9 a b2 c = bel a F.C.b.fields) := mkHid rfl
  have H1 : Hid (∀ q, Calls Tryd.prog 54 #[.int .i64 a, .int .i64 F.C.b.fields] (V.drewN q) fun e w' => e = .returned (.bool (bel a F.C.b.fields)) ∧ w' = V.drewN q) := fun q => rwithin_ok _ _ _
  generalize bel a F.C.b.fields = bb at *
  clear hb hk
  clear h hr2 GV FV
  go_enter Tryd.func56, Tryd.ntmps56
  go_wp2_with fail
  try rw [hV]
  clear hV
  go_quiet (first
      | (go_at_call 54; refine (H1.out _).mono ?_; rintro e2 w2 ⟨rfl, rfl⟩; exact ⟨rfl, _, rfl⟩))
  go_wp2_with fail
  go_ret
  exact ⟨by rw [HR.out]; rfl, HFV.out.dn _⟩
set_option maxRecDepth 100000 in
set_option maxHeartbeats 4000000 in
theorem opnd12 (h : WR w B x F bs pb cb rs pr cr el er) {inf : List Inf} (hb : BOk bs inf) (k : Nat) (sc : List Nat) (b e : Nat) (hk : inf[k]? = some (sc, b, e)) (hs1 : 1 ≤ sc.length) (hs25 : sc.length ≤ 25) (hl : bs.length ≤ 100000) (at_ sz nx to_ a b2 c : Int) (hr : -9223372036854775808 ≤ a ∧ a ≤ 9223372036854775807) : Calls Tryd.prog 56 #[.pointer (some ⟨x, 0, none⟩), .agg #[.int .i64 at_, .int .i64 sz, .int .i64 12, .int .i64 (k : Int), .int .i64 nx, .int .i64 to_, .int .i64 a, .int .i64 b2, .int .i64 c]] w fun e w' => e = .returned (.bool (fitP F.C.b F.C.lits sc 12 a b2 c)) ∧ Fr [] w w' := by
  have hxw := lt_of_heap h.top
  obtain ⟨V, hV⟩ : ∃ V, w.alloc (.cells #[.int .i64 at_, .int .i64 sz, .int .i64 12, .int .i64 (k : Int), .int .i64 nx, .int .i64 to_, .int .i64 a, .int .i64 b2, .int .i64 c] 78) = V := ⟨_, rfl⟩
  have FV : Fr [] w V := by rw [← hV]; exact Fr.alloc [] w _
  have GV := heap_alloc_new w (.cells #[.int .i64 at_, .int .i64 sz, .int .i64 12, .int .i64 (k : Int), .int .i64 nx, .int .i64 to_, .int .i64 a, .int .i64 b2, .int .i64 c] 78)
  rw [hV] at GV
  have l2 : V.cell? ⟨w.heap.size, 2, none⟩ = some (.int .i64 12) := cell_in GV 2
  have l3 : V.cell? ⟨w.heap.size, 3, none⟩ = some (.int .i64 (k : Int)) := cell_in GV 3
  have l6 : V.cell? ⟨w.heap.size, 6, none⟩ = some (.int .i64 a) := cell_in GV 6
  have l7 : V.cell? ⟨w.heap.size, 7, none⟩ = some (.int .i64 b2) := cell_in GV 7
  have l8 : V.cell? ⟨w.heap.size, 8, none⟩ = some (.int .i64 c) := cell_in GV 8
  have hr2 := h.idle FV
  have c3 : V.cell? ⟨x, 3, none⟩ = some (.slice F.lp F.C.lits F.lc) := hr2.cell 3
  have c5 : V.cell? ⟨x, 5, none⟩ = some (.int .i64 F.C.b.fields) := hr2.cell 5
  have c6 : V.cell? ⟨x, 6, none⟩ = some (.int .i64 F.C.b.classes) := hr2.cell 6
  have c7 : V.cell? ⟨x, 7, none⟩ = some (.int .i64 F.C.b.globals) := hr2.cell 7
  have c8 : V.cell? ⟨x, 8, none⟩ = some (.int .i64 F.C.b.symbols) := hr2.cell 8
  have HFV := mkHid FV
  have HR : Hid (fitP F.C.b F.C.lits sc 12 a b2 c = bel a F.C.b.fields) := mkHid rfl
  have H1 : Hid (∀ q, Calls Tryd.prog 54 #[.int .i64 a, .int .i64 F.C.b.fields] (V.drewN q) fun e w' => e = .returned (.bool (bel a F.C.b.fields)) ∧ w' = V.drewN q) := fun q => rwithin_ok _ _ _
  generalize bel a F.C.b.fields = bb at *
  clear hb hk
  clear h hr2 GV FV
  go_enter Tryd.func56, Tryd.ntmps56
  go_wp2_with fail
  try rw [hV]
  clear hV
  go_quiet (first
      | (go_at_call 54; refine (H1.out _).mono ?_; rintro e2 w2 ⟨rfl, rfl⟩; exact ⟨rfl, _, rfl⟩))
  go_wp2_with fail
  go_ret
  exact ⟨by rw [HR.out]; rfl, HFV.out.dn _⟩
set_option maxRecDepth 100000 in
set_option maxHeartbeats 4000000 in
theorem opnd11 (h : WR w B x F bs pb cb rs pr cr el er) {inf : List Inf} (hb : BOk bs inf) (k : Nat) (sc : List Nat) (b e : Nat) (hk : inf[k]? = some (sc, b, e)) (hs1 : 1 ≤ sc.length) (hs25 : sc.length ≤ 25) (hl : bs.length ≤ 100000) (at_ sz nx to_ a b2 c : Int) (hr : -9223372036854775808 ≤ a ∧ a ≤ 9223372036854775807) : Calls Tryd.prog 56 #[.pointer (some ⟨x, 0, none⟩), .agg #[.int .i64 at_, .int .i64 sz, .int .i64 11, .int .i64 (k : Int), .int .i64 nx, .int .i64 to_, .int .i64 a, .int .i64 b2, .int .i64 c]] w fun e w' => e = .returned (.bool (fitP F.C.b F.C.lits sc 11 a b2 c)) ∧ Fr [] w w' := by
  have hxw := lt_of_heap h.top
  obtain ⟨V, hV⟩ : ∃ V, w.alloc (.cells #[.int .i64 at_, .int .i64 sz, .int .i64 11, .int .i64 (k : Int), .int .i64 nx, .int .i64 to_, .int .i64 a, .int .i64 b2, .int .i64 c] 78) = V := ⟨_, rfl⟩
  have FV : Fr [] w V := by rw [← hV]; exact Fr.alloc [] w _
  have GV := heap_alloc_new w (.cells #[.int .i64 at_, .int .i64 sz, .int .i64 11, .int .i64 (k : Int), .int .i64 nx, .int .i64 to_, .int .i64 a, .int .i64 b2, .int .i64 c] 78)
  rw [hV] at GV
  have l2 : V.cell? ⟨w.heap.size, 2, none⟩ = some (.int .i64 11) := cell_in GV 2
  have l3 : V.cell? ⟨w.heap.size, 3, none⟩ = some (.int .i64 (k : Int)) := cell_in GV 3
  have l6 : V.cell? ⟨w.heap.size, 6, none⟩ = some (.int .i64 a) := cell_in GV 6
  have l7 : V.cell? ⟨w.heap.size, 7, none⟩ = some (.int .i64 b2) := cell_in GV 7
  have l8 : V.cell? ⟨w.heap.size, 8, none⟩ = some (.int .i64 c) := cell_in GV 8
  have hr2 := h.idle FV
  have c3 : V.cell? ⟨x, 3, none⟩ = some (.slice F.lp F.C.lits F.lc) := hr2.cell 3
  have c5 : V.cell? ⟨x, 5, none⟩ = some (.int .i64 F.C.b.fields) := hr2.cell 5
  have c6 : V.cell? ⟨x, 6, none⟩ = some (.int .i64 F.C.b.classes) := hr2.cell 6
  have c7 : V.cell? ⟨x, 7, none⟩ = some (.int .i64 F.C.b.globals) := hr2.cell 7
  have c8 : V.cell? ⟨x, 8, none⟩ = some (.int .i64 F.C.b.symbols) := hr2.cell 8
  have HFV := mkHid FV
  have HR : Hid (fitP F.C.b F.C.lits sc 11 a b2 c = bel a F.C.b.globals) := mkHid rfl
  have H1 : Hid (∀ q, Calls Tryd.prog 54 #[.int .i64 a, .int .i64 F.C.b.globals] (V.drewN q) fun e w' => e = .returned (.bool (bel a F.C.b.globals)) ∧ w' = V.drewN q) := fun q => rwithin_ok _ _ _
  generalize bel a F.C.b.globals = bb at *
  clear hb hk
  clear h hr2 GV FV
  go_enter Tryd.func56, Tryd.ntmps56
  go_wp2_with fail
  try rw [hV]
  clear hV
  go_quiet (first
      | (go_at_call 54; refine (H1.out _).mono ?_; rintro e2 w2 ⟨rfl, rfl⟩; exact ⟨rfl, _, rfl⟩))
  go_wp2_with fail
  go_ret
  exact ⟨by rw [HR.out]; rfl, HFV.out.dn _⟩
set_option maxRecDepth 100000 in
set_option maxHeartbeats 4000000 in
theorem opnd14 (h : WR w B x F bs pb cb rs pr cr el er) {inf : List Inf} (hb : BOk bs inf) (k : Nat) (sc : List Nat) (b e : Nat) (hk : inf[k]? = some (sc, b, e)) (hs1 : 1 ≤ sc.length) (hs25 : sc.length ≤ 25) (hl : bs.length ≤ 100000) (at_ sz nx to_ a b2 c : Int) (hr : -9223372036854775808 ≤ a ∧ a ≤ 9223372036854775807) : Calls Tryd.prog 56 #[.pointer (some ⟨x, 0, none⟩), .agg #[.int .i64 at_, .int .i64 sz, .int .i64 14, .int .i64 (k : Int), .int .i64 nx, .int .i64 to_, .int .i64 a, .int .i64 b2, .int .i64 c]] w fun e w' => e = .returned (.bool (fitP F.C.b F.C.lits sc 14 a b2 c)) ∧ Fr [] w w' := by
  have hxw := lt_of_heap h.top
  obtain ⟨V, hV⟩ : ∃ V, w.alloc (.cells #[.int .i64 at_, .int .i64 sz, .int .i64 14, .int .i64 (k : Int), .int .i64 nx, .int .i64 to_, .int .i64 a, .int .i64 b2, .int .i64 c] 78) = V := ⟨_, rfl⟩
  have FV : Fr [] w V := by rw [← hV]; exact Fr.alloc [] w _
  have GV := heap_alloc_new w (.cells #[.int .i64 at_, .int .i64 sz, .int .i64 14, .int .i64 (k : Int), .int .i64 nx, .int .i64 to_, .int .i64 a, .int .i64 b2, .int .i64 c] 78)
  rw [hV] at GV
  have l2 : V.cell? ⟨w.heap.size, 2, none⟩ = some (.int .i64 14) := cell_in GV 2
  have l3 : V.cell? ⟨w.heap.size, 3, none⟩ = some (.int .i64 (k : Int)) := cell_in GV 3
  have l6 : V.cell? ⟨w.heap.size, 6, none⟩ = some (.int .i64 a) := cell_in GV 6
  have l7 : V.cell? ⟨w.heap.size, 7, none⟩ = some (.int .i64 b2) := cell_in GV 7
  have l8 : V.cell? ⟨w.heap.size, 8, none⟩ = some (.int .i64 c) := cell_in GV 8
  have hr2 := h.idle FV
  have c3 : V.cell? ⟨x, 3, none⟩ = some (.slice F.lp F.C.lits F.lc) := hr2.cell 3
  have c5 : V.cell? ⟨x, 5, none⟩ = some (.int .i64 F.C.b.fields) := hr2.cell 5
  have c6 : V.cell? ⟨x, 6, none⟩ = some (.int .i64 F.C.b.classes) := hr2.cell 6
  have c7 : V.cell? ⟨x, 7, none⟩ = some (.int .i64 F.C.b.globals) := hr2.cell 7
  have c8 : V.cell? ⟨x, 8, none⟩ = some (.int .i64 F.C.b.symbols) := hr2.cell 8
  have HFV := mkHid FV
  have HR : Hid (fitP F.C.b F.C.lits sc 14 a b2 c = bel a F.C.b.globals) := mkHid rfl
  have H1 : Hid (∀ q, Calls Tryd.prog 54 #[.int .i64 a, .int .i64 F.C.b.globals] (V.drewN q) fun e w' => e = .returned (.bool (bel a F.C.b.globals)) ∧ w' = V.drewN q) := fun q => rwithin_ok _ _ _
  generalize bel a F.C.b.globals = bb at *
  clear hb hk
  clear h hr2 GV FV
  go_enter Tryd.func56, Tryd.ntmps56
  go_wp2_with fail
  try rw [hV]
  clear hV
  go_quiet (first
      | (go_at_call 54; refine (H1.out _).mono ?_; rintro e2 w2 ⟨rfl, rfl⟩; exact ⟨rfl, _, rfl⟩))
  go_wp2_with fail
  go_ret
  exact ⟨by rw [HR.out]; rfl, HFV.out.dn _⟩
set_option maxRecDepth 100000 in
set_option maxHeartbeats 4000000 in
theorem opnd10 (h : WR w B x F bs pb cb rs pr cr el er) {inf : List Inf} (hb : BOk bs inf) (k : Nat) (sc : List Nat) (b e : Nat) (hk : inf[k]? = some (sc, b, e)) (hs1 : 1 ≤ sc.length) (hs25 : sc.length ≤ 25) (hl : bs.length ≤ 100000) (at_ sz nx to_ a b2 c : Int) (hr : -9223372036854775808 ≤ a ∧ a ≤ 9223372036854775807) : Calls Tryd.prog 56 #[.pointer (some ⟨x, 0, none⟩), .agg #[.int .i64 at_, .int .i64 sz, .int .i64 10, .int .i64 (k : Int), .int .i64 nx, .int .i64 to_, .int .i64 a, .int .i64 b2, .int .i64 c]] w fun e w' => e = .returned (.bool (fitP F.C.b F.C.lits sc 10 a b2 c)) ∧ Fr [] w w' := by
  have hxw := lt_of_heap h.top
  obtain ⟨V, hV⟩ : ∃ V, w.alloc (.cells #[.int .i64 at_, .int .i64 sz, .int .i64 10, .int .i64 (k : Int), .int .i64 nx, .int .i64 to_, .int .i64 a, .int .i64 b2, .int .i64 c] 78) = V := ⟨_, rfl⟩
  have FV : Fr [] w V := by rw [← hV]; exact Fr.alloc [] w _
  have GV := heap_alloc_new w (.cells #[.int .i64 at_, .int .i64 sz, .int .i64 10, .int .i64 (k : Int), .int .i64 nx, .int .i64 to_, .int .i64 a, .int .i64 b2, .int .i64 c] 78)
  rw [hV] at GV
  have l2 : V.cell? ⟨w.heap.size, 2, none⟩ = some (.int .i64 10) := cell_in GV 2
  have l3 : V.cell? ⟨w.heap.size, 3, none⟩ = some (.int .i64 (k : Int)) := cell_in GV 3
  have l6 : V.cell? ⟨w.heap.size, 6, none⟩ = some (.int .i64 a) := cell_in GV 6
  have l7 : V.cell? ⟨w.heap.size, 7, none⟩ = some (.int .i64 b2) := cell_in GV 7
  have l8 : V.cell? ⟨w.heap.size, 8, none⟩ = some (.int .i64 c) := cell_in GV 8
  have hr2 := h.idle FV
  have c3 : V.cell? ⟨x, 3, none⟩ = some (.slice F.lp F.C.lits F.lc) := hr2.cell 3
  have c5 : V.cell? ⟨x, 5, none⟩ = some (.int .i64 F.C.b.fields) := hr2.cell 5
  have c6 : V.cell? ⟨x, 6, none⟩ = some (.int .i64 F.C.b.classes) := hr2.cell 6
  have c7 : V.cell? ⟨x, 7, none⟩ = some (.int .i64 F.C.b.globals) := hr2.cell 7
  have c8 : V.cell? ⟨x, 8, none⟩ = some (.int .i64 F.C.b.symbols) := hr2.cell 8
  have HFV := mkHid FV
  have HR : Hid (fitP F.C.b F.C.lits sc 10 a b2 c = bel b2 (scopeR sc a)) := by
    show fitP _ _ _ _ _ _ _ = _
    rw [slot_scope]; rfl
  have H1 : Hid (∀ q, Calls Tryd.prog 54 #[.int .i64 b2, .int .i64 (scopeR sc a)] (V.drewN q) fun e w' => e = .returned (.bool (bel b2 (scopeR sc a))) ∧ w' = V.drewN q) := fun q => rwithin_ok _ _ _
  have H2 : Hid (∀ q, Calls Tryd.prog 68 #[.pointer (some ⟨x, 0, none⟩), .int .i64 (k : Int), .int .i64 a] (V.drewN q) fun en w' => en = .returned (.int .i64 (scopeR sc a)) ∧ w' = V.drewN q) := fun q => scope_ok (hr2.dr q) hb k sc b e hk hs1 hs25 hl a (by omega) (by omega)
  generalize bel b2 (scopeR sc a) = bb at *
  generalize scopeR sc a = sr at *
  clear hb hk
  clear h hr2 GV FV
  go_enter Tryd.func56, Tryd.ntmps56
  go_wp2_with fail
  try rw [hV]
  clear hV
  go_quiet (first
      | (go_at_call 54; refine (H1.out _).mono ?_; rintro e2 w2 ⟨rfl, rfl⟩; exact ⟨rfl, _, rfl⟩)
      | (go_at_call 68; refine (H2.out _).mono ?_; rintro e2 w2 ⟨rfl, rfl⟩; exact ⟨rfl, _, rfl⟩))
  go_wp2_with fail
  go_ret
  exact ⟨by rw [HR.out]; rfl, HFV.out.dn _⟩
set_option maxRecDepth 100000 in
set_option maxHeartbeats 4000000 in
theorem opnd13 (h : WR w B x F bs pb cb rs pr cr el er) {inf : List Inf} (hb : BOk bs inf) (k : Nat) (sc : List Nat) (b e : Nat) (hk : inf[k]? = some (sc, b, e)) (hs1 : 1 ≤ sc.length) (hs25 : sc.length ≤ 25) (hl : bs.length ≤ 100000) (at_ sz nx to_ a b2 c : Int) (hr : -9223372036854775808 ≤ a ∧ a ≤ 9223372036854775807) : Calls Tryd.prog 56 #[.pointer (some ⟨x, 0, none⟩), .agg #[.int .i64 at_, .int .i64 sz, .int .i64 13, .int .i64 (k : Int), .int .i64 nx, .int .i64 to_, .int .i64 a, .int .i64 b2, .int .i64 c]] w fun e w' => e = .returned (.bool (fitP F.C.b F.C.lits sc 13 a b2 c)) ∧ Fr [] w w' := by
  have hxw := lt_of_heap h.top
  obtain ⟨V, hV⟩ : ∃ V, w.alloc (.cells #[.int .i64 at_, .int .i64 sz, .int .i64 13, .int .i64 (k : Int), .int .i64 nx, .int .i64 to_, .int .i64 a, .int .i64 b2, .int .i64 c] 78) = V := ⟨_, rfl⟩
  have FV : Fr [] w V := by rw [← hV]; exact Fr.alloc [] w _
  have GV := heap_alloc_new w (.cells #[.int .i64 at_, .int .i64 sz, .int .i64 13, .int .i64 (k : Int), .int .i64 nx, .int .i64 to_, .int .i64 a, .int .i64 b2, .int .i64 c] 78)
  rw [hV] at GV
  have l2 : V.cell? ⟨w.heap.size, 2, none⟩ = some (.int .i64 13) := cell_in GV 2
  have l3 : V.cell? ⟨w.heap.size, 3, none⟩ = some (.int .i64 (k : Int)) := cell_in GV 3
  have l6 : V.cell? ⟨w.heap.size, 6, none⟩ = some (.int .i64 a) := cell_in GV 6
  have l7 : V.cell? ⟨w.heap.size, 7, none⟩ = some (.int .i64 b2) := cell_in GV 7
  have l8 : V.cell? ⟨w.heap.size, 8, none⟩ = some (.int .i64 c) := cell_in GV 8
  have hr2 := h.idle FV
  have c3 : V.cell? ⟨x, 3, none⟩ = some (.slice F.lp F.C.lits F.lc) := hr2.cell 3
  have c5 : V.cell? ⟨x, 5, none⟩ = some (.int .i64 F.C.b.fields) := hr2.cell 5
  have c6 : V.cell? ⟨x, 6, none⟩ = some (.int .i64 F.C.b.classes) := hr2.cell 6
  have c7 : V.cell? ⟨x, 7, none⟩ = some (.int .i64 F.C.b.globals) := hr2.cell 7
  have c8 : V.cell? ⟨x, 8, none⟩ = some (.int .i64 F.C.b.symbols) := hr2.cell 8
  have HFV := mkHid FV
  have HR : Hid (fitP F.C.b F.C.lits sc 13 a b2 c = bel b2 (scopeR sc a)) := by
    show fitP _ _ _ _ _ _ _ = _
    rw [slot_scope]; rfl
  have H1 : Hid (∀ q, Calls Tryd.prog 54 #[.int .i64 b2, .int .i64 (scopeR sc a)] (V.drewN q) fun e w' => e = .returned (.bool (bel b2 (scopeR sc a))) ∧ w' = V.drewN q) := fun q => rwithin_ok _ _ _
  have H2 : Hid (∀ q, Calls Tryd.prog 68 #[.pointer (some ⟨x, 0, none⟩), .int .i64 (k : Int), .int .i64 a] (V.drewN q) fun en w' => en = .returned (.int .i64 (scopeR sc a)) ∧ w' = V.drewN q) := fun q => scope_ok (hr2.dr q) hb k sc b e hk hs1 hs25 hl a (by omega) (by omega)
  generalize bel b2 (scopeR sc a) = bb at *
  generalize scopeR sc a = sr at *
  clear hb hk
  clear h hr2 GV FV
  go_enter Tryd.func56, Tryd.ntmps56
  go_wp2_with fail
  try rw [hV]
  clear hV
  go_quiet (first
      | (go_at_call 54; refine (H1.out _).mono ?_; rintro e2 w2 ⟨rfl, rfl⟩; exact ⟨rfl, _, rfl⟩)
      | (go_at_call 68; refine (H2.out _).mono ?_; rintro e2 w2 ⟨rfl, rfl⟩; exact ⟨rfl, _, rfl⟩))
  go_wp2_with fail
  go_ret
  exact ⟨by rw [HR.out]; rfl, HFV.out.dn _⟩
set_option maxRecDepth 100000 in
set_option maxHeartbeats 4000000 in
theorem opnd27 (h : WR w B x F bs pb cb rs pr cr el er) {inf : List Inf} (hb : BOk bs inf) (k : Nat) (sc : List Nat) (b e : Nat) (hk : inf[k]? = some (sc, b, e)) (hs1 : 1 ≤ sc.length) (hs25 : sc.length ≤ 25) (hl : bs.length ≤ 100000) (at_ sz nx to_ a b2 c : Int) (hr : -9223372036854775808 ≤ a ∧ a ≤ 9223372036854775807) : Calls Tryd.prog 56 #[.pointer (some ⟨x, 0, none⟩), .agg #[.int .i64 at_, .int .i64 sz, .int .i64 27, .int .i64 (k : Int), .int .i64 nx, .int .i64 to_, .int .i64 a, .int .i64 b2, .int .i64 c]] w fun e w' => e = .returned (.bool (fitP F.C.b F.C.lits sc 27 a b2 c)) ∧ Fr [] w w' := by
  have hxw := lt_of_heap h.top
  obtain ⟨V, hV⟩ : ∃ V, w.alloc (.cells #[.int .i64 at_, .int .i64 sz, .int .i64 27, .int .i64 (k : Int), .int .i64 nx, .int .i64 to_, .int .i64 a, .int .i64 b2, .int .i64 c] 78) = V := ⟨_, rfl⟩
  have FV : Fr [] w V := by rw [← hV]; exact Fr.alloc [] w _
  have GV := heap_alloc_new w (.cells #[.int .i64 at_, .int .i64 sz, .int .i64 27, .int .i64 (k : Int), .int .i64 nx, .int .i64 to_, .int .i64 a, .int .i64 b2, .int .i64 c] 78)
  rw [hV] at GV
  have l2 : V.cell? ⟨w.heap.size, 2, none⟩ = some (.int .i64 27) := cell_in GV 2
  have l3 : V.cell? ⟨w.heap.size, 3, none⟩ = some (.int .i64 (k : Int)) := cell_in GV 3
  have l6 : V.cell? ⟨w.heap.size, 6, none⟩ = some (.int .i64 a) := cell_in GV 6
  have l7 : V.cell? ⟨w.heap.size, 7, none⟩ = some (.int .i64 b2) := cell_in GV 7
  have l8 : V.cell? ⟨w.heap.size, 8, none⟩ = some (.int .i64 c) := cell_in GV 8
  have hr2 := h.idle FV
  have c3 : V.cell? ⟨x, 3, none⟩ = some (.slice F.lp F.C.lits F.lc) := hr2.cell 3
  have c5 : V.cell? ⟨x, 5, none⟩ = some (.int .i64 F.C.b.fields) := hr2.cell 5
  have c6 : V.cell? ⟨x, 6, none⟩ = some (.int .i64 F.C.b.classes) := hr2.cell 6
  have c7 : V.cell? ⟨x, 7, none⟩ = some (.int .i64 F.C.b.globals) := hr2.cell 7
  have c8 : V.cell? ⟨x, 8, none⟩ = some (.int .i64 F.C.b.symbols) := hr2.cell 8
  have HFV := mkHid FV
  have HR : Hid (fitP F.C.b F.C.lits sc 27 a b2 c = bel a (scopeR sc 0)) := by
    show fitP _ _ _ _ _ _ _ = _
    rw [slot_scope]; rfl
  have H1 : Hid (∀ q, Calls Tryd.prog 54 #[.int .i64 a, .int .i64 (scopeR sc 0)] (V.drewN q) fun e w' => e = .returned (.bool (bel a (scopeR sc 0))) ∧ w' = V.drewN q) := fun q => rwithin_ok _ _ _
  have H2 : Hid (∀ q, Calls Tryd.prog 68 #[.pointer (some ⟨x, 0, none⟩), .int .i64 (k : Int), .int .i64 0] (V.drewN q) fun en w' => en = .returned (.int .i64 (scopeR sc 0)) ∧ w' = V.drewN q) := fun q => scope_ok (hr2.dr q) hb k sc b e hk hs1 hs25 hl 0 (by omega) (by omega)
  generalize bel a (scopeR sc 0) = bb at *
  generalize scopeR sc 0 = sr at *
  clear hb hk
  clear h hr2 GV FV
  go_enter Tryd.func56, Tryd.ntmps56
  go_wp2_with fail
  try rw [hV]
  clear hV
  go_quiet (first
      | (go_at_call 54; refine (H1.out _).mono ?_; rintro e2 w2 ⟨rfl, rfl⟩; exact ⟨rfl, _, rfl⟩)
      | (go_at_call 68; refine (H2.out _).mono ?_; rintro e2 w2 ⟨rfl, rfl⟩; exact ⟨rfl, _, rfl⟩))
  go_wp2_with fail
  go_ret
  exact ⟨by rw [HR.out]; rfl, HFV.out.dn _⟩
set_option maxRecDepth 100000 in
set_option maxHeartbeats 4000000 in
theorem opnd28 (h : WR w B x F bs pb cb rs pr cr el er) {inf : List Inf} (hb : BOk bs inf) (k : Nat) (sc : List Nat) (b e : Nat) (hk : inf[k]? = some (sc, b, e)) (hs1 : 1 ≤ sc.length) (hs25 : sc.length ≤ 25) (hl : bs.length ≤ 100000) (at_ sz nx to_ a b2 c : Int) (hr : -9223372036854775808 ≤ a ∧ a ≤ 9223372036854775807) : Calls Tryd.prog 56 #[.pointer (some ⟨x, 0, none⟩), .agg #[.int .i64 at_, .int .i64 sz, .int .i64 28, .int .i64 (k : Int), .int .i64 nx, .int .i64 to_, .int .i64 a, .int .i64 b2, .int .i64 c]] w fun e w' => e = .returned (.bool (fitP F.C.b F.C.lits sc 28 a b2 c)) ∧ Fr [] w w' := by
  have hxw := lt_of_heap h.top
  obtain ⟨V, hV⟩ : ∃ V, w.alloc (.cells #[.int .i64 at_, .int .i64 sz, .int .i64 28, .int .i64 (k : Int), .int .i64 nx, .int .i64 to_, .int .i64 a, .int .i64 b2, .int .i64 c] 78) = V := ⟨_, rfl⟩
  have FV : Fr [] w V := by rw [← hV]; exact Fr.alloc [] w _
  have GV := heap_alloc_new w (.cells #[.int .i64 at_, .int .i64 sz, .int .i64 28, .int .i64 (k : Int), .int .i64 nx, .int .i64 to_, .int .i64 a, .int .i64 b2, .int .i64 c] 78)
  rw [hV] at GV
  have l2 : V.cell? ⟨w.heap.size, 2, none⟩ = some (.int .i64 28) := cell_in GV 2
  have l3 : V.cell? ⟨w.heap.size, 3, none⟩ = some (.int .i64 (k : Int)) := cell_in GV 3
  have l6 : V.cell? ⟨w.heap.size, 6, none⟩ = some (.int .i64 a) := cell_in GV 6
  have l7 : V.cell? ⟨w.heap.size, 7, none⟩ = some (.int .i64 b2) := cell_in GV 7
  have l8 : V.cell? ⟨w.heap.size, 8, none⟩ = some (.int .i64 c) := cell_in GV 8
  have hr2 := h.idle FV
  have c3 : V.cell? ⟨x, 3, none⟩ = some (.slice F.lp F.C.lits F.lc) := hr2.cell 3
  have c5 : V.cell? ⟨x, 5, none⟩ = some (.int .i64 F.C.b.fields) := hr2.cell 5
  have c6 : V.cell? ⟨x, 6, none⟩ = some (.int .i64 F.C.b.classes) := hr2.cell 6
  have c7 : V.cell? ⟨x, 7, none⟩ = some (.int .i64 F.C.b.globals) := hr2.cell 7
  have c8 : V.cell? ⟨x, 8, none⟩ = some (.int .i64 F.C.b.symbols) := hr2.cell 8
  have HFV := mkHid FV
  have HR : Hid (fitP F.C.b F.C.lits sc 28 a b2 c = bel a (scopeR sc 0)) := by
    show fitP _ _ _ _ _ _ _ = _
    rw [slot_scope]; rfl
  have H1 : Hid (∀ q, Calls Tryd.prog 54 #[.int .i64 a, .int .i64 (scopeR sc 0)] (V.drewN q) fun e w' => e = .returned (.bool (bel a (scopeR sc 0))) ∧ w' = V.drewN q) := fun q => rwithin_ok _ _ _
  have H2 : Hid (∀ q, Calls Tryd.prog 68 #[.pointer (some ⟨x, 0, none⟩), .int .i64 (k : Int), .int .i64 0] (V.drewN q) fun en w' => en = .returned (.int .i64 (scopeR sc 0)) ∧ w' = V.drewN q) := fun q => scope_ok (hr2.dr q) hb k sc b e hk hs1 hs25 hl 0 (by omega) (by omega)
  generalize bel a (scopeR sc 0) = bb at *
  generalize scopeR sc 0 = sr at *
  clear hb hk
  clear h hr2 GV FV
  go_enter Tryd.func56, Tryd.ntmps56
  go_wp2_with fail
  try rw [hV]
  clear hV
  go_quiet (first
      | (go_at_call 54; refine (H1.out _).mono ?_; rintro e2 w2 ⟨rfl, rfl⟩; exact ⟨rfl, _, rfl⟩)
      | (go_at_call 68; refine (H2.out _).mono ?_; rintro e2 w2 ⟨rfl, rfl⟩; exact ⟨rfl, _, rfl⟩))
  go_wp2_with fail
  go_ret
  exact ⟨by rw [HR.out]; rfl, HFV.out.dn _⟩
set_option maxRecDepth 100000 in
set_option maxHeartbeats 4000000 in
theorem opnd17 (h : WR w B x F bs pb cb rs pr cr el er) {inf : List Inf} (hb : BOk bs inf) (k : Nat) (sc : List Nat) (b e : Nat) (hk : inf[k]? = some (sc, b, e)) (hs1 : 1 ≤ sc.length) (hs25 : sc.length ≤ 25) (hl : bs.length ≤ 100000) (at_ sz nx to_ a b2 c : Int) (hr : -9223372036854775808 ≤ a ∧ a ≤ 9223372036854775807) : Calls Tryd.prog 56 #[.pointer (some ⟨x, 0, none⟩), .agg #[.int .i64 at_, .int .i64 sz, .int .i64 17, .int .i64 (k : Int), .int .i64 nx, .int .i64 to_, .int .i64 a, .int .i64 b2, .int .i64 c]] w fun e w' => e = .returned (.bool (fitP F.C.b F.C.lits sc 17 a b2 c)) ∧ Fr [] w w' := by
  have hxw := lt_of_heap h.top
  obtain ⟨V, hV⟩ : ∃ V, w.alloc (.cells #[.int .i64 at_, .int .i64 sz, .int .i64 17, .int .i64 (k : Int), .int .i64 nx, .int .i64 to_, .int .i64 a, .int .i64 b2, .int .i64 c] 78) = V := ⟨_, rfl⟩
  have FV : Fr [] w V := by rw [← hV]; exact Fr.alloc [] w _
  have GV := heap_alloc_new w (.cells #[.int .i64 at_, .int .i64 sz, .int .i64 17, .int .i64 (k : Int), .int .i64 nx, .int .i64 to_, .int .i64 a, .int .i64 b2, .int .i64 c] 78)
  rw [hV] at GV
  have l2 : V.cell? ⟨w.heap.size, 2, none⟩ = some (.int .i64 17) := cell_in GV 2
  have l3 : V.cell? ⟨w.heap.size, 3, none⟩ = some (.int .i64 (k : Int)) := cell_in GV 3
  have l6 : V.cell? ⟨w.heap.size, 6, none⟩ = some (.int .i64 a) := cell_in GV 6
  have l7 : V.cell? ⟨w.heap.size, 7, none⟩ = some (.int .i64 b2) := cell_in GV 7
  have l8 : V.cell? ⟨w.heap.size, 8, none⟩ = some (.int .i64 c) := cell_in GV 8
  have hr2 := h.idle FV
  have c3 : V.cell? ⟨x, 3, none⟩ = some (.slice F.lp F.C.lits F.lc) := hr2.cell 3
  have c5 : V.cell? ⟨x, 5, none⟩ = some (.int .i64 F.C.b.fields) := hr2.cell 5
  have c6 : V.cell? ⟨x, 6, none⟩ = some (.int .i64 F.C.b.classes) := hr2.cell 6
  have c7 : V.cell? ⟨x, 7, none⟩ = some (.int .i64 F.C.b.globals) := hr2.cell 7
  have c8 : V.cell? ⟨x, 8, none⟩ = some (.int .i64 F.C.b.symbols) := hr2.cell 8
  have HFV := mkHid FV
  have H1 : Hid (∀ q, Calls Tryd.prog 54 #[.int .i64 a, .int .i64 F.C.b.symbols] (V.drewN q) fun e w' => e = .returned (.bool (bel a F.C.b.symbols)) ∧ w' = V.drewN q) := fun q => rwithin_ok _ _ _
  cases hB : bel a F.C.b.symbols
  · rw [hB] at H1
    have HR : Hid (fitP F.C.b F.C.lits sc 17 a b2 c = false) := by show fitP _ _ _ _ _ _ _ = _; unfold fitP inR; simp [hB]; try omega
    clear hb hk hB
    clear h hr2 GV FV
    go_enter Tryd.func56, Tryd.ntmps56
    go_wp2_with fail
    try rw [hV]
    clear hV
    go_quiet (first
        | (go_at_call 54; refine (H1.out _).mono ?_; rintro e2 w2 ⟨rfl, rfl⟩; exact ⟨rfl, _, rfl⟩))
    go_wp2_with fail
    go_ret
    exact ⟨by rw [HR.out]; rfl, HFV.out.dn _⟩
  · rw [hB] at H1
    by_cases q2 : 0 ≤ b2
    · skip
      by_cases q1 : b2 ≤ 8
      · skip
        have HR : Hid (fitP F.C.b F.C.lits sc 17 a b2 c = true) := by show fitP _ _ _ _ _ _ _ = _; unfold fitP inR; simp [hB]; try omega
        clear hb hk hB
        clear h hr2 GV FV
        go_enter Tryd.func56, Tryd.ntmps56
        go_wp2_with fail
        try rw [hV]
        clear hV
        go_quiet (first
            | (go_at_call 54; refine (H1.out _).mono ?_; rintro e2 w2 ⟨rfl, rfl⟩; exact ⟨rfl, _, rfl⟩))
        go_wp2_with fail
        go_ret
        exact ⟨by rw [HR.out]; rfl, HFV.out.dn _⟩
      · have d1 : decide (b2 ≤ 8) = false := decide_eq_false q1
        have HR : Hid (fitP F.C.b F.C.lits sc 17 a b2 c = false) := by show fitP _ _ _ _ _ _ _ = _; unfold fitP inR; simp [hB]; try omega
        clear hb hk hB
        clear h hr2 GV FV
        go_enter Tryd.func56, Tryd.ntmps56
        go_wp2_with fail
        try rw [hV]
        clear hV
        go_quiet (first
            | (go_at_call 54; refine (H1.out _).mono ?_; rintro e2 w2 ⟨rfl, rfl⟩; exact ⟨rfl, _, rfl⟩))
        go_wp2_with fail
        go_ret
        exact ⟨by rw [HR.out]; rfl, HFV.out.dn _⟩
    · have d2 : decide (0 ≤ b2) = false := decide_eq_false q2
      have HR : Hid (fitP F.C.b F.C.lits sc 17 a b2 c = false) := by show fitP _ _ _ _ _ _ _ = _; unfold fitP inR; simp [hB]; try omega
      clear hb hk hB
      clear h hr2 GV FV
      go_enter Tryd.func56, Tryd.ntmps56
      go_wp2_with fail
      try rw [hV]
      clear hV
      go_quiet (first
          | (go_at_call 54; refine (H1.out _).mono ?_; rintro e2 w2 ⟨rfl, rfl⟩; exact ⟨rfl, _, rfl⟩))
      go_wp2_with fail
      go_ret
      exact ⟨by rw [HR.out]; rfl, HFV.out.dn _⟩
set_option maxRecDepth 100000 in
set_option maxHeartbeats 4000000 in
theorem opnd18 (h : WR w B x F bs pb cb rs pr cr el er) {inf : List Inf} (hb : BOk bs inf) (k : Nat) (sc : List Nat) (b e : Nat) (hk : inf[k]? = some (sc, b, e)) (hs1 : 1 ≤ sc.length) (hs25 : sc.length ≤ 25) (hl : bs.length ≤ 100000) (at_ sz nx to_ a b2 c : Int) (hr : -9223372036854775808 ≤ a ∧ a ≤ 9223372036854775807) : Calls Tryd.prog 56 #[.pointer (some ⟨x, 0, none⟩), .agg #[.int .i64 at_, .int .i64 sz, .int .i64 18, .int .i64 (k : Int), .int .i64 nx, .int .i64 to_, .int .i64 a, .int .i64 b2, .int .i64 c]] w fun e w' => e = .returned (.bool (fitP F.C.b F.C.lits sc 18 a b2 c)) ∧ Fr [] w w' := by
  have hxw := lt_of_heap h.top
  obtain ⟨V, hV⟩ : ∃ V, w.alloc (.cells #[.int .i64 at_, .int .i64 sz, .int .i64 18, .int .i64 (k : Int), .int .i64 nx, .int .i64 to_, .int .i64 a, .int .i64 b2, .int .i64 c] 78) = V := ⟨_, rfl⟩
  have FV : Fr [] w V := by rw [← hV]; exact Fr.alloc [] w _
  have GV := heap_alloc_new w (.cells #[.int .i64 at_, .int .i64 sz, .int .i64 18, .int .i64 (k : Int), .int .i64 nx, .int .i64 to_, .int .i64 a, .int .i64 b2, .int .i64 c] 78)
  rw [hV] at GV
  have l2 : V.cell? ⟨w.heap.size, 2, none⟩ = some (.int .i64 18) := cell_in GV 2
  have l3 : V.cell? ⟨w.heap.size, 3, none⟩ = some (.int .i64 (k : Int)) := cell_in GV 3
  have l6 : V.cell? ⟨w.heap.size, 6, none⟩ = some (.int .i64 a) := cell_in GV 6
  have l7 : V.cell? ⟨w.heap.size, 7, none⟩ = some (.int .i64 b2) := cell_in GV 7
  have l8 : V.cell? ⟨w.heap.size, 8, none⟩ = some (.int .i64 c) := cell_in GV 8
  have hr2 := h.idle FV
  have c3 : V.cell? ⟨x, 3, none⟩ = some (.slice F.lp F.C.lits F.lc) := hr2.cell 3
  have c5 : V.cell? ⟨x, 5, none⟩ = some (.int .i64 F.C.b.fields) := hr2.cell 5
  have c6 : V.cell? ⟨x, 6, none⟩ = some (.int .i64 F.C.b.classes) := hr2.cell 6
  have c7 : V.cell? ⟨x, 7, none⟩ = some (.int .i64 F.C.b.globals) := hr2.cell 7
  have c8 : V.cell? ⟨x, 8, none⟩ = some (.int .i64 F.C.b.symbols) := hr2.cell 8
  have HFV := mkHid FV
  have H1 : Hid (∀ q, Calls Tryd.prog 54 #[.int .i64 a, .int .i64 F.C.b.symbols] (V.drewN q) fun e w' => e = .returned (.bool (bel a F.C.b.symbols)) ∧ w' = V.drewN q) := fun q => rwithin_ok _ _ _
  cases hB : bel a F.C.b.symbols
  · rw [hB] at H1
    have HR : Hid (fitP F.C.b F.C.lits sc 18 a b2 c = false) := by show fitP _ _ _ _ _ _ _ = _; unfold fitP inR; simp [hB]; try omega
    clear hb hk hB
    clear h hr2 GV FV
    go_enter Tryd.func56, Tryd.ntmps56
    go_wp2_with fail
    try rw [hV]
    clear hV
    go_quiet (first
        | (go_at_call 54; refine (H1.out _).mono ?_; rintro e2 w2 ⟨rfl, rfl⟩; exact ⟨rfl, _, rfl⟩))
    go_wp2_with fail
    go_ret
    exact ⟨by rw [HR.out]; rfl, HFV.out.dn _⟩
  · rw [hB] at H1
    by_cases q2 : 0 ≤ b2
    · skip
      by_cases q1 : b2 ≤ 8
      · skip
        have HR : Hid (fitP F.C.b F.C.lits sc 18 a b2 c = true) := by show fitP _ _ _ _ _ _ _ = _; unfold fitP inR; simp [hB]; try omega
        clear hb hk hB
        clear h hr2 GV FV
        go_enter Tryd.func56, Tryd.ntmps56
        go_wp2_with fail
        try rw [hV]
        clear hV
        go_quiet (first
            | (go_at_call 54; refine (H1.out _).mono ?_; rintro e2 w2 ⟨rfl, rfl⟩; exact ⟨rfl, _, rfl⟩))
        go_wp2_with fail
        go_ret
        exact ⟨by rw [HR.out]; rfl, HFV.out.dn _⟩
      · have d1 : decide (b2 ≤ 8) = false := decide_eq_false q1
        have HR : Hid (fitP F.C.b F.C.lits sc 18 a b2 c = false) := by show fitP _ _ _ _ _ _ _ = _; unfold fitP inR; simp [hB]; try omega
        clear hb hk hB
        clear h hr2 GV FV
        go_enter Tryd.func56, Tryd.ntmps56
        go_wp2_with fail
        try rw [hV]
        clear hV
        go_quiet (first
            | (go_at_call 54; refine (H1.out _).mono ?_; rintro e2 w2 ⟨rfl, rfl⟩; exact ⟨rfl, _, rfl⟩))
        go_wp2_with fail
        go_ret
        exact ⟨by rw [HR.out]; rfl, HFV.out.dn _⟩
    · have d2 : decide (0 ≤ b2) = false := decide_eq_false q2
      have HR : Hid (fitP F.C.b F.C.lits sc 18 a b2 c = false) := by show fitP _ _ _ _ _ _ _ = _; unfold fitP inR; simp [hB]; try omega
      clear hb hk hB
      clear h hr2 GV FV
      go_enter Tryd.func56, Tryd.ntmps56
      go_wp2_with fail
      try rw [hV]
      clear hV
      go_quiet (first
          | (go_at_call 54; refine (H1.out _).mono ?_; rintro e2 w2 ⟨rfl, rfl⟩; exact ⟨rfl, _, rfl⟩))
      go_wp2_with fail
      go_ret
      exact ⟨by rw [HR.out]; rfl, HFV.out.dn _⟩
set_option maxRecDepth 100000 in
set_option maxHeartbeats 4000000 in
theorem opnd19 (h : WR w B x F bs pb cb rs pr cr el er) {inf : List Inf} (hb : BOk bs inf) (k : Nat) (sc : List Nat) (b e : Nat) (hk : inf[k]? = some (sc, b, e)) (hs1 : 1 ≤ sc.length) (hs25 : sc.length ≤ 25) (hl : bs.length ≤ 100000) (at_ sz nx to_ a b2 c : Int) (hr : -9223372036854775808 ≤ a ∧ a ≤ 9223372036854775807) : Calls Tryd.prog 56 #[.pointer (some ⟨x, 0, none⟩), .agg #[.int .i64 at_, .int .i64 sz, .int .i64 19, .int .i64 (k : Int), .int .i64 nx, .int .i64 to_, .int .i64 a, .int .i64 b2, .int .i64 c]] w fun e w' => e = .returned (.bool (fitP F.C.b F.C.lits sc 19 a b2 c)) ∧ Fr [] w w' := by
  have hxw := lt_of_heap h.top
  have c9 : w.cell? ⟨x, 9, none⟩ = some (.slice pb bs.length cb) := h.cell 9
  obtain ⟨u, hu, -, -, une, -, -, -⟩ := hb.at_ k sc b e hk
  obtain ⟨g, rfl, hkl, -, -, -, y3, -⟩ := h.body k u hu
  obtain ⟨V, hV⟩ : ∃ V, w.alloc (.cells #[.int .i64 at_, .int .i64 sz, .int .i64 19, .int .i64 (k : Int), .int .i64 nx, .int .i64 to_, .int .i64 a, .int .i64 b2, .int .i64 c] 78) = V := ⟨_, rfl⟩
  have FV : Fr [] w V := by rw [← hV]; exact Fr.alloc [] w _
  have GV := heap_alloc_new w (.cells #[.int .i64 at_, .int .i64 sz, .int .i64 19, .int .i64 (k : Int), .int .i64 nx, .int .i64 to_, .int .i64 a, .int .i64 b2, .int .i64 c] 78)
  rw [hV] at GV
  have l2 : V.cell? ⟨w.heap.size, 2, none⟩ = some (.int .i64 19) := cell_in GV 2
  have l3 : V.cell? ⟨w.heap.size, 3, none⟩ = some (.int .i64 (k : Int)) := cell_in GV 3
  have l6 : V.cell? ⟨w.heap.size, 6, none⟩ = some (.int .i64 a) := cell_in GV 6
  have l7 : V.cell? ⟨w.heap.size, 7, none⟩ = some (.int .i64 b2) := cell_in GV 7
  have l8 : V.cell? ⟨w.heap.size, 8, none⟩ = some (.int .i64 c) := cell_in GV 8
  have hr2 := h.idle FV
  have c3 : V.cell? ⟨x, 3, none⟩ = some (.slice F.lp F.C.lits F.lc) := hr2.cell 3
  have c5 : V.cell? ⟨x, 5, none⟩ = some (.int .i64 F.C.b.fields) := hr2.cell 5
  have c6 : V.cell? ⟨x, 6, none⟩ = some (.int .i64 F.C.b.classes) := hr2.cell 6
  have c7 : V.cell? ⟨x, 7, none⟩ = some (.int .i64 F.C.b.globals) := hr2.cell 7
  have c8 : V.cell? ⟨x, 8, none⟩ = some (.int .i64 F.C.b.symbols) := hr2.cell 8
  have HFV := mkHid FV
  replace c9 : V.cell? ⟨x, 9, none⟩ = some (.slice (some ⟨g, 0, none⟩) bs.length cb) := FV.cl c9
  replace y3 : V.cell? ⟨g, k * 5 + 3, none⟩ = some (.int .i64 (u.ne : Int)) := FV.cl y3
  have k0 : (0 : Int) ≤ (k : Int) := by omega
  have k1 : (k : Int) < (bs.length : Int) := by omega
  clear hl
  by_cases q6 : 0 ≤ a
  · skip
    by_cases q5 : a ≤ 8
    · skip
      by_cases q4 : a ≤ b2
      · skip
        by_cases q3 : b2 ≤ 32
        · skip
          by_cases q2 : 0 < c
          · skip
            by_cases q1 : (u.ne : Int) < 24
            · skip
              have HR : Hid (fitP F.C.b F.C.lits sc 19 a b2 c = true) := by show fitP _ _ _ _ _ _ _ = _; unfold fitP scopeB inR; simp; omega
              clear hb hk hu
              clear h hr2 GV FV
              go_enter Tryd.func56, Tryd.ntmps56
              go_wp2_with fail
              try rw [hV]
              clear hV
              go_quiet (fail)
              go_wp2_with fail
              go_ret
              exact ⟨by rw [HR.out]; rfl, HFV.out.dn _⟩
            · have d1 : decide ((u.ne : Int) < 24) = false := decide_eq_false q1
              have HR : Hid (fitP F.C.b F.C.lits sc 19 a b2 c = false) := by show fitP _ _ _ _ _ _ _ = _; unfold fitP scopeB inR; simp; omega
              clear hb hk hu
              clear h hr2 GV FV
              go_enter Tryd.func56, Tryd.ntmps56
              go_wp2_with fail
              try rw [hV]
              clear hV
              go_quiet (fail)
              go_wp2_with fail
              go_ret
              exact ⟨by rw [HR.out]; rfl, HFV.out.dn _⟩
          · have d2 : decide (0 < c) = false := decide_eq_false q2
            have HR : Hid (fitP F.C.b F.C.lits sc 19 a b2 c = false) := by show fitP _ _ _ _ _ _ _ = _; unfold fitP scopeB inR; simp; omega
            clear hb hk hu
            clear h hr2 GV FV
            go_enter Tryd.func56, Tryd.ntmps56
            go_wp2_with fail
            try rw [hV]
            clear hV
            go_quiet (fail)
            go_wp2_with fail
            go_ret
            exact ⟨by rw [HR.out]; rfl, HFV.out.dn _⟩
        · have d3 : decide (b2 ≤ 32) = false := decide_eq_false q3
          have HR : Hid (fitP F.C.b F.C.lits sc 19 a b2 c = false) := by show fitP _ _ _ _ _ _ _ = _; unfold fitP scopeB inR; simp; omega
          clear hb hk hu
          clear h hr2 GV FV
          go_enter Tryd.func56, Tryd.ntmps56
          go_wp2_with fail
          try rw [hV]
          clear hV
          go_quiet (fail)
          go_wp2_with fail
          go_ret
          exact ⟨by rw [HR.out]; rfl, HFV.out.dn _⟩
      · have d4 : decide (a ≤ b2) = false := decide_eq_false q4
        have HR : Hid (fitP F.C.b F.C.lits sc 19 a b2 c = false) := by show fitP _ _ _ _ _ _ _ = _; unfold fitP scopeB inR; simp; omega
        clear hb hk hu
        clear h hr2 GV FV
        go_enter Tryd.func56, Tryd.ntmps56
        go_wp2_with fail
        try rw [hV]
        clear hV
        go_quiet (fail)
        go_wp2_with fail
        go_ret
        exact ⟨by rw [HR.out]; rfl, HFV.out.dn _⟩
    · have d5 : decide (a ≤ 8) = false := decide_eq_false q5
      have HR : Hid (fitP F.C.b F.C.lits sc 19 a b2 c = false) := by show fitP _ _ _ _ _ _ _ = _; unfold fitP scopeB inR; simp; omega
      clear hb hk hu
      clear h hr2 GV FV
      go_enter Tryd.func56, Tryd.ntmps56
      go_wp2_with fail
      try rw [hV]
      clear hV
      go_quiet (fail)
      go_wp2_with fail
      go_ret
      exact ⟨by rw [HR.out]; rfl, HFV.out.dn _⟩
  · have d6 : decide (0 ≤ a) = false := decide_eq_false q6
    have HR : Hid (fitP F.C.b F.C.lits sc 19 a b2 c = false) := by show fitP _ _ _ _ _ _ _ = _; unfold fitP scopeB inR; simp; omega
    clear hb hk hu
    clear h hr2 GV FV
    go_enter Tryd.func56, Tryd.ntmps56
    go_wp2_with fail
    try rw [hV]
    clear hV
    go_quiet (fail)
    go_wp2_with fail
    go_ret
    exact ⟨by rw [HR.out]; rfl, HFV.out.dn _⟩
theorem operands_ok (h : WR w B x F bs pb cb rs pr cr el er) {inf : List Inf} (hb : BOk bs inf) (k : Nat) (sc : List Nat) (b e : Nat) (hk : inf[k]? = some (sc, b, e)) (hs1 : 1 ≤ sc.length) (hs25 : sc.length ≤ 25) (hl : bs.length ≤ 100000) (op : Nat) (o1 : 1 ≤ op) (o2 : op ≤ 28) (at_ sz nx to_ a b2 c : Int) (hr : -9223372036854775808 ≤ a ∧ a ≤ 9223372036854775807) : Calls Tryd.prog 56 #[.pointer (some ⟨x, 0, none⟩), .agg #[.int .i64 at_, .int .i64 sz, .int .i64 (op : Int), .int .i64 (k : Int), .int .i64 nx, .int .i64 to_, .int .i64 a, .int .i64 b2, .int .i64 c]] w fun e w' => e = .returned (.bool (fitP F.C.b F.C.lits sc op a b2 c)) ∧ Fr [] w w' := by
  rcases (show op = 1 ∨ op = 2 ∨ op = 3 ∨ op = 4 ∨ op = 5 ∨ op = 6 ∨ op = 7 ∨ op = 8 ∨ op = 9 ∨ op = 10 ∨ op = 11 ∨ op = 12 ∨ op = 13 ∨ op = 14 ∨ op = 15 ∨ op = 16 ∨ op = 17 ∨ op = 18 ∨ op = 19 ∨ op = 20 ∨ op = 21 ∨ op = 22 ∨ op = 23 ∨ op = 24 ∨ op = 25 ∨ op = 26 ∨ op = 27 ∨ op = 28 by omega) with rfl | rfl | rfl | rfl | rfl | rfl | rfl | rfl | rfl | rfl | rfl | rfl | rfl | rfl | rfl | rfl | rfl | rfl | rfl | rfl | rfl | rfl | rfl | rfl | rfl | rfl | rfl | rfl
  · exact opnd1 h hb k sc b e hk hs1 hs25 hl at_ sz nx to_ a b2 c hr
  · exact opnd2 h hb k sc b e hk hs1 hs25 hl at_ sz nx to_ a b2 c hr
  · exact opnd3 h hb k sc b e hk hs1 hs25 hl at_ sz nx to_ a b2 c hr
  · exact opnd4 h hb k sc b e hk hs1 hs25 hl at_ sz nx to_ a b2 c hr
  · exact opnd5 h hb k sc b e hk hs1 hs25 hl at_ sz nx to_ a b2 c hr
  · exact opnd6 h hb k sc b e hk hs1 hs25 hl at_ sz nx to_ a b2 c hr
  · exact opnd7 h hb k sc b e hk hs1 hs25 hl at_ sz nx to_ a b2 c hr
  · exact opnd8 h hb k sc b e hk hs1 hs25 hl at_ sz nx to_ a b2 c hr
  · exact opnd9 h hb k sc b e hk hs1 hs25 hl at_ sz nx to_ a b2 c hr
  · exact opnd10 h hb k sc b e hk hs1 hs25 hl at_ sz nx to_ a b2 c hr
  · exact opnd11 h hb k sc b e hk hs1 hs25 hl at_ sz nx to_ a b2 c hr
  · exact opnd12 h hb k sc b e hk hs1 hs25 hl at_ sz nx to_ a b2 c hr
  · exact opnd13 h hb k sc b e hk hs1 hs25 hl at_ sz nx to_ a b2 c hr
  · exact opnd14 h hb k sc b e hk hs1 hs25 hl at_ sz nx to_ a b2 c hr
  · exact opnd15 h hb k sc b e hk hs1 hs25 hl at_ sz nx to_ a b2 c hr
  · exact opnd16 h hb k sc b e hk hs1 hs25 hl at_ sz nx to_ a b2 c hr
  · exact opnd17 h hb k sc b e hk hs1 hs25 hl at_ sz nx to_ a b2 c hr
  · exact opnd18 h hb k sc b e hk hs1 hs25 hl at_ sz nx to_ a b2 c hr
  · exact opnd19 h hb k sc b e hk hs1 hs25 hl at_ sz nx to_ a b2 c hr
  · exact opnd20 h hb k sc b e hk hs1 hs25 hl at_ sz nx to_ a b2 c hr
  · exact opnd21 h hb k sc b e hk hs1 hs25 hl at_ sz nx to_ a b2 c hr
  · exact opnd22 h hb k sc b e hk hs1 hs25 hl at_ sz nx to_ a b2 c hr
  · exact opnd23 h hb k sc b e hk hs1 hs25 hl at_ sz nx to_ a b2 c hr
  · exact opnd24 h hb k sc b e hk hs1 hs25 hl at_ sz nx to_ a b2 c hr
  · exact opnd25 h hb k sc b e hk hs1 hs25 hl at_ sz nx to_ a b2 c hr
  · exact opnd26 h hb k sc b e hk hs1 hs25 hl at_ sz nx to_ a b2 c hr
  · exact opnd27 h hb k sc b e hk hs1 hs25 hl at_ sz nx to_ a b2 c hr
  · exact opnd28 h hb k sc b e hk hs1 hs25 hl at_ sz nx to_ a b2 c hr
end
end Go.Proofs.YtdflpoldlokijaaDoor
