import Derived.Test.YtklfnjlenbgmoaaDoorPG07HGet
set_option linter.unusedVariables false
namespace Go.Proofs.YtklfnjlenbgmoaaDoor
open Go.RowKit
attribute [local go_sem ↓] Go.wp_at_zero Go.wp_at_succ
def putB (m r v : Nat) : Nat := m / 2 ^ (8 * r + 8) * 2 ^ (8 * r + 8) + v * 2 ^ (8 * r) + m % 2 ^ (8 * r)
def getB (m r : Nat) : Nat := m / 2 ^ (8 * r) % 256
theorem mask_bit (s i : Nat) : (255 * 2 ^ s).testBit i = (decide (s ≤ i) && decide (i - s < 8)) := by
 rw [Nat.testBit_mul_two_pow, show (255 : Nat) = 2 ^ 8 - 1 from rfl, Nat.testBit_two_pow_sub_one]
theorem put_gen (m v s : Nat) (hm : m < 2 ^ 32) (hv : v < 2 ^ 8) (hs : s ≤ 24) : (m &&& (18446744073709551615 - 255 * 2 ^ s)) ||| (v * 2 ^ s) = m / 2 ^ (s + 8) * 2 ^ (s + 8) + v * 2 ^ s + m % 2 ^ s := by
 have hp : 2 ^ s ≤ 2 ^ 24 := Nat.pow_le_pow_right (by omega) hs
 have hp0 : 0 < 2 ^ s := Nat.pow_pos (by omega)
 have hmod : m % 2 ^ s < 2 ^ s := Nat.mod_lt _ hp0
 have e1 : v * 2 ^ s + m % 2 ^ s = v <<< s ||| m % 2 ^ s := by
  rw [← Nat.shiftLeft_add_eq_or_of_lt hmod, Nat.shiftLeft_eq]
 have hlt : v * 2 ^ s + m % 2 ^ s < 2 ^ (s + 8) := by
  rw [Nat.pow_add]
  have : v * 2 ^ s ≤ 255 * 2 ^ s := Nat.mul_le_mul_right _ (by omega)
  omega
 have e2 : m / 2 ^ (s + 8) * 2 ^ (s + 8) + (v * 2 ^ s + m % 2 ^ s) = (m / 2 ^ (s + 8)) <<< (s + 8) ||| (v * 2 ^ s + m % 2 ^ s) := by
  rw [← Nat.shiftLeft_add_eq_or_of_lt hlt, Nat.shiftLeft_eq]
 rw [Nat.add_assoc, e2, e1]
 apply Nat.eq_of_testBit_eq
 intro i
 have hv8 : ∀ k, 8 ≤ k → v.testBit k = false := fun k hk => Nat.testBit_lt_two_pow (Nat.lt_of_lt_of_le hv (Nat.pow_le_pow_right (by omega) hk))
 have hm32 : ∀ k, 32 ≤ k → m.testBit k = false := fun k hk => Nat.testBit_lt_two_pow (Nat.lt_of_lt_of_le hm (Nat.pow_le_pow_right (by omega) hk))
 have hmk : 255 * 2 ^ s < 2 ^ 64 := by omega
 rw [Nat.testBit_or, Nat.testBit_and, show 18446744073709551615 - 255 * 2 ^ s = 2 ^ 64 - (255 * 2 ^ s + 1) from by omega, Nat.testBit_two_pow_sub_succ hmk, mask_bit, Nat.testBit_mul_two_pow,
  Nat.testBit_or, Nat.testBit_or, Nat.testBit_shiftLeft, Nat.testBit_shiftLeft, Nat.testBit_div_two_pow, Nat.testBit_mod_two_pow]
 by_cases h1 : s + 8 ≤ i
 ·have a1 : s ≤ i := by omega
  have a2 : ¬ i - s < 8 := by omega
  have a3 : ¬ i < s := by omega
  rw [show i - (s + 8) + (s + 8) = i from by omega, hv8 (i - s) (by omega)]
  by_cases h64 : i < 64
  ·simp [a1, a2, a3, h1, h64]
  ·simp [hm32 i (by omega)]
 ·by_cases h2 : s ≤ i
  ·have a2 : i - s < 8 := by omega
   have a3 : ¬ i < s := by omega
   simp [h1, h2, a2, a3]
  ·have a3 : i < s := by omega
   have a4 : i < 64 := by omega
   simp [h1, h2, a3, a4]
theorem put_int (m v r : Nat) (hm : m < 4294967296) (hv : v < 256) (hr : r ≤ 3) (M P : Int) (hM : M = ((255 * 2 ^ (8 * r) : Nat) : Int)) (hP : P = ((v * 2 ^ (8 * r) : Nat) : Int)) :
  Go.bits .or .i64 (Go.bits .andNot .i64 (m : Int) M) P = ((putB m r v : Nat) : Int) := by
 have hp : 2 ^ (8 * r) ≤ 2 ^ 24 := Nat.pow_le_pow_right (by omega) (by omega)
 have hle : m &&& (18446744073709551615 - 255 * 2 ^ (8 * r)) ≤ m := Nat.and_le_left
 have hvp : v * 2 ^ (8 * r) ≤ 255 * 2 ^ 24 := Nat.mul_le_mul (by omega) hp
 rw [hM, hP, andNot_i64 m _ (by omega) (by omega), or_i64 _ _ (by omega) (by omega), put_gen m v (8 * r) (by omega) (by omega) (by omega)]
 rfl
set_option maxRecDepth 20000 in
set_option maxHeartbeats 1000000 in
theorem setB0 (s : Nat × Nat × Nat) (i : Nat) (v : Nat) (old : Nat) (a : Nat) (l : Lay) (H : HS) (w : World) (h : Rep w a l H) (h1 : s.1 + 2 + i / 4 < H.mem.length) (hb : (H.mem.length : Int) ≤ 1048576) (hr : i % 4 = 0) (hold : H.mem.getD (s.1 + 2 + i / 4) 0 = (old : Int)) (hi : (i : Int) ≤ 1048576) (hv : (v : Int) ≤ 255) (ho : (old : Int) ≤ 4294967295) :
  Calls Tryd.prog 73 #[.pointer (some ⟨a, 0, none⟩), sv s, .int .i64 1, .int .i64 i, .int .i64 v] w fun e w' => e = .returned (.tuple #[]) ∧ Rep w' a l { H with mem := H.mem.set (s.1 + 2 + i / 4) ((putB old 0 v : Nat) : Int) } ∧ Nx a l l w w' := by
 obtain ⟨g, hg, hcg, hfg, hga, hgl⟩ := h.memBlock (by omega)
 have q := hcg (s.1 + 2 + i / 4) h1
 have fq := hfg (s.1 + 2 + i / 4)
 rw [hold] at q
 have c4 := h.c4
 rw [hg] at c4
 have hal := h.lt a (by simp [foot])
 obtain ⟨p0, L, t⟩ := s
 dsimp only at *
 have hba : ∀ W : World, Calls Tryd.prog 107 #[.agg #[.int .i64 (p0 : Int), .int .i64 (L : Int), .int .i64 (t : Int)], .int .i64 i] W fun e w' => e = .returned (.tuple #[.int .i64 ((p0 + 2 + i / 4 : Nat) : Int), .int .i64 0]) ∧ Fr [] W w' := by
  intro W
  have := byteAt_any (p0, L, t) i W (by dsimp only; omega) hi
  rw [hr] at this
  exact this
 have HB := mkHid hba
 have hor : Go.bits .or .i64 (Go.bits .andNot .i64 (old : Int) 255) (v : Int) = ((putB old 0 v : Nat) : Int) := put_int old v 0 (by omega) (by omega) (by omega) _ _ rfl (by simp)
 have HE : Hid (∀ W W', Fr [] w W → Eqw (W.setCell ⟨g, p0 + 2 + i / 4, none⟩ (.int .i64 ((putB old 0 v : Nat) : Int))) W' → Rep W' a l { H with mem := H.mem.set (p0 + 2 + i / 4) ((putB old 0 v : Nat) : Int) } ∧ Nx a l l w W') := by
  intro W W' hW he
  have K := (h.keep hW (by simp)).setMem hg (p0 + 2 + i / 4) h1 _ W' he
  exact ⟨K.1, (Nx.frw (hW.mono (by simp))).trans K.2⟩
 have k1 : ((p0 + 2 + i / 4 : Nat) : Int) < (H.mem.length : Int) := by omega
 have k2 : (0 : Int) ≤ ((p0 + 2 + i / 4 : Nat) : Int) := by omega
 clear h hcg hfg hba hold
 unfold sv
 dsimp only [I]
 generalize putB old 0 v = pv at *
 generalize hp : p0 + 2 + i / 4 = p at *
 clear hp
 generalize hm : H.mem.length = m at *
 clear hm
 go_enter Tryd.func73, Tryd.ntmps73
 go_wp2_with fail
 refine (HB.out _).mono ?_
 rintro e w1 ⟨rfl, hf1⟩
 have d4 := (hf1.cell (p := ⟨a, 4, none⟩) (by simp; omega) (by simp)).trans ((World.cell?_alloc_lt w _ ⟨a, 4, none⟩ hal).trans c4)
 have dq := (hf1.cell (p := ⟨g, p, none⟩) (by simp; omega) (by simp)).trans ((World.cell?_alloc_lt w _ ⟨g, p, none⟩ hgl).trans q)
 have df := (hf1.frozen (p := ⟨g, p, none⟩) (by simp; omega) (by simp)).trans ((World.frozen?_alloc_old w _ ⟨g, p, none⟩ (by show g ≠ _; omega)).trans fq)
 have HF1 := mkHid ((Fr.alloc [] w _).trans hf1 (by simp))
 clear hf1 HB
 go_wp2
 go_region
 all_goals go_wp2
 all_goals
  go_end0
  exact ⟨rfl, HE.out _ _ HF1.out (eqw_drew _)⟩
set_option maxRecDepth 20000 in
set_option maxHeartbeats 1000000 in
theorem setB1 (s : Nat × Nat × Nat) (i : Nat) (v : Nat) (old : Nat) (a : Nat) (l : Lay) (H : HS) (w : World) (h : Rep w a l H) (h1 : s.1 + 2 + i / 4 < H.mem.length) (hb : (H.mem.length : Int) ≤ 1048576) (hr : i % 4 = 1) (hold : H.mem.getD (s.1 + 2 + i / 4) 0 = (old : Int)) (hi : (i : Int) ≤ 1048576) (hv : (v : Int) ≤ 255) (ho : (old : Int) ≤ 4294967295) :
  Calls Tryd.prog 73 #[.pointer (some ⟨a, 0, none⟩), sv s, .int .i64 1, .int .i64 i, .int .i64 v] w fun e w' => e = .returned (.tuple #[]) ∧ Rep w' a l { H with mem := H.mem.set (s.1 + 2 + i / 4) ((putB old 1 v : Nat) : Int) } ∧ Nx a l l w w' := by
 obtain ⟨g, hg, hcg, hfg, hga, hgl⟩ := h.memBlock (by omega)
 have q := hcg (s.1 + 2 + i / 4) h1
 have fq := hfg (s.1 + 2 + i / 4)
 rw [hold] at q
 have c4 := h.c4
 rw [hg] at c4
 have hal := h.lt a (by simp [foot])
 obtain ⟨p0, L, t⟩ := s
 dsimp only at *
 have hba : ∀ W : World, Calls Tryd.prog 107 #[.agg #[.int .i64 (p0 : Int), .int .i64 (L : Int), .int .i64 (t : Int)], .int .i64 i] W fun e w' => e = .returned (.tuple #[.int .i64 ((p0 + 2 + i / 4 : Nat) : Int), .int .i64 8]) ∧ Fr [] W w' := by
  intro W
  have := byteAt_any (p0, L, t) i W (by dsimp only; omega) hi
  rw [hr] at this
  exact this
 have HB := mkHid hba
 have hor : Go.bits .or .i64 (Go.bits .andNot .i64 (old : Int) 65280) ((v : Int) * 256) = ((putB old 1 v : Nat) : Int) := put_int old v 1 (by omega) (by omega) (by omega) _ _ rfl (by simp)
 have HE : Hid (∀ W W', Fr [] w W → Eqw (W.setCell ⟨g, p0 + 2 + i / 4, none⟩ (.int .i64 ((putB old 1 v : Nat) : Int))) W' → Rep W' a l { H with mem := H.mem.set (p0 + 2 + i / 4) ((putB old 1 v : Nat) : Int) } ∧ Nx a l l w W') := by
  intro W W' hW he
  have K := (h.keep hW (by simp)).setMem hg (p0 + 2 + i / 4) h1 _ W' he
  exact ⟨K.1, (Nx.frw (hW.mono (by simp))).trans K.2⟩
 have k1 : ((p0 + 2 + i / 4 : Nat) : Int) < (H.mem.length : Int) := by omega
 have k2 : (0 : Int) ≤ ((p0 + 2 + i / 4 : Nat) : Int) := by omega
 clear h hcg hfg hba hold
 unfold sv
 dsimp only [I]
 generalize putB old 1 v = pv at *
 generalize hp : p0 + 2 + i / 4 = p at *
 clear hp
 generalize hm : H.mem.length = m at *
 clear hm
 go_enter Tryd.func73, Tryd.ntmps73
 go_wp2_with fail
 refine (HB.out _).mono ?_
 rintro e w1 ⟨rfl, hf1⟩
 have d4 := (hf1.cell (p := ⟨a, 4, none⟩) (by simp; omega) (by simp)).trans ((World.cell?_alloc_lt w _ ⟨a, 4, none⟩ hal).trans c4)
 have dq := (hf1.cell (p := ⟨g, p, none⟩) (by simp; omega) (by simp)).trans ((World.cell?_alloc_lt w _ ⟨g, p, none⟩ hgl).trans q)
 have df := (hf1.frozen (p := ⟨g, p, none⟩) (by simp; omega) (by simp)).trans ((World.frozen?_alloc_old w _ ⟨g, p, none⟩ (by show g ≠ _; omega)).trans fq)
 have HF1 := mkHid ((Fr.alloc [] w _).trans hf1 (by simp))
 clear hf1 HB
 go_wp2
 go_region
 all_goals go_wp2
 all_goals
  go_end0
  exact ⟨rfl, HE.out _ _ HF1.out (eqw_drew _)⟩
set_option maxRecDepth 20000 in
set_option maxHeartbeats 1000000 in
theorem setB2 (s : Nat × Nat × Nat) (i : Nat) (v : Nat) (old : Nat) (a : Nat) (l : Lay) (H : HS) (w : World) (h : Rep w a l H) (h1 : s.1 + 2 + i / 4 < H.mem.length) (hb : (H.mem.length : Int) ≤ 1048576) (hr : i % 4 = 2) (hold : H.mem.getD (s.1 + 2 + i / 4) 0 = (old : Int)) (hi : (i : Int) ≤ 1048576) (hv : (v : Int) ≤ 255) (ho : (old : Int) ≤ 4294967295) :
  Calls Tryd.prog 73 #[.pointer (some ⟨a, 0, none⟩), sv s, .int .i64 1, .int .i64 i, .int .i64 v] w fun e w' => e = .returned (.tuple #[]) ∧ Rep w' a l { H with mem := H.mem.set (s.1 + 2 + i / 4) ((putB old 2 v : Nat) : Int) } ∧ Nx a l l w w' := by
 obtain ⟨g, hg, hcg, hfg, hga, hgl⟩ := h.memBlock (by omega)
 have q := hcg (s.1 + 2 + i / 4) h1
 have fq := hfg (s.1 + 2 + i / 4)
 rw [hold] at q
 have c4 := h.c4
 rw [hg] at c4
 have hal := h.lt a (by simp [foot])
 obtain ⟨p0, L, t⟩ := s
 dsimp only at *
 have hba : ∀ W : World, Calls Tryd.prog 107 #[.agg #[.int .i64 (p0 : Int), .int .i64 (L : Int), .int .i64 (t : Int)], .int .i64 i] W fun e w' => e = .returned (.tuple #[.int .i64 ((p0 + 2 + i / 4 : Nat) : Int), .int .i64 16]) ∧ Fr [] W w' := by
  intro W
  have := byteAt_any (p0, L, t) i W (by dsimp only; omega) hi
  rw [hr] at this
  exact this
 have HB := mkHid hba
 have hor : Go.bits .or .i64 (Go.bits .andNot .i64 (old : Int) 16711680) ((v : Int) * 65536) = ((putB old 2 v : Nat) : Int) := put_int old v 2 (by omega) (by omega) (by omega) _ _ rfl (by simp)
 have HE : Hid (∀ W W', Fr [] w W → Eqw (W.setCell ⟨g, p0 + 2 + i / 4, none⟩ (.int .i64 ((putB old 2 v : Nat) : Int))) W' → Rep W' a l { H with mem := H.mem.set (p0 + 2 + i / 4) ((putB old 2 v : Nat) : Int) } ∧ Nx a l l w W') := by
  intro W W' hW he
  have K := (h.keep hW (by simp)).setMem hg (p0 + 2 + i / 4) h1 _ W' he
  exact ⟨K.1, (Nx.frw (hW.mono (by simp))).trans K.2⟩
 have k1 : ((p0 + 2 + i / 4 : Nat) : Int) < (H.mem.length : Int) := by omega
 have k2 : (0 : Int) ≤ ((p0 + 2 + i / 4 : Nat) : Int) := by omega
 clear h hcg hfg hba hold
 unfold sv
 dsimp only [I]
 generalize putB old 2 v = pv at *
 generalize hp : p0 + 2 + i / 4 = p at *
 clear hp
 generalize hm : H.mem.length = m at *
 clear hm
 go_enter Tryd.func73, Tryd.ntmps73
 go_wp2_with fail
 refine (HB.out _).mono ?_
 rintro e w1 ⟨rfl, hf1⟩
 have d4 := (hf1.cell (p := ⟨a, 4, none⟩) (by simp; omega) (by simp)).trans ((World.cell?_alloc_lt w _ ⟨a, 4, none⟩ hal).trans c4)
 have dq := (hf1.cell (p := ⟨g, p, none⟩) (by simp; omega) (by simp)).trans ((World.cell?_alloc_lt w _ ⟨g, p, none⟩ hgl).trans q)
 have df := (hf1.frozen (p := ⟨g, p, none⟩) (by simp; omega) (by simp)).trans ((World.frozen?_alloc_old w _ ⟨g, p, none⟩ (by show g ≠ _; omega)).trans fq)
 have HF1 := mkHid ((Fr.alloc [] w _).trans hf1 (by simp))
 clear hf1 HB
 go_wp2
 go_region
 all_goals go_wp2
 all_goals
  go_end0
  exact ⟨rfl, HE.out _ _ HF1.out (eqw_drew _)⟩
set_option maxRecDepth 20000 in
set_option maxHeartbeats 1000000 in
theorem setB3 (s : Nat × Nat × Nat) (i : Nat) (v : Nat) (old : Nat) (a : Nat) (l : Lay) (H : HS) (w : World) (h : Rep w a l H) (h1 : s.1 + 2 + i / 4 < H.mem.length) (hb : (H.mem.length : Int) ≤ 1048576) (hr : i % 4 = 3) (hold : H.mem.getD (s.1 + 2 + i / 4) 0 = (old : Int)) (hi : (i : Int) ≤ 1048576) (hv : (v : Int) ≤ 255) (ho : (old : Int) ≤ 4294967295) :
  Calls Tryd.prog 73 #[.pointer (some ⟨a, 0, none⟩), sv s, .int .i64 1, .int .i64 i, .int .i64 v] w fun e w' => e = .returned (.tuple #[]) ∧ Rep w' a l { H with mem := H.mem.set (s.1 + 2 + i / 4) ((putB old 3 v : Nat) : Int) } ∧ Nx a l l w w' := by
 obtain ⟨g, hg, hcg, hfg, hga, hgl⟩ := h.memBlock (by omega)
 have q := hcg (s.1 + 2 + i / 4) h1
 have fq := hfg (s.1 + 2 + i / 4)
 rw [hold] at q
 have c4 := h.c4
 rw [hg] at c4
 have hal := h.lt a (by simp [foot])
 obtain ⟨p0, L, t⟩ := s
 dsimp only at *
 have hba : ∀ W : World, Calls Tryd.prog 107 #[.agg #[.int .i64 (p0 : Int), .int .i64 (L : Int), .int .i64 (t : Int)], .int .i64 i] W fun e w' => e = .returned (.tuple #[.int .i64 ((p0 + 2 + i / 4 : Nat) : Int), .int .i64 24]) ∧ Fr [] W w' := by
  intro W
  have := byteAt_any (p0, L, t) i W (by dsimp only; omega) hi
  rw [hr] at this
  exact this
 have HB := mkHid hba
 have hor : Go.bits .or .i64 (Go.bits .andNot .i64 (old : Int) 4278190080) ((v : Int) * 16777216) = ((putB old 3 v : Nat) : Int) := put_int old v 3 (by omega) (by omega) (by omega) _ _ rfl (by simp)
 have HE : Hid (∀ W W', Fr [] w W → Eqw (W.setCell ⟨g, p0 + 2 + i / 4, none⟩ (.int .i64 ((putB old 3 v : Nat) : Int))) W' → Rep W' a l { H with mem := H.mem.set (p0 + 2 + i / 4) ((putB old 3 v : Nat) : Int) } ∧ Nx a l l w W') := by
  intro W W' hW he
  have K := (h.keep hW (by simp)).setMem hg (p0 + 2 + i / 4) h1 _ W' he
  exact ⟨K.1, (Nx.frw (hW.mono (by simp))).trans K.2⟩
 have k1 : ((p0 + 2 + i / 4 : Nat) : Int) < (H.mem.length : Int) := by omega
 have k2 : (0 : Int) ≤ ((p0 + 2 + i / 4 : Nat) : Int) := by omega
 clear h hcg hfg hba hold
 unfold sv
 dsimp only [I]
 generalize putB old 3 v = pv at *
 generalize hp : p0 + 2 + i / 4 = p at *
 clear hp
 generalize hm : H.mem.length = m at *
 clear hm
 go_enter Tryd.func73, Tryd.ntmps73
 go_wp2_with fail
 refine (HB.out _).mono ?_
 rintro e w1 ⟨rfl, hf1⟩
 have d4 := (hf1.cell (p := ⟨a, 4, none⟩) (by simp; omega) (by simp)).trans ((World.cell?_alloc_lt w _ ⟨a, 4, none⟩ hal).trans c4)
 have dq := (hf1.cell (p := ⟨g, p, none⟩) (by simp; omega) (by simp)).trans ((World.cell?_alloc_lt w _ ⟨g, p, none⟩ hgl).trans q)
 have df := (hf1.frozen (p := ⟨g, p, none⟩) (by simp; omega) (by simp)).trans ((World.frozen?_alloc_old w _ ⟨g, p, none⟩ (by show g ≠ _; omega)).trans fq)
 have HF1 := mkHid ((Fr.alloc [] w _).trans hf1 (by simp))
 clear hf1 HB
 go_wp2
 go_region
 all_goals go_wp2
 all_goals
  go_end0
  exact ⟨rfl, HE.out _ _ HF1.out (eqw_drew _)⟩
set_option maxRecDepth 20000 in
set_option maxHeartbeats 1000000 in
theorem getB0 (s : Nat × Nat × Nat) (i : Nat) (old : Nat) (a : Nat) (l : Lay) (H : HS) (w : World) (h : Rep w a l H) (h1 : s.1 + 2 + i / 4 < H.mem.length) (hb : (H.mem.length : Int) ≤ 1048576) (hr : i % 4 = 0) (hold : H.mem.getD (s.1 + 2 + i / 4) 0 = (old : Int)) (hi : (i : Int) ≤ 1048576) :
  Calls Tryd.prog 98 #[.pointer (some ⟨a, 0, none⟩), sv s, .int .i64 1, .int .i64 i] w fun e w' => e = .returned (.int .i64 ((getB old 0 : Nat) : Int)) ∧ Fr [] w w' := by
 obtain ⟨g, hg, hcg, hfg, hga, hgl⟩ := h.memBlock (by omega)
 have q := hcg (s.1 + 2 + i / 4) h1
 rw [hold] at q
 have c4 := h.c4
 rw [hg] at c4
 have hal := h.lt a (by simp [foot])
 obtain ⟨p0, L, t⟩ := s
 dsimp only at *
 have hba : ∀ W : World, Calls Tryd.prog 107 #[.agg #[.int .i64 (p0 : Int), .int .i64 (L : Int), .int .i64 (t : Int)], .int .i64 i] W fun e w' => e = .returned (.tuple #[.int .i64 ((p0 + 2 + i / 4 : Nat) : Int), .int .i64 0]) ∧ Fr [] W w' := by
  intro W
  have := byteAt_any (p0, L, t) i W (by dsimp only; omega) hi
  rw [hr] at this
  exact this
 have HB := mkHid hba
 have ha := and255 (old : Int)
 have k1 : ((p0 + 2 + i / 4 : Nat) : Int) < (H.mem.length : Int) := by omega
 have k2 : (0 : Int) ≤ ((p0 + 2 + i / 4 : Nat) : Int) := by omega
 clear h hcg hfg hba hold
 unfold sv
 dsimp only [I]
 generalize hp : p0 + 2 + i / 4 = p at *
 clear hp
 generalize hm : H.mem.length = m at *
 clear hm
 go_enter Tryd.func98, Tryd.ntmps98
 go_wp2_with fail
 refine (HB.out _).mono ?_
 rintro e w1 ⟨rfl, hf1⟩
 have d4 := (hf1.cell (p := ⟨a, 4, none⟩) (by simp; omega) (by simp)).trans ((World.cell?_alloc_lt w _ ⟨a, 4, none⟩ hal).trans c4)
 have dq := (hf1.cell (p := ⟨g, p, none⟩) (by simp; omega) (by simp)).trans ((World.cell?_alloc_lt w _ ⟨g, p, none⟩ hgl).trans q)
 have HF1 := mkHid ((Fr.alloc [] w _).trans hf1 (by simp))
 clear hf1 HB
 go_wp2
 go_ret
 exact ⟨ret_int (by unfold getB; omega), HF1.out⟩
set_option maxRecDepth 20000 in
set_option maxHeartbeats 1000000 in
theorem getB1 (s : Nat × Nat × Nat) (i : Nat) (old : Nat) (a : Nat) (l : Lay) (H : HS) (w : World) (h : Rep w a l H) (h1 : s.1 + 2 + i / 4 < H.mem.length) (hb : (H.mem.length : Int) ≤ 1048576) (hr : i % 4 = 1) (hold : H.mem.getD (s.1 + 2 + i / 4) 0 = (old : Int)) (hi : (i : Int) ≤ 1048576) :
  Calls Tryd.prog 98 #[.pointer (some ⟨a, 0, none⟩), sv s, .int .i64 1, .int .i64 i] w fun e w' => e = .returned (.int .i64 ((getB old 1 : Nat) : Int)) ∧ Fr [] w w' := by
 obtain ⟨g, hg, hcg, hfg, hga, hgl⟩ := h.memBlock (by omega)
 have q := hcg (s.1 + 2 + i / 4) h1
 rw [hold] at q
 have c4 := h.c4
 rw [hg] at c4
 have hal := h.lt a (by simp [foot])
 obtain ⟨p0, L, t⟩ := s
 dsimp only at *
 have hba : ∀ W : World, Calls Tryd.prog 107 #[.agg #[.int .i64 (p0 : Int), .int .i64 (L : Int), .int .i64 (t : Int)], .int .i64 i] W fun e w' => e = .returned (.tuple #[.int .i64 ((p0 + 2 + i / 4 : Nat) : Int), .int .i64 8]) ∧ Fr [] W w' := by
  intro W
  have := byteAt_any (p0, L, t) i W (by dsimp only; omega) hi
  rw [hr] at this
  exact this
 have HB := mkHid hba
 have ha := and255 ((old : Int) / 256)
 have k1 : ((p0 + 2 + i / 4 : Nat) : Int) < (H.mem.length : Int) := by omega
 have k2 : (0 : Int) ≤ ((p0 + 2 + i / 4 : Nat) : Int) := by omega
 clear h hcg hfg hba hold
 unfold sv
 dsimp only [I]
 generalize hp : p0 + 2 + i / 4 = p at *
 clear hp
 generalize hm : H.mem.length = m at *
 clear hm
 go_enter Tryd.func98, Tryd.ntmps98
 go_wp2_with fail
 refine (HB.out _).mono ?_
 rintro e w1 ⟨rfl, hf1⟩
 have d4 := (hf1.cell (p := ⟨a, 4, none⟩) (by simp; omega) (by simp)).trans ((World.cell?_alloc_lt w _ ⟨a, 4, none⟩ hal).trans c4)
 have dq := (hf1.cell (p := ⟨g, p, none⟩) (by simp; omega) (by simp)).trans ((World.cell?_alloc_lt w _ ⟨g, p, none⟩ hgl).trans q)
 have HF1 := mkHid ((Fr.alloc [] w _).trans hf1 (by simp))
 clear hf1 HB
 go_wp2
 go_ret
 exact ⟨ret_int (by unfold getB; omega), HF1.out⟩
set_option maxRecDepth 20000 in
set_option maxHeartbeats 1000000 in
theorem getB2 (s : Nat × Nat × Nat) (i : Nat) (old : Nat) (a : Nat) (l : Lay) (H : HS) (w : World) (h : Rep w a l H) (h1 : s.1 + 2 + i / 4 < H.mem.length) (hb : (H.mem.length : Int) ≤ 1048576) (hr : i % 4 = 2) (hold : H.mem.getD (s.1 + 2 + i / 4) 0 = (old : Int)) (hi : (i : Int) ≤ 1048576) :
  Calls Tryd.prog 98 #[.pointer (some ⟨a, 0, none⟩), sv s, .int .i64 1, .int .i64 i] w fun e w' => e = .returned (.int .i64 ((getB old 2 : Nat) : Int)) ∧ Fr [] w w' := by
 obtain ⟨g, hg, hcg, hfg, hga, hgl⟩ := h.memBlock (by omega)
 have q := hcg (s.1 + 2 + i / 4) h1
 rw [hold] at q
 have c4 := h.c4
 rw [hg] at c4
 have hal := h.lt a (by simp [foot])
 obtain ⟨p0, L, t⟩ := s
 dsimp only at *
 have hba : ∀ W : World, Calls Tryd.prog 107 #[.agg #[.int .i64 (p0 : Int), .int .i64 (L : Int), .int .i64 (t : Int)], .int .i64 i] W fun e w' => e = .returned (.tuple #[.int .i64 ((p0 + 2 + i / 4 : Nat) : Int), .int .i64 16]) ∧ Fr [] W w' := by
  intro W
  have := byteAt_any (p0, L, t) i W (by dsimp only; omega) hi
  rw [hr] at this
  exact this
 have HB := mkHid hba
 have ha := and255 ((old : Int) / 65536)
 have k1 : ((p0 + 2 + i / 4 : Nat) : Int) < (H.mem.length : Int) := by omega
 have k2 : (0 : Int) ≤ ((p0 + 2 + i / 4 : Nat) : Int) := by omega
 clear h hcg hfg hba hold
 unfold sv
 dsimp only [I]
 generalize hp : p0 + 2 + i / 4 = p at *
 clear hp
 generalize hm : H.mem.length = m at *
 clear hm
 go_enter Tryd.func98, Tryd.ntmps98
 go_wp2_with fail
 refine (HB.out _).mono ?_
 rintro e w1 ⟨rfl, hf1⟩
 have d4 := (hf1.cell (p := ⟨a, 4, none⟩) (by simp; omega) (by simp)).trans ((World.cell?_alloc_lt w _ ⟨a, 4, none⟩ hal).trans c4)
 have dq := (hf1.cell (p := ⟨g, p, none⟩) (by simp; omega) (by simp)).trans ((World.cell?_alloc_lt w _ ⟨g, p, none⟩ hgl).trans q)
 have HF1 := mkHid ((Fr.alloc [] w _).trans hf1 (by simp))
 clear hf1 HB
 go_wp2
 go_ret
 exact ⟨ret_int (by unfold getB; omega), HF1.out⟩
set_option maxRecDepth 20000 in
set_option maxHeartbeats 1000000 in
theorem getB3 (s : Nat × Nat × Nat) (i : Nat) (old : Nat) (a : Nat) (l : Lay) (H : HS) (w : World) (h : Rep w a l H) (h1 : s.1 + 2 + i / 4 < H.mem.length) (hb : (H.mem.length : Int) ≤ 1048576) (hr : i % 4 = 3) (hold : H.mem.getD (s.1 + 2 + i / 4) 0 = (old : Int)) (hi : (i : Int) ≤ 1048576) :
  Calls Tryd.prog 98 #[.pointer (some ⟨a, 0, none⟩), sv s, .int .i64 1, .int .i64 i] w fun e w' => e = .returned (.int .i64 ((getB old 3 : Nat) : Int)) ∧ Fr [] w w' := by
 obtain ⟨g, hg, hcg, hfg, hga, hgl⟩ := h.memBlock (by omega)
 have q := hcg (s.1 + 2 + i / 4) h1
 rw [hold] at q
 have c4 := h.c4
 rw [hg] at c4
 have hal := h.lt a (by simp [foot])
 obtain ⟨p0, L, t⟩ := s
 dsimp only at *
 have hba : ∀ W : World, Calls Tryd.prog 107 #[.agg #[.int .i64 (p0 : Int), .int .i64 (L : Int), .int .i64 (t : Int)], .int .i64 i] W fun e w' => e = .returned (.tuple #[.int .i64 ((p0 + 2 + i / 4 : Nat) : Int), .int .i64 24]) ∧ Fr [] W w' := by
  intro W
  have := byteAt_any (p0, L, t) i W (by dsimp only; omega) hi
  rw [hr] at this
  exact this
 have HB := mkHid hba
 have ha := and255 ((old : Int) / 16777216)
 have k1 : ((p0 + 2 + i / 4 : Nat) : Int) < (H.mem.length : Int) := by omega
 have k2 : (0 : Int) ≤ ((p0 + 2 + i / 4 : Nat) : Int) := by omega
 clear h hcg hfg hba hold
 unfold sv
 dsimp only [I]
 generalize hp : p0 + 2 + i / 4 = p at *
 clear hp
 generalize hm : H.mem.length = m at *
 clear hm
 go_enter Tryd.func98, Tryd.ntmps98
 go_wp2_with fail
 refine (HB.out _).mono ?_
 rintro e w1 ⟨rfl, hf1⟩
 have d4 := (hf1.cell (p := ⟨a, 4, none⟩) (by simp; omega) (by simp)).trans ((World.cell?_alloc_lt w _ ⟨a, 4, none⟩ hal).trans c4)
 have dq := (hf1.cell (p := ⟨g, p, none⟩) (by simp; omega) (by simp)).trans ((World.cell?_alloc_lt w _ ⟨g, p, none⟩ hgl).trans q)
 have HF1 := mkHid ((Fr.alloc [] w _).trans hf1 (by simp))
 clear hf1 HB
 go_wp2
 go_ret
 exact ⟨ret_int (by unfold getB; omega), HF1.out⟩
theorem setB_any (s : Nat × Nat × Nat) (i : Nat) (v : Nat) (old : Nat) (a : Nat) (l : Lay) (H : HS) (w : World) (h : Rep w a l H) (h1 : s.1 + 2 + i / 4 < H.mem.length) (hb : (H.mem.length : Int) ≤ 1048576) (hold : H.mem.getD (s.1 + 2 + i / 4) 0 = (old : Int)) (hi : (i : Int) ≤ 1048576) (hv : (v : Int) ≤ 255) (ho : (old : Int) ≤ 4294967295) :
  Calls Tryd.prog 73 #[.pointer (some ⟨a, 0, none⟩), sv s, .int .i64 1, .int .i64 i, .int .i64 v] w fun e w' => e = .returned (.tuple #[]) ∧ Rep w' a l { H with mem := H.mem.set (s.1 + 2 + i / 4) ((putB old (i % 4) v : Nat) : Int) } ∧ Nx a l l w w' := by
 rcases (show i % 4 = 0 ∨ i % 4 = 1 ∨ i % 4 = 2 ∨ i % 4 = 3 from by omega) with hr | hr | hr | hr
 ·rw [hr]; exact setB0 s i v old a l H w h h1 hb hr hold hi hv ho
 ·rw [hr]; exact setB1 s i v old a l H w h h1 hb hr hold hi hv ho
 ·rw [hr]; exact setB2 s i v old a l H w h h1 hb hr hold hi hv ho
 ·rw [hr]; exact setB3 s i v old a l H w h h1 hb hr hold hi hv ho
theorem getB_any (s : Nat × Nat × Nat) (i : Nat) (old : Nat) (a : Nat) (l : Lay) (H : HS) (w : World) (h : Rep w a l H) (h1 : s.1 + 2 + i / 4 < H.mem.length) (hb : (H.mem.length : Int) ≤ 1048576) (hold : H.mem.getD (s.1 + 2 + i / 4) 0 = (old : Int)) (hi : (i : Int) ≤ 1048576) :
  Calls Tryd.prog 98 #[.pointer (some ⟨a, 0, none⟩), sv s, .int .i64 1, .int .i64 i] w fun e w' => e = .returned (.int .i64 ((getB old (i % 4) : Nat) : Int)) ∧ Fr [] w w' := by
 rcases (show i % 4 = 0 ∨ i % 4 = 1 ∨ i % 4 = 2 ∨ i % 4 = 3 from by omega) with hr | hr | hr | hr
 ·rw [hr]; exact getB0 s i old a l H w h h1 hb hr hold hi
 ·rw [hr]; exact getB1 s i old a l H w h h1 hb hr hold hi
 ·rw [hr]; exact getB2 s i old a l H w h h1 hb hr hold hi
 ·rw [hr]; exact getB3 s i old a l H w h h1 hb hr hold hi
set_option maxHeartbeats 400000 in
theorem Mark_no (k : Int) (a : Nat) (l : Lay) (H : HS) (w : World) (h : Rep w a l H) (hk : isM k = false) :
  Calls Tryd.prog 12 #[.pointer (some ⟨a, 0, none⟩), .int .i64 k] w fun e w' => e = .returned (.int .i64 1) ∧ w' = w := by
 have hm := isMark_any k w
 rw [hk] at hm
 have c0 := h.c0
 have HM := mkHid hm
 clear h hm hk
 go_enter Tryd.func12, Tryd.ntmps12
 go_wp2_with (first | (go_at_call 44; refine (made_any _ _ c0).mono ?_; rintro e w' ⟨rfl, rfl⟩) | (go_at_call 45; refine Calls.mono HM.out ?_; rintro e w' ⟨rfl, rfl⟩))
 go_ret
 exact ⟨rfl, rfl⟩
set_option maxRecDepth 20000 in
set_option maxHeartbeats 2000000 in
theorem Put_slot (oop n f : Nat) (i v : Int) (a : Nat) (l : Lay) (H : HS) (w : World) (h : Rep w a l H) (hh : has H oop = true) (hb : (H.mem.length : Int) ≤ 1048576)
  (h4 : (H.seats.getD oop (0, 0, 0)).1 + 1 < H.mem.length) (h5 : H.mem.getD ((H.seats.getD oop (0, 0, 0)).1 + 1) 0 = ((2 * n + f : Nat) : Int)) (hf : (f : Int) ≤ 1) (hi : i < 0 ∨ (n : Int) ≤ i) :
  Calls Tryd.prog 29 #[.pointer (some ⟨a, 0, none⟩), .int .i64 oop, .int .i64 i, .int .i64 v] w fun e w' => e = .returned (.int .i64 21) ∧ Fr [] w w' := by
 obtain ⟨h1, h2, h3⟩ := has_yes hh
 have HSO := mkHid (seatOf_yes oop a l H w h h1 h2 h3)
 obtain ⟨⟨p, L, t⟩, hs⟩ : ∃ s, s = H.seats.getD oop (0, 0, 0) := ⟨_, rfl⟩
 rw [← hs] at HSO h4 h5
 have HSH : Hid (∀ W, Rep W a l H → Calls Tryd.prog 71 #[.pointer (some ⟨a, 0, none⟩), .agg #[.int .i64 (p : Int), .int .i64 (L : Int), .int .i64 (t : Int)]] W fun e w' => e = .returned (.tuple #[.int .i64 (n : Int), .int .i64 (f : Int)]) ∧ Fr [] W w') := by
  intro W hW
  have := shape_of (p, L, t) (2 * n + f) a l H W hW h4 h5 hb
  rw [show (2 * n + f) / 2 = n from by omega, show (2 * n + f) % 2 = f from by omega] at this
  exact this
 have HR := mkHid h
 clear h hs h3 h5 h4 h2 hh
 dsimp only [sv, I] at HSO
 rcases hi with hi | hi
 all_goals
  go_enter Tryd.func29, Tryd.ntmps29
  go_wp2_with fail
  refine Calls.mono HSO.out ?_
  rintro e w1 ⟨rfl, hf1⟩
  have F2 : Fr [] w (w1.alloc (.cells #[.int .i64 (p : Int), .int .i64 (L : Int), .int .i64 (t : Int)] 103)) := hf1.trans (Fr.alloc [] _ _) (by simp)
  have HF2 := mkHid F2
  clear hf1 F2
  go_wp2_with fail
  refine Calls.mono (HSH.out _ (HR.out.keep HF2.out (by simp))) ?_
  rintro e w2 ⟨rfl, hf2⟩
  have HF := mkHid (HF2.out.trans hf2 (by simp))
  clear hf2
  go_wp2
  go_ret
  exact ⟨rfl, HF.out⟩
set_option maxRecDepth 20000 in
set_option maxHeartbeats 2000000 in
theorem At_slot (oop n f : Nat) (i : Int) (a : Nat) (l : Lay) (H : HS) (w : World) (h : Rep w a l H) (hh : has H oop = true) (hb : (H.mem.length : Int) ≤ 1048576)
  (h4 : (H.seats.getD oop (0, 0, 0)).1 + 1 < H.mem.length) (h5 : H.mem.getD ((H.seats.getD oop (0, 0, 0)).1 + 1) 0 = ((2 * n + f : Nat) : Int)) (hf : (f : Int) ≤ 1) (hi : i < 0 ∨ (n : Int) ≤ i) :
  Calls Tryd.prog 47 #[.pointer (some ⟨a, 0, none⟩), .int .i64 oop, .int .i64 i] w fun e w' => e = .returned (.tuple #[.int .i64 0, .int .i64 21]) ∧ Fr [] w w' := by
 obtain ⟨h1, h2, h3⟩ := has_yes hh
 have HSO := mkHid (seatOf_yes oop a l H w h h1 h2 h3)
 obtain ⟨⟨p, L, t⟩, hs⟩ : ∃ s, s = H.seats.getD oop (0, 0, 0) := ⟨_, rfl⟩
 rw [← hs] at HSO h4 h5
 have HSH : Hid (∀ W, Rep W a l H → Calls Tryd.prog 71 #[.pointer (some ⟨a, 0, none⟩), .agg #[.int .i64 (p : Int), .int .i64 (L : Int), .int .i64 (t : Int)]] W fun e w' => e = .returned (.tuple #[.int .i64 (n : Int), .int .i64 (f : Int)]) ∧ Fr [] W w') := by
  intro W hW
  have := shape_of (p, L, t) (2 * n + f) a l H W hW h4 h5 hb
  rw [show (2 * n + f) / 2 = n from by omega, show (2 * n + f) % 2 = f from by omega] at this
  exact this
 have HR := mkHid h
 clear h hs h3 h5 h4 h2 hh
 dsimp only [sv, I] at HSO
 rcases hi with hi | hi
 all_goals
  go_enter Tryd.func47, Tryd.ntmps47
  go_wp2_with fail
  refine Calls.mono HSO.out ?_
  rintro e w1 ⟨rfl, hf1⟩
  have F2 : Fr [] w (w1.alloc (.cells #[.int .i64 (p : Int), .int .i64 (L : Int), .int .i64 (t : Int)] 103)) := hf1.trans (Fr.alloc [] _ _) (by simp)
  have HF2 := mkHid F2
  clear hf1 F2
  go_wp2_with fail
  refine Calls.mono (HSH.out _ (HR.out.keep HF2.out (by simp))) ?_
  rintro e w2 ⟨rfl, hf2⟩
  have HF := mkHid (HF2.out.trans hf2 (by simp))
  clear hf2
  go_wp2
  go_ret2
  exact ⟨rfl, HF.out⟩
set_option maxRecDepth 20000 in
set_option maxHeartbeats 2000000 in
theorem Put_word (oop i n f : Nat) (v : Int) (a : Nat) (l : Lay) (H : HS) (w : World) (h : Rep w a l H) (hh : has H oop = true) (hb : (H.mem.length : Int) ≤ 1048576)
  (h4 : (H.seats.getD oop (0, 0, 0)).1 + 1 < H.mem.length) (h5 : H.mem.getD ((H.seats.getD oop (0, 0, 0)).1 + 1) 0 = ((2 * n + f : Nat) : Int)) (hf : (f : Int) ≤ 1) (hi : (i : Int) < n) (hm : mayB v f = false) (hT : Tab w) :
  Calls Tryd.prog 29 #[.pointer (some ⟨a, 0, none⟩), .int .i64 oop, .int .i64 i, .int .i64 v] w fun e w' => e = .returned (.int .i64 10) ∧ Fr [] w w' := by
 obtain ⟨h1, h2, h3⟩ := has_yes hh
 have hal := h.lt a (by simp [foot])
 have HSO := mkHid (seatOf_yes oop a l H w h h1 h2 h3)
 obtain ⟨⟨p, L, t⟩, hs⟩ : ∃ s, s = H.seats.getD oop (0, 0, 0) := ⟨_, rfl⟩
 rw [← hs] at HSO h4 h5
 have HSH : Hid (∀ W, Rep W a l H → Calls Tryd.prog 71 #[.pointer (some ⟨a, 0, none⟩), .agg #[.int .i64 (p : Int), .int .i64 (L : Int), .int .i64 (t : Int)]] W fun e w' => e = .returned (.tuple #[.int .i64 (n : Int), .int .i64 (f : Int)]) ∧ Fr [] W w') := by
  intro W hW
  have := shape_of (p, L, t) (2 * n + f) a l H W hW h4 h5 hb
  rw [show (2 * n + f) / 2 = n from by omega, show (2 * n + f) % 2 = f from by omega] at this
  exact this
 have HMS : Hid (∀ W, Tab W → Calls Tryd.prog 72 #[.int .i64 v, .int .i64 f] W fun e w' => e = .returned (.bool false) ∧ w' = W) := by
  intro W hW
  have := mayStand_any v f W hW
  rw [hm] at this
  exact this
 have HR := mkHid h
 have HT := mkHid hT
 clear h hs h3 h5 h4 h2 hh hm hT
 dsimp only [sv, I] at HSO
 go_enter Tryd.func29, Tryd.ntmps29
 go_wp2_with fail
 refine Calls.mono HSO.out ?_
 rintro e w1 ⟨rfl, hf1⟩
 have F2 : Fr [] w (w1.alloc (.cells #[.int .i64 (p : Int), .int .i64 (L : Int), .int .i64 (t : Int)] 103)) := hf1.trans (Fr.alloc [] _ _) (by simp)
 have HF2 := mkHid F2
 clear hf1 F2
 go_wp2_with fail
 refine Calls.mono (HSH.out _ (HR.out.keep HF2.out (by simp))) ?_
 rintro e w2 ⟨rfl, hf2⟩
 have HF := mkHid (HF2.out.trans hf2 (by simp))
 clear hf2
 go_wp2_with fail
 refine Calls.mono (HMS.out _ (HT.out.fr HF.out (by omega))) ?_
 rintro e w3 ⟨rfl, hw3⟩
 rw [hw3]
 clear hw3 w3
 go_wp2
 go_ret
 exact ⟨rfl, HF.out⟩
set_option maxRecDepth 20000 in
set_option maxHeartbeats 2000000 in
theorem SetClass_word (oop : Nat) (v : Int) (a : Nat) (l : Lay) (H : HS) (w : World) (h : Rep w a l H) (hh : has H oop = true) (hm : isW v = false) (hT : Tab w) :
  Calls Tryd.prog 30 #[.pointer (some ⟨a, 0, none⟩), .int .i64 oop, .int .i64 v] w fun e w' => e = .returned (.int .i64 10) ∧ Fr [] w w' := by
 obtain ⟨h1, h2, h3⟩ := has_yes hh
 have hal := h.lt a (by simp [foot])
 have HSO := mkHid (seatOf_yes oop a l H w h h1 h2 h3)
 obtain ⟨⟨p, L, t⟩, hs⟩ : ∃ s, s = H.seats.getD oop (0, 0, 0) := ⟨_, rfl⟩
 rw [← hs] at HSO
 have HMS : Hid (∀ W, Tab W → Calls Tryd.prog 48 #[.int .i64 v] W fun e w' => e = .returned (.bool false) ∧ w' = W) := by
  intro W hW
  have := isWord_any v W hW
  rw [hm] at this
  exact this
 have HT := mkHid hT
 clear h hs h3 h2 hh hm hT
 dsimp only [sv, I] at HSO
 go_enter Tryd.func30, Tryd.ntmps30
 go_wp2_with fail
 refine Calls.mono HSO.out ?_
 rintro e w1 ⟨rfl, hf1⟩
 have F2 : Fr [] w (w1.alloc (.cells #[.int .i64 (p : Int), .int .i64 (L : Int), .int .i64 (t : Int)] 103)) := hf1.trans (Fr.alloc [] _ _) (by simp)
 have HF := mkHid F2
 clear hf1 F2
 go_wp2_with fail
 refine Calls.mono (HMS.out _ (HT.out.fr HF.out (by omega))) ?_
 rintro e w3 ⟨rfl, hw3⟩
 rw [hw3]
 clear hw3 w3
 go_wp2
 go_ret
 exact ⟨rfl, HF.out⟩
set_option maxRecDepth 20000 in
set_option maxHeartbeats 2000000 in
theorem SetClass_ok (oop : Nat) (v : Int) (a : Nat) (l : Lay) (H : HS) (w : World) (h : Rep w a l H) (hh : has H oop = true) (hv : isW v = true) (hT : Tab w) (hm : (H.seats.getD oop (0, 0, 0)).1 < H.mem.length) (hb : (H.mem.length : Int) ≤ 1048576) :
  Calls Tryd.prog 30 #[.pointer (some ⟨a, 0, none⟩), .int .i64 oop, .int .i64 v] w fun e w' => e = .returned (.int .i64 0) ∧ Rep w' a l { H with mem := H.mem.set (H.seats.getD oop (0, 0, 0)).1 v } ∧ Nx a l l w w' := by
 obtain ⟨h1, h2, h3⟩ := has_yes hh
 have hal := h.lt a (by simp [foot])
 have HSO := mkHid (seatOf_yes oop a l H w h h1 h2 h3)
 obtain ⟨g, hg, hcg, hfg, hga, hgl⟩ := h.memBlock (by omega)
 have q := hcg _ hm
 have fq := hfg (H.seats.getD oop (0, 0, 0)).1
 have c4 := h.c4
 rw [hg] at c4
 obtain ⟨⟨p, L, t⟩, hs⟩ : ∃ s, s = H.seats.getD oop (0, 0, 0) := ⟨_, rfl⟩
 rw [← hs] at HSO hm q fq
 rw [← hs]
 dsimp only [sv, I] at *
 have HMS : Hid (∀ W, Tab W → Calls Tryd.prog 48 #[.int .i64 v] W fun e w' => e = .returned (.bool true) ∧ w' = W) := by
  intro W hW
  have := isWord_any v W hW
  rw [hv] at this
  exact this
 have HE : Hid (∀ W W', Fr [] w W → Eqw (W.setCell ⟨g, p, none⟩ (.int .i64 v)) W' → Rep W' a l { H with mem := H.mem.set p v } ∧ Nx a l l w W') := by
  intro W W' hW he
  have K := (h.keep hW (by simp)).setMem hg p hm _ W' he
  exact ⟨K.1, (Nx.frw (hW.mono (by simp))).trans K.2⟩
 have HT := mkHid hT
 have k1 : (0 : Int) ≤ (p : Int) := by omega
 have k2 : (p : Int) < (H.mem.length : Int) := by omega
 clear h hs h3 h2 hh hv hT hcg hfg
 generalize H.mem.getD p 0 = old at *
 generalize hmm : H.mem.length = m at *
 clear hmm
 go_enter Tryd.func30, Tryd.ntmps30
 go_wp2_with fail
 refine Calls.mono HSO.out ?_
 rintro e w1 ⟨rfl, hf1⟩
 have z1 := hf1.size
 obtain ⟨o3, ho3⟩ : ∃ o3, o3 = Obj.cells #[.int .i64 (p : Int), .int .i64 (L : Int), .int .i64 (t : Int)] 103 := ⟨_, rfl⟩
 have D4 := (World.cell?_alloc_lt w1 o3 ⟨a, 4, none⟩ (by show a < _; omega)).trans ((hf1.cell (p := ⟨a, 4, none⟩) hal (by simp)).trans c4)
 have DQ := (World.cell?_alloc_lt w1 o3 ⟨g, p, none⟩ (by show g < _; omega)).trans ((hf1.cell (p := ⟨g, p, none⟩) hgl (by simp)).trans q)
 have DF := (World.frozen?_alloc_old w1 o3 ⟨g, p, none⟩ (by show g ≠ _; omega)).trans ((hf1.frozen (p := ⟨g, p, none⟩) hgl (by simp)).trans fq)
 have hn3 := heap_alloc_new w1 o3
 rw [ho3] at hn3
 have T0 := cell_in hn3 0
 rw [← ho3] at T0
 simp only [List.getElem?_toArray, List.getElem?_cons_zero] at T0
 have HF := mkHid (hf1.trans (Fr.alloc [] w1 o3) (by simp))
 have dg : g ≠ w1.heap.size := by omega
 clear hf1 hn3
 go_wp2_with fail
 rw [← ho3]
 clear ho3
 generalize w1.alloc o3 = w3 at *
 refine Calls.mono (HMS.out _ (HT.out.fr HF.out (by omega))) ?_
 rintro e w4 ⟨rfl, hw4⟩
 rw [hw4]
 clear hw4 w4
 go_wp2
 go_region
 all_goals go_wp2
 all_goals
  go_ret
  exact ⟨rfl, HE.out _ _ HF.out (eqw_drew _)⟩
end Go.Proofs.YtklfnjlenbgmoaaDoor
