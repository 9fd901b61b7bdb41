import Derived.Test.YtdkbnnhcjaibdaaDoorFG04HGet
namespace Go.Proofs.YtdkbnnhcjaibdaaDoor
open Go.RowKit
set_option linter.unusedVariables false
attribute [local go_sem ↓] Go.wp_at_zero Go.wp_at_succ
def putB (m r v : Nat) : Nat := m / 2 ^ (8 * r + 8) * 2 ^ (8 * r + 8) + v * 2 ^ (8 * r) + m % 2 ^ (8 * r)
def getB (m r : Nat) : Nat := m / 2 ^ (8 * r) % 256
theorem mask_bit (s i : Nat) : (255 * 2 ^ s).testBit i = (decide (s ≤ i) && decide (i - s < 8)) := by
  rw [Nat.testBit_mul_two_pow, show (255 : Nat) = 2 ^ 8 - 1 from rfl, Nat.testBit_two_pow_sub_one]
theorem put_gen (m v s : Nat) (hm : m < 2 ^ 32) (hv : v < 2 ^ 8) (hs : s ≤ 24) : (m &&& (18446744073709551615 - 255 * 2 ^ s)) ||| (v * 2 ^ s) = m / 2 ^ (s + 8) * 2 ^ (s + 8) + v * 2 ^ s + m % 2 ^ s := by
  have hp : 2 ^ s ≤ 2 ^ 24 := Nat.pow_le_pow_right (by omega) hs
  have hp0 : 0 < 2 ^ s := Nat.pow_pos (by omega)
  have hmod : m % 2 ^ s < 2 ^ s := Nat.mod_lt _ hp0
  have e1 : v * 2 ^ s + m % 2 ^ s = v <<< s ||| m % 2 ^ s := by
    rw [← Nat.shiftLeft_add_eq_or_of_lt hmod, Nat.shiftLeft_eq]
  have hlt : v * 2 ^ s + m % 2 ^ s < 2 ^ (s + 8) := by
    rw [Nat.pow_add]
    have : v * 2 ^ s ≤ 255 * 2 ^ s := Nat.mul_le_mul_right _ (by omega)
    omega
  have e2 : m / 2 ^ (s + 8) * 2 ^ (s + 8) + (v * 2 ^ s + m % 2 ^ s) = (m / 2 ^ (s + 8)) <<< (s + 8) ||| (v * 2 ^ s + m % 2 ^ s) := by
    rw [← Nat.shiftLeft_add_eq_or_of_lt hlt, Nat.shiftLeft_eq]
  rw [Nat.add_assoc, e2, e1]
  apply Nat.eq_of_testBit_eq
  intro i
  have hv8 : ∀ k, 8 ≤ k → v.testBit k = false := fun k hk => Nat.testBit_lt_two_pow (Nat.lt_of_lt_of_le hv (Nat.pow_le_pow_right (by omega) hk))
  have hm32 : ∀ k, 32 ≤ k → m.testBit k = false := fun k hk => Nat.testBit_lt_two_pow (Nat.lt_of_lt_of_le hm (Nat.pow_le_pow_right (by omega) hk))
  have hmk : 255 * 2 ^ s < 2 ^ 64 := by omega
  rw [Nat.testBit_or, Nat.testBit_and, show 18446744073709551615 - 255 * 2 ^ s = 2 ^ 64 - (255 * 2 ^ s + 1) from by omega, Nat.testBit_two_pow_sub_succ hmk, mask_bit, Nat.testBit_mul_two_pow,
    Nat.testBit_or, Nat.testBit_or, Nat.testBit_shiftLeft, Nat.testBit_shiftLeft, Nat.testBit_div_two_pow, Nat.testBit_mod_two_pow]
  by_cases h1 : s + 8 ≤ i
  · have a1 : s ≤ i := by omega
    have a2 : ¬ i - s < 8 := by omega
    have a3 : ¬ i < s := by omega
    rw [show i - (s + 8) + (s + 8) = i from by omega, hv8 (i - s) (by omega)]
    by_cases h64 : i < 64
    · simp [a1, a2, a3, h1, h64]
    · simp [hm32 i (by omega)]
  · by_cases h2 : s ≤ i
    · have a2 : i - s < 8 := by omega
      have a3 : ¬ i < s := by omega
      simp [h1, h2, a2, a3]
    · have a3 : i < s := by omega
      have a4 : i < 64 := by omega
      simp [h1, h2, a3, a4]
theorem put_int (m v r : Nat) (hm : m < 4294967296) (hv : v < 256) (hr : r ≤ 3) (M P : Int) (hM : M = ((255 * 2 ^ (8 * r) : Nat) : Int)) (hP : P = ((v * 2 ^ (8 * r) : Nat) : Int)) :
    Go.bits .or .i64 (Go.bits .andNot .i64 (m : Int) M) P = ((putB m r v : Nat) : Int) := by
  have hp : 2 ^ (8 * r) ≤ 2 ^ 24 := Nat.pow_le_pow_right (by omega) (by omega)
  have hle : m &&& (18446744073709551615 - 255 * 2 ^ (8 * r)) ≤ m := Nat.and_le_left
  have hvp : v * 2 ^ (8 * r) ≤ 255 * 2 ^ 24 := Nat.mul_le_mul (by omega) hp
  rw [hM, hP, andNot_i64 m _ (by omega) (by omega), or_i64 _ _ (by omega) (by omega), put_gen m v (8 * r) (by omega) (by omega) (by omega)]
  rfl
set_option maxRecDepth 20000 in
set_option maxHeartbeats 1000000 in
theorem setB0 (s : Nat × Nat × Nat) (i : Nat) (v : Nat) (old : Nat) (a : Nat) (l : Lay) (H : HS) (w : World) (h : Rep w a l H) (h1 : s.1 + 2 + i / 4 < H.mem.length) (hb : (H.mem.length : Int) ≤ 1048576) (hr : i % 4 = 0) (hold : H.mem.getD (s.1 + 2 + i / 4) 0 = (old : Int)) (hi : (i : Int) ≤ 1048576) (hv : (v : Int) ≤ 255) (ho : (old : Int) ≤ 4294967295) :
    Calls Tryd.prog 113 #[.pointer (some ⟨a, 0, none⟩), sv s, .int .i64 1, .int .i64 i, .int .i64 v] w fun e w' => e = .returned (.tuple #[]) ∧ Rep w' a l { H with mem := H.mem.set (s.1 + 2 + i / 4) ((putB old 0 v : Nat) : Int) } ∧ Nx a l l w w' := by
  obtain ⟨g, hg, hcg, hfg, hga, hgl⟩ := h.memBlock (by omega)
  have q := hcg (s.1 + 2 + i / 4) h1
  have fq := hfg (s.1 + 2 + i / 4)
  rw [hold] at q
  have c4 := h.c4
  rw [hg] at c4
  have hal := h.lt a (by simp [foot])
  obtain ⟨p0, L, t⟩ := s
  dsimp only at *
  have hba : ∀ W : World, Calls Tryd.prog 141 #[.agg #[.int .i64 (p0 : Int), .int .i64 (L : Int), .int .i64 (t : Int)], .int .i64 i] W fun e w' => e = .returned (.tuple #[.int .i64 ((p0 + 2 + i / 4 : Nat) : Int), .int .i64 0]) ∧ Fr [] W w' := by
    intro W
    have := byteAt_any (p0, L, t) i W (by dsimp only; omega) hi
    rw [hr] at this
    exact this
  have HB := mkHid hba
  have hor : Go.bits .or .i64 (Go.bits .andNot .i64 (old : Int) 255) (v : Int) = ((putB old 0 v : Nat) : Int) := put_int old v 0 (by omega) (by omega) (by omega) _ _ rfl (by simp)
  have HE : Hid (∀ W W', Fr [] w W → Eqw (W.setCell ⟨g, p0 + 2 + i / 4, none⟩ (.int .i64 ((putB old 0 v : Nat) : Int))) W' → Rep W' a l { H with mem := H.mem.set (p0 + 2 + i / 4) ((putB old 0 v : Nat) : Int) } ∧ Nx a l l w W') := by
    intro W W' hW he
    have K := (h.keep hW (by simp)).setMem hg (p0 + 2 + i / 4) h1 _ W' he
    exact ⟨K.1, (Nx.frw (hW.mono (by simp))).trans K.2⟩
  have k1 : ((p0 + 2 + i / 4 : Nat) : Int) < (H.mem.length : Int) := by omega
  have k2 : (0 : Int) ≤ ((p0 + 2 + i / 4 : Nat) : Int) := by omega
  clear h hcg hfg hba hold
  unfold sv
  dsimp only [I]
  generalize putB old 0 v = pv at *
  generalize hp : p0 + 2 + i / 4 = p at *
  clear hp
  generalize hm : H.mem.length = m at *
  clear hm
  go_enter Tryd.func113, Tryd.ntmps113
  go_wp2_with fail
  refine (HB.out _).mono ?_
  rintro e w1 ⟨rfl, hf1⟩
  have d4 := (hf1.cell (p := ⟨a, 4, none⟩) (by simp; omega) (by simp)).trans ((World.cell?_alloc_lt w _ ⟨a, 4, none⟩ hal).trans c4)
  have dq := (hf1.cell (p := ⟨g, p, none⟩) (by simp; omega) (by simp)).trans ((World.cell?_alloc_lt w _ ⟨g, p, none⟩ hgl).trans q)
  have df := (hf1.frozen (p := ⟨g, p, none⟩) (by simp; omega) (by simp)).trans ((World.frozen?_alloc_old w _ ⟨g, p, none⟩ (by show g ≠ _; omega)).trans fq)
  have HF1 := mkHid ((Fr.alloc [] w _).trans hf1 (by simp))
  clear hf1 HB
  go_wp2
  go_region
  all_goals go_wp2
  all_goals
    go_end0
    exact ⟨rfl, HE.out _ _ HF1.out (eqw_drew _)⟩
set_option maxRecDepth 20000 in
set_option maxHeartbeats 1000000 in
theorem setB1 (s : Nat × Nat × Nat) (i : Nat) (v : Nat) (old : Nat) (a : Nat) (l : Lay) (H : HS) (w : World) (h : Rep w a l H) (h1 : s.1 + 2 + i / 4 < H.mem.length) (hb : (H.mem.length : Int) ≤ 1048576) (hr : i % 4 = 1) (hold : H.mem.getD (s.1 + 2 + i / 4) 0 = (old : Int)) (hi : (i : Int) ≤ 1048576) (hv : (v : Int) ≤ 255) (ho : (old : Int) ≤ 4294967295) :
    Calls Tryd.prog 113 #[.pointer (some ⟨a, 0, none⟩), sv s, .int .i64 1, .int .i64 i, .int .i64 v] w fun e w' => e = .returned (.tuple #[]) ∧ Rep w' a l { H with mem := H.mem.set (s.1 + 2 + i / 4) ((putB old 1 v : Nat) : Int) } ∧ Nx a l l w w' := by
  obtain ⟨g, hg, hcg, hfg, hga, hgl⟩ := h.memBlock (by omega)
  have q := hcg (s.1 + 2 + i / 4) h1
  have fq := hfg (s.1 + 2 + i / 4)
  rw [hold] at q
  have c4 := h.c4
  rw [hg] at c4
  have hal := h.lt a (by simp [foot])
  obtain ⟨p0, L, t⟩ := s
  dsimp only at *
  have hba : ∀ W : World, Calls Tryd.prog 141 #[.agg #[.int .i64 (p0 : Int), .int .i64 (L : Int), .int .i64 (t : Int)], .int .i64 i] W fun e w' => e = .returned (.tuple #[.int .i64 ((p0 + 2 + i / 4 : Nat) : Int), .int .i64 8]) ∧ Fr [] W w' := by
    intro W
    have := byteAt_any (p0, L, t) i W (by dsimp only; omega) hi
    rw [hr] at this
    exact this
  have HB := mkHid hba
  have hor : Go.bits .or .i64 (Go.bits .andNot .i64 (old : Int) 65280) ((v : Int) * 256) = ((putB old 1 v : Nat) : Int) := put_int old v 1 (by omega) (by omega) (by omega) _ _ rfl (by simp)
  have HE : Hid (∀ W W', Fr [] w W → Eqw (W.setCell ⟨g, p0 + 2 + i / 4, none⟩ (.int .i64 ((putB old 1 v : Nat) : Int))) W' → Rep W' a l { H with mem := H.mem.set (p0 + 2 + i / 4) ((putB old 1 v : Nat) : Int) } ∧ Nx a l l w W') := by
    intro W W' hW he
    have K := (h.keep hW (by simp)).setMem hg (p0 + 2 + i / 4) h1 _ W' he
    exact ⟨K.1, (Nx.frw (hW.mono (by simp))).trans K.2⟩
  have k1 : ((p0 + 2 + i / 4 : Nat) : Int) < (H.mem.length : Int) := by omega
  have k2 : (0 : Int) ≤ ((p0 + 2 + i / 4 : Nat) : Int) := by omega
  clear h hcg hfg hba hold
  unfold sv
  dsimp only [I]
  generalize putB old 1 v = pv at *
  generalize hp : p0 + 2 + i / 4 = p at *
  clear hp
  generalize hm : H.mem.length = m at *
  clear hm
  go_enter Tryd.func113, Tryd.ntmps113
  go_wp2_with fail
  refine (HB.out _).mono ?_
  rintro e w1 ⟨rfl, hf1⟩
  have d4 := (hf1.cell (p := ⟨a, 4, none⟩) (by simp; omega) (by simp)).trans ((World.cell?_alloc_lt w _ ⟨a, 4, none⟩ hal).trans c4)
  have dq := (hf1.cell (p := ⟨g, p, none⟩) (by simp; omega) (by simp)).trans ((World.cell?_alloc_lt w _ ⟨g, p, none⟩ hgl).trans q)
  have df := (hf1.frozen (p := ⟨g, p, none⟩) (by simp; omega) (by simp)).trans ((World.frozen?_alloc_old w _ ⟨g, p, none⟩ (by show g ≠ _; omega)).trans fq)
  have HF1 := mkHid ((Fr.alloc [] w _).trans hf1 (by simp))
  clear hf1 HB
  go_wp2
  go_region
  all_goals go_wp2
  all_goals
    go_end0
    exact ⟨rfl, HE.out _ _ HF1.out (eqw_drew _)⟩
set_option maxRecDepth 20000 in
set_option maxHeartbeats 1000000 in
theorem setB2 (s : Nat × Nat × Nat) (i : Nat) (v : Nat) (old : Nat) (a : Nat) (l : Lay) (H : HS) (w : World) (h : Rep w a l H) (h1 : s.1 + 2 + i / 4 < H.mem.length) (hb : (H.mem.length : Int) ≤ 1048576) (hr : i % 4 = 2) (hold : H.mem.getD (s.1 + 2 + i / 4) 0 = (old : Int)) (hi : (i : Int) ≤ 1048576) (hv : (v : Int) ≤ 255) (ho : (old : Int) ≤ 4294967295) :
    Calls Tryd.prog 113 #[.pointer (some ⟨a, 0, none⟩), sv s, .int .i64 1, .int .i64 i, .int .i64 v] w fun e w' => e = .returned (.tuple #[]) ∧ Rep w' a l { H with mem := H.mem.set (s.1 + 2 + i / 4) ((putB old 2 v : Nat) : Int) } ∧ Nx a l l w w' := by
  obtain ⟨g, hg, hcg, hfg, hga, hgl⟩ := h.memBlock (by omega)
  have q := hcg (s.1 + 2 + i / 4) h1
  have fq := hfg (s.1 + 2 + i / 4)
  rw [hold] at q
  have c4 := h.c4
  rw [hg] at c4
  have hal := h.lt a (by simp [foot])
  obtain ⟨p0, L, t⟩ := s
  dsimp only at *
  have hba : ∀ W : World, Calls Tryd.prog 141 #[.agg #[.int .i64 (p0 : Int), .int .i64 (L : Int), .int .i64 (t : Int)], .int .i64 i] W fun e w' => e = .returned (.tuple #[.int .i64 ((p0 + 2 + i / 4 : Nat) : Int), .int .i64 16]) ∧ Fr [] W w' := by
    intro W
    have := byteAt_any (p0, L, t) i W (by dsimp only; omega) hi
    rw [hr] at this
    exact this
  have HB := mkHid hba
  have hor : Go.bits .or .i64 (Go.bits .andNot .i64 (old : Int) 16711680) ((v : Int) * 65536) = ((putB old 2 v : Nat) : Int) := put_int old v 2 (by omega) (by omega) (by omega) _ _ rfl (by simp)
  have HE : Hid (∀ W W', Fr [] w W → Eqw (W.setCell ⟨g, p0 + 2 + i / 4, none⟩ (.int .i64 ((putB old 2 v : Nat) : Int))) W' → Rep W' a l { H with mem := H.mem.set (p0 + 2 + i / 4) ((putB old 2 v : Nat) : Int) } ∧ Nx a l l w W') := by
    intro W W' hW he
    have K := (h.keep hW (by simp)).setMem hg (p0 + 2 + i / 4) h1 _ W' he
    exact ⟨K.1, (Nx.frw (hW.mono (by simp))).trans K.2⟩
  have k1 : ((p0 + 2 + i / 4 : Nat) : Int) < (H.mem.length : Int) := by omega
  have k2 : (0 : Int) ≤ ((p0 + 2 + i / 4 : Nat) : Int) := by omega
  clear h hcg hfg hba hold
  unfold sv
  dsimp only [I]
  generalize putB old 2 v = pv at *
  generalize hp : p0 + 2 + i / 4 = p at *
  clear hp
  generalize hm : H.mem.length = m at *
  clear hm
  go_enter Tryd.func113, Tryd.ntmps113
  go_wp2_with fail
  refine (HB.out _).mono ?_
  rintro e w1 ⟨rfl, hf1⟩
  have d4 := (hf1.cell (p := ⟨a, 4, none⟩) (by simp; omega) (by simp)).trans ((World.cell?_alloc_lt w _ ⟨a, 4, none⟩ hal).trans c4)
  have dq := (hf1.cell (p := ⟨g, p, none⟩) (by simp; omega) (by simp)).trans ((World.cell?_alloc_lt w _ ⟨g, p, none⟩ hgl).trans q)
  have df := (hf1.frozen (p := ⟨g, p, none⟩) (by simp; omega) (by simp)).trans ((World.frozen?_alloc_old w _ ⟨g, p, none⟩ (by show g ≠ _; omega)).trans fq)
  have HF1 := mkHid ((Fr.alloc [] w _).trans hf1 (by simp))
  clear hf1 HB
  go_wp2
  go_region
  all_goals go_wp2
  all_goals
    go_end0
    exact ⟨rfl, HE.out _ _ HF1.out (eqw_drew _)⟩
set_option maxRecDepth 20000 in
set_option maxHeartbeats 1000000 in
theorem setB3 (s : Nat × Nat × Nat) (i : Nat) (v : Nat) (old : Nat) (a : Nat) (l : Lay) (H : HS) (w : World) (h : Rep w a l H) (h1 : s.1 + 2 + i / 4 < H.mem.length) (hb : (H.mem.length : Int) ≤ 1048576) (hr : i % 4 = 3) (hold : H.mem.getD (s.1 + 2 + i / 4) 0 = (old : Int)) (hi : (i : Int) ≤ 1048576) (hv : (v : Int) ≤ 255) (ho : (old : Int) ≤ 4294967295) :
    Calls Tryd.prog 113 #[.pointer (some ⟨a, 0, none⟩), sv s, .int .i64 1, .int .i64 i, .int .i64 v] w fun e w' => e = .returned (.tuple #[]) ∧ Rep w' a l { H with mem := H.mem.set (s.1 + 2 + i / 4) ((putB old 3 v : Nat) : Int) } ∧ Nx a l l w w' := by
  obtain ⟨g, hg, hcg, hfg, hga, hgl⟩ := h.memBlock (by omega)
  have q := hcg (s.1 + 2 + i / 4) h1
  have fq := hfg (s.1 + 2 + i / 4)
  rw [hold] at q
  have c4 := h.c4
  rw [hg] at c4
  have hal := h.lt a (by simp [foot])
  obtain ⟨p0, L, t⟩ := s
  dsimp only at *
  have hba : ∀ W : World, Calls Tryd.prog 141 #[.agg #[.int .i64 (p0 : Int), .int .i64 (L : Int), .int .i64 (t : Int)], .int .i64 i] W fun e w' => e = .returned (.tuple #[.int .i64 ((p0 + 2 + i / 4 : Nat) : Int), .int .i64 24]) ∧ Fr [] W w' := by
    intro W
    have := byteAt_any (p0, L, t) i W (by dsimp only; omega) hi
    rw [hr] at this
    exact this
  have HB := mkHid hba
  have hor : Go.bits .or .i64 (Go.bits .andNot .i64 (old : Int) 4278190080) ((v : Int) * 16777216) = ((putB old 3 v : Nat) : Int) := put_int old v 3 (by omega) (by omega) (by omega) _ _ rfl (by simp)
  have HE : Hid (∀ W W', Fr [] w W → Eqw (W.setCell ⟨g, p0 + 2 + i / 4, none⟩ (.int .i64 ((putB old 3 v : Nat) : Int))) W' → Rep W' a l { H with mem := H.mem.set (p0 + 2 + i / 4) ((putB old 3 v : Nat) : Int) } ∧ Nx a l l w W') := by
    intro W W' hW he
    have K := (h.keep hW (by simp)).setMem hg (p0 + 2 + i / 4) h1 _ W' he
    exact ⟨K.1, (Nx.frw (hW.mono (by simp))).trans K.2⟩
  have k1 : ((p0 + 2 + i / 4 : Nat) : Int) < (H.mem.length : Int) := by omega
  have k2 : (0 : Int) ≤ ((p0 + 2 + i / 4 : Nat) : Int) := by omega
  clear h hcg hfg hba hold
  unfold sv
  dsimp only [I]
  generalize putB old 3 v = pv at *
  generalize hp : p0 + 2 + i / 4 = p at *
  clear hp
  generalize hm : H.mem.length = m at *
  clear hm
  go_enter Tryd.func113, Tryd.ntmps113
  go_wp2_with fail
  refine (HB.out _).mono ?_
  rintro e w1 ⟨rfl, hf1⟩
  have d4 := (hf1.cell (p := ⟨a, 4, none⟩) (by simp; omega) (by simp)).trans ((World.cell?_alloc_lt w _ ⟨a, 4, none⟩ hal).trans c4)
  have dq := (hf1.cell (p := ⟨g, p, none⟩) (by simp; omega) (by simp)).trans ((World.cell?_alloc_lt w _ ⟨g, p, none⟩ hgl).trans q)
  have df := (hf1.frozen (p := ⟨g, p, none⟩) (by simp; omega) (by simp)).trans ((World.frozen?_alloc_old w _ ⟨g, p, none⟩ (by show g ≠ _; omega)).trans fq)
  have HF1 := mkHid ((Fr.alloc [] w _).trans hf1 (by simp))
  clear hf1 HB
  go_wp2
  go_region
  all_goals go_wp2
  all_goals
    go_end0
    exact ⟨rfl, HE.out _ _ HF1.out (eqw_drew _)⟩
set_option maxRecDepth 20000 in
set_option maxHeartbeats 1000000 in
theorem getB0 (s : Nat × Nat × Nat) (i : Nat) (old : Nat) (a : Nat) (l : Lay) (H : HS) (w : World) (h : Rep w a l H) (h1 : s.1 + 2 + i / 4 < H.mem.length) (hb : (H.mem.length : Int) ≤ 1048576) (hr : i % 4 = 0) (hold : H.mem.getD (s.1 + 2 + i / 4) 0 = (old : Int)) (hi : (i : Int) ≤ 1048576) :
    Calls Tryd.prog 114 #[.pointer (some ⟨a, 0, none⟩), sv s, .int .i64 1, .int .i64 i] w fun e w' => e = .returned (.int .i64 ((getB old 0 : Nat) : Int)) ∧ Fr [] w w' := by
  obtain ⟨g, hg, hcg, hfg, hga, hgl⟩ := h.memBlock (by omega)
  have q := hcg (s.1 + 2 + i / 4) h1
  rw [hold] at q
  have c4 := h.c4
  rw [hg] at c4
  have hal := h.lt a (by simp [foot])
  obtain ⟨p0, L, t⟩ := s
  dsimp only at *
  have hba : ∀ W : World, Calls Tryd.prog 141 #[.agg #[.int .i64 (p0 : Int), .int .i64 (L : Int), .int .i64 (t : Int)], .int .i64 i] W fun e w' => e = .returned (.tuple #[.int .i64 ((p0 + 2 + i / 4 : Nat) : Int), .int .i64 0]) ∧ Fr [] W w' := by
    intro W
    have := byteAt_any (p0, L, t) i W (by dsimp only; omega) hi
    rw [hr] at this
    exact this
  have HB := mkHid hba
  have ha := and255 (old : Int)
  have k1 : ((p0 + 2 + i / 4 : Nat) : Int) < (H.mem.length : Int) := by omega
  have k2 : (0 : Int) ≤ ((p0 + 2 + i / 4 : Nat) : Int) := by omega
  clear h hcg hfg hba hold
  unfold sv
  dsimp only [I]
  generalize hp : p0 + 2 + i / 4 = p at *
  clear hp
  generalize hm : H.mem.length = m at *
  clear hm
  go_enter Tryd.func114, Tryd.ntmps114
  go_wp2_with fail
  refine (HB.out _).mono ?_
  rintro e w1 ⟨rfl, hf1⟩
  have d4 := (hf1.cell (p := ⟨a, 4, none⟩) (by simp; omega) (by simp)).trans ((World.cell?_alloc_lt w _ ⟨a, 4, none⟩ hal).trans c4)
  have dq := (hf1.cell (p := ⟨g, p, none⟩) (by simp; omega) (by simp)).trans ((World.cell?_alloc_lt w _ ⟨g, p, none⟩ hgl).trans q)
  have HF1 := mkHid ((Fr.alloc [] w _).trans hf1 (by simp))
  clear hf1 HB
  go_wp2
  go_ret
  exact ⟨ret_int (by unfold getB; omega), HF1.out⟩
set_option maxRecDepth 20000 in
set_option maxHeartbeats 1000000 in
theorem getB1 (s : Nat × Nat × Nat) (i : Nat) (old : Nat) (a : Nat) (l : Lay) (H : HS) (w : World) (h : Rep w a l H) (h1 : s.1 + 2 + i / 4 < H.mem.length) (hb : (H.mem.length : Int) ≤ 1048576) (hr : i % 4 = 1) (hold : H.mem.getD (s.1 + 2 + i / 4) 0 = (old : Int)) (hi : (i : Int) ≤ 1048576) :
    Calls Tryd.prog 114 #[.pointer (some ⟨a, 0, none⟩), sv s, .int .i64 1, .int .i64 i] w fun e w' => e = .returned (.int .i64 ((getB old 1 : Nat) : Int)) ∧ Fr [] w w' := by
  obtain ⟨g, hg, hcg, hfg, hga, hgl⟩ := h.memBlock (by omega)
  have q := hcg (s.1 + 2 + i / 4) h1
  rw [hold] at q
  have c4 := h.c4
  rw [hg] at c4
  have hal := h.lt a (by simp [foot])
  obtain ⟨p0, L, t⟩ := s
  dsimp only at *
  have hba : ∀ W : World, Calls Tryd.prog 141 #[.agg #[.int .i64 (p0 : Int), .int .i64 (L : Int), .int .i64 (t : Int)], .int .i64 i] W fun e w' => e = .returned (.tuple #[.int .i64 ((p0 + 2 + i / 4 : Nat) : Int), .int .i64 8]) ∧ Fr [] W w' := by
    intro W
    have := byteAt_any (p0, L, t) i W (by dsimp only; omega) hi
    rw [hr] at this
    exact this
  have HB := mkHid hba
  have ha := and255 ((old : Int) / 256)
  have k1 : ((p0 + 2 + i / 4 : Nat) : Int) < (H.mem.length : Int) := by omega
  have k2 : (0 : Int) ≤ ((p0 + 2 + i / 4 : Nat) : Int) := by omega
  clear h hcg hfg hba hold
  unfold sv
  dsimp only [I]
  generalize hp : p0 + 2 + i / 4 = p at *
  clear hp
  generalize hm : H.mem.length = m at *
  clear hm
  go_enter Tryd.func114, Tryd.ntmps114
  go_wp2_with fail
  refine (HB.out _).mono ?_
  rintro e w1 ⟨rfl, hf1⟩
  have d4 := (hf1.cell (p := ⟨a, 4, none⟩) (by simp; omega) (by simp)).trans ((World.cell?_alloc_lt w _ ⟨a, 4, none⟩ hal).trans c4)
  have dq := (hf1.cell (p := ⟨g, p, none⟩) (by simp; omega) (by simp)).trans ((World.cell?_alloc_lt w _ ⟨g, p, none⟩ hgl).trans q)
  have HF1 := mkHid ((Fr.alloc [] w _).trans hf1 (by simp))
  clear hf1 HB
  go_wp2
  go_ret
  exact ⟨ret_int (by unfold getB; omega), HF1.out⟩
set_option maxRecDepth 20000 in
set_option maxHeartbeats 1000000 in
theorem getB2 (s : Nat × Nat × Nat) (i : Nat) (old : Nat) (a : Nat) (l : Lay) (H : HS) (w : World) (h : Rep w a l H) (h1 : s.1 + 2 + i / 4 < H.mem.length) (hb : (H.mem.length : Int) ≤ 1048576) (hr : i % 4 = 2) (hold : H.mem.getD (s.1 + 2 + i / 4) 0 = (old : Int)) (hi : (i : Int) ≤ 1048576) :
    Calls Tryd.prog 114 #[.pointer (some ⟨a, 0, none⟩), sv s, .int .i64 1, .int .i64 i] w fun e w' => e = .returned (.int .i64 ((getB old 2 : Nat) : Int)) ∧ Fr [] w w' := by
  obtain ⟨g, hg, hcg, hfg, hga, hgl⟩ := h.memBlock (by omega)
  have q := hcg (s.1 + 2 + i / 4) h1
  rw [hold] at q
  have c4 := h.c4
  rw [hg] at c4
  have hal := h.lt a (by simp [foot])
  obtain ⟨p0, L, t⟩ := s
  dsimp only at *
  have hba : ∀ W : World, Calls Tryd.prog 141 #[.agg #[.int .i64 (p0 : Int), .int .i64 (L : Int), .int .i64 (t : Int)], .int .i64 i] W fun e w' => e = .returned (.tuple #[.int .i64 ((p0 + 2 + i / 4 : Nat) : Int), .int .i64 16]) ∧ Fr [] W w' := by
    intro W
    have := byteAt_any (p0, L, t) i W (by dsimp only; omega) hi
    rw [hr] at this
    exact this
  have HB := mkHid hba
  have ha := and255 ((old : Int) / 65536)
  have k1 : ((p0 + 2 + i / 4 : Nat) : Int) < (H.mem.length : Int) := by omega
  have k2 : (0 : Int) ≤ ((p0 + 2 + i / 4 : Nat) : Int) := by omega
  clear h hcg hfg hba hold
  unfold sv
  dsimp only [I]
  generalize hp : p0 + 2 + i / 4 = p at *
  clear hp
  generalize hm : H.mem.length = m at *
  clear hm
  go_enter Tryd.func114, Tryd.ntmps114
  go_wp2_with fail
  refine (HB.out _).mono ?_
  rintro e w1 ⟨rfl, hf1⟩
  have d4 := (hf1.cell (p := ⟨a, 4, none⟩) (by simp; omega) (by simp)).trans ((World.cell?_alloc_lt w _ ⟨a, 4, none⟩ hal).trans c4)
  have dq := (hf1.cell (p := ⟨g, p, none⟩) (by simp; omega) (by simp)).trans ((World.cell?_alloc_lt w _ ⟨g, p, none⟩ hgl).trans q)
  have HF1 := mkHid ((Fr.alloc [] w _).trans hf1 (by simp))
  clear hf1 HB
  go_wp2
  go_ret
  exact ⟨ret_int (by unfold getB; omega), HF1.out⟩
set_option maxRecDepth 20000 in
set_option maxHeartbeats 1000000 in
theorem getB3 (s : Nat × Nat × Nat) (i : Nat) (old : Nat) (a : Nat) (l : Lay) (H : HS) (w : World) (h : Rep w a l H) (h1 : s.1 + 2 + i / 4 < H.mem.length) (hb : (H.mem.length : Int) ≤ 1048576) (hr : i % 4 = 3) (hold : H.mem.getD (s.1 + 2 + i / 4) 0 = (old : Int)) (hi : (i : Int) ≤ 1048576) :
    Calls Tryd.prog 114 #[.pointer (some ⟨a, 0, none⟩), sv s, .int .i64 1, .int .i64 i] w fun e w' => e = .returned (.int .i64 ((getB old 3 : Nat) : Int)) ∧ Fr [] w w' := by
  obtain ⟨g, hg, hcg, hfg, hga, hgl⟩ := h.memBlock (by omega)
  have q := hcg (s.1 + 2 + i / 4) h1
  rw [hold] at q
  have c4 := h.c4
  rw [hg] at c4
  have hal := h.lt a (by simp [foot])
  obtain ⟨p0, L, t⟩ := s
  dsimp only at *
  have hba : ∀ W : World, Calls Tryd.prog 141 #[.agg #[.int .i64 (p0 : Int), .int .i64 (L : Int), .int .i64 (t : Int)], .int .i64 i] W fun e w' => e = .returned (.tuple #[.int .i64 ((p0 + 2 + i / 4 : Nat) : Int), .int .i64 24]) ∧ Fr [] W w' := by
    intro W
    have := byteAt_any (p0, L, t) i W (by dsimp only; omega) hi
    rw [hr] at this
    exact this
  have HB := mkHid hba
  have ha := and255 ((old : Int) / 16777216)
  have k1 : ((p0 + 2 + i / 4 : Nat) : Int) < (H.mem.length : Int) := by omega
  have k2 : (0 : Int) ≤ ((p0 + 2 + i / 4 : Nat) : Int) := by omega
  clear h hcg hfg hba hold
  unfold sv
  dsimp only [I]
  generalize hp : p0 + 2 + i / 4 = p at *
  clear hp
  generalize hm : H.mem.length = m at *
  clear hm
  go_enter Tryd.func114, Tryd.ntmps114
  go_wp2_with fail
  refine (HB.out _).mono ?_
  rintro e w1 ⟨rfl, hf1⟩
  have d4 := (hf1.cell (p := ⟨a, 4, none⟩) (by simp; omega) (by simp)).trans ((World.cell?_alloc_lt w _ ⟨a, 4, none⟩ hal).trans c4)
  have dq := (hf1.cell (p := ⟨g, p, none⟩) (by simp; omega) (by simp)).trans ((World.cell?_alloc_lt w _ ⟨g, p, none⟩ hgl).trans q)
  have HF1 := mkHid ((Fr.alloc [] w _).trans hf1 (by simp))
  clear hf1 HB
  go_wp2
  go_ret
  exact ⟨ret_int (by unfold getB; omega), HF1.out⟩
theorem setB_any (s : Nat × Nat × Nat) (i : Nat) (v : Nat) (old : Nat) (a : Nat) (l : Lay) (H : HS) (w : World) (h : Rep w a l H) (h1 : s.1 + 2 + i / 4 < H.mem.length) (hb : (H.mem.length : Int) ≤ 1048576) (hold : H.mem.getD (s.1 + 2 + i / 4) 0 = (old : Int)) (hi : (i : Int) ≤ 1048576) (hv : (v : Int) ≤ 255) (ho : (old : Int) ≤ 4294967295) :
    Calls Tryd.prog 113 #[.pointer (some ⟨a, 0, none⟩), sv s, .int .i64 1, .int .i64 i, .int .i64 v] w fun e w' => e = .returned (.tuple #[]) ∧ Rep w' a l { H with mem := H.mem.set (s.1 + 2 + i / 4) ((putB old (i % 4) v : Nat) : Int) } ∧ Nx a l l w w' := by
  rcases (show i % 4 = 0 ∨ i % 4 = 1 ∨ i % 4 = 2 ∨ i % 4 = 3 from by omega) with hr | hr | hr | hr
  · rw [hr]; exact setB0 s i v old a l H w h h1 hb hr hold hi hv ho
  · rw [hr]; exact setB1 s i v old a l H w h h1 hb hr hold hi hv ho
  · rw [hr]; exact setB2 s i v old a l H w h h1 hb hr hold hi hv ho
  · rw [hr]; exact setB3 s i v old a l H w h h1 hb hr hold hi hv ho
theorem getB_any (s : Nat × Nat × Nat) (i : Nat) (old : Nat) (a : Nat) (l : Lay) (H : HS) (w : World) (h : Rep w a l H) (h1 : s.1 + 2 + i / 4 < H.mem.length) (hb : (H.mem.length : Int) ≤ 1048576) (hold : H.mem.getD (s.1 + 2 + i / 4) 0 = (old : Int)) (hi : (i : Int) ≤ 1048576) :
    Calls Tryd.prog 114 #[.pointer (some ⟨a, 0, none⟩), sv s, .int .i64 1, .int .i64 i] w fun e w' => e = .returned (.int .i64 ((getB old (i % 4) : Nat) : Int)) ∧ Fr [] w w' := by
  rcases (show i % 4 = 0 ∨ i % 4 = 1 ∨ i % 4 = 2 ∨ i % 4 = 3 from by omega) with hr | hr | hr | hr
  · rw [hr]; exact getB0 s i old a l H w h h1 hb hr hold hi
  · rw [hr]; exact getB1 s i old a l H w h h1 hb hr hold hi
  · rw [hr]; exact getB2 s i old a l H w h h1 hb hr hold hi
  · rw [hr]; exact getB3 s i old a l H w h h1 hb hr hold hi
end Go.Proofs.YtdkbnnhcjaibdaaDoor

namespace Go.Proofs.YtdkbnnhcjaibdaaDoor
open Go.RowKit
set_option linter.unusedVariables false
attribute [local go_sem ↓] Go.wp_at_zero Go.wp_at_succ
set_option maxHeartbeats 400000 in
theorem Mark_no (k : Int) (a : Nat) (l : Lay) (H : HS) (w : World) (h : Rep w a l H) (hk : isM k = false) :
    Calls Tryd.prog 55 #[.pointer (some ⟨a, 0, none⟩), .int .i64 k] w fun e w' => e = .returned (.int .i64 1) ∧ w' = w := by
  have hm := isMark_any k w
  rw [hk] at hm
  have c0 := h.c0
  have HM := mkHid hm
  clear h hm hk
  go_enter Tryd.func55, Tryd.ntmps55
  go_wp2_with (first | (go_at_call 62; refine (made_any _ _ c0).mono ?_; rintro e w' ⟨rfl, rfl⟩) | (go_at_call 68; refine Calls.mono HM.out ?_; rintro e w' ⟨rfl, rfl⟩))
  go_ret
  exact ⟨rfl, rfl⟩
set_option maxRecDepth 20000 in
set_option maxHeartbeats 2000000 in
theorem Put_slot (oop n f : Nat) (i v : Int) (a : Nat) (l : Lay) (H : HS) (w : World) (h : Rep w a l H) (hh : has H oop = true) (hb : (H.mem.length : Int) ≤ 1048576)
    (h4 : (H.seats.getD oop (0, 0, 0)).1 + 1 < H.mem.length) (h5 : H.mem.getD ((H.seats.getD oop (0, 0, 0)).1 + 1) 0 = ((2 * n + f : Nat) : Int)) (hf : (f : Int) ≤ 1) (hi : i < 0 ∨ (n : Int) ≤ i) :
    Calls Tryd.prog 51 #[.pointer (some ⟨a, 0, none⟩), .int .i64 oop, .int .i64 i, .int .i64 v] w fun e w' => e = .returned (.int .i64 21) ∧ Fr [] w w' := by
  obtain ⟨h1, h2, h3⟩ := has_yes hh
  have HSO := mkHid (seatOf_yes oop a l H w h h1 h2 h3)
  obtain ⟨⟨p, L, t⟩, hs⟩ : ∃ s, s = H.seats.getD oop (0, 0, 0) := ⟨_, rfl⟩
  rw [← hs] at HSO h4 h5
  have HSH : Hid (∀ W, Rep W a l H → Calls Tryd.prog 111 #[.pointer (some ⟨a, 0, none⟩), .agg #[.int .i64 (p : Int), .int .i64 (L : Int), .int .i64 (t : Int)]] W fun e w' => e = .returned (.tuple #[.int .i64 (n : Int), .int .i64 (f : Int)]) ∧ Fr [] W w') := by
    intro W hW
    have := shape_of (p, L, t) (2 * n + f) a l H W hW h4 h5 hb
    rw [show (2 * n + f) / 2 = n from by omega, show (2 * n + f) % 2 = f from by omega] at this
    exact this
  have HR := mkHid h
  clear h hs h3 h5 h4 h2 hh
  dsimp only [sv, I] at HSO
  rcases hi with hi | hi
  all_goals
    go_enter Tryd.func51, Tryd.ntmps51
    go_wp2_with fail
    refine Calls.mono HSO.out ?_
    rintro e w1 ⟨rfl, hf1⟩
    have F2 : Fr [] w (w1.alloc (.cells #[.int .i64 (p : Int), .int .i64 (L : Int), .int .i64 (t : Int)] 122)) := hf1.trans (Fr.alloc [] _ _) (by simp)
    have HF2 := mkHid F2
    clear hf1 F2
    go_wp2_with fail
    refine Calls.mono (HSH.out _ (HR.out.keep HF2.out (by simp))) ?_
    rintro e w2 ⟨rfl, hf2⟩
    have HF := mkHid (HF2.out.trans hf2 (by simp))
    clear hf2
    go_wp2
    go_ret
    exact ⟨rfl, HF.out⟩
set_option maxRecDepth 20000 in
set_option maxHeartbeats 2000000 in
theorem At_slot (oop n f : Nat) (i : Int) (a : Nat) (l : Lay) (H : HS) (w : World) (h : Rep w a l H) (hh : has H oop = true) (hb : (H.mem.length : Int) ≤ 1048576)
    (h4 : (H.seats.getD oop (0, 0, 0)).1 + 1 < H.mem.length) (h5 : H.mem.getD ((H.seats.getD oop (0, 0, 0)).1 + 1) 0 = ((2 * n + f : Nat) : Int)) (hf : (f : Int) ≤ 1) (hi : i < 0 ∨ (n : Int) ≤ i) :
    Calls Tryd.prog 53 #[.pointer (some ⟨a, 0, none⟩), .int .i64 oop, .int .i64 i] w fun e w' => e = .returned (.tuple #[.int .i64 0, .int .i64 21]) ∧ Fr [] w w' := by
  obtain ⟨h1, h2, h3⟩ := has_yes hh
  have HSO := mkHid (seatOf_yes oop a l H w h h1 h2 h3)
  obtain ⟨⟨p, L, t⟩, hs⟩ : ∃ s, s = H.seats.getD oop (0, 0, 0) := ⟨_, rfl⟩
  rw [← hs] at HSO h4 h5
  have HSH : Hid (∀ W, Rep W a l H → Calls Tryd.prog 111 #[.pointer (some ⟨a, 0, none⟩), .agg #[.int .i64 (p : Int), .int .i64 (L : Int), .int .i64 (t : Int)]] W fun e w' => e = .returned (.tuple #[.int .i64 (n : Int), .int .i64 (f : Int)]) ∧ Fr [] W w') := by
    intro W hW
    have := shape_of (p, L, t) (2 * n + f) a l H W hW h4 h5 hb
    rw [show (2 * n + f) / 2 = n from by omega, show (2 * n + f) % 2 = f from by omega] at this
    exact this
  have HR := mkHid h
  clear h hs h3 h5 h4 h2 hh
  dsimp only [sv, I] at HSO
  rcases hi with hi | hi
  all_goals
    go_enter Tryd.func53, Tryd.ntmps53
    go_wp2_with fail
    refine Calls.mono HSO.out ?_
    rintro e w1 ⟨rfl, hf1⟩
    have F2 : Fr [] w (w1.alloc (.cells #[.int .i64 (p : Int), .int .i64 (L : Int), .int .i64 (t : Int)] 122)) := hf1.trans (Fr.alloc [] _ _) (by simp)
    have HF2 := mkHid F2
    clear hf1 F2
    go_wp2_with fail
    refine Calls.mono (HSH.out _ (HR.out.keep HF2.out (by simp))) ?_
    rintro e w2 ⟨rfl, hf2⟩
    have HF := mkHid (HF2.out.trans hf2 (by simp))
    clear hf2
    go_wp2
    go_ret2
    exact ⟨rfl, HF.out⟩
set_option maxRecDepth 20000 in
set_option maxHeartbeats 2000000 in
theorem Put_word (oop i n f : Nat) (v : Int) (a : Nat) (l : Lay) (H : HS) (w : World) (h : Rep w a l H) (hh : has H oop = true) (hb : (H.mem.length : Int) ≤ 1048576)
    (h4 : (H.seats.getD oop (0, 0, 0)).1 + 1 < H.mem.length) (h5 : H.mem.getD ((H.seats.getD oop (0, 0, 0)).1 + 1) 0 = ((2 * n + f : Nat) : Int)) (hf : (f : Int) ≤ 1) (hi : (i : Int) < n) (hm : mayB v f = false) (hT : Tab w) :
    Calls Tryd.prog 51 #[.pointer (some ⟨a, 0, none⟩), .int .i64 oop, .int .i64 i, .int .i64 v] w fun e w' => e = .returned (.int .i64 10) ∧ Fr [] w w' := by
  obtain ⟨h1, h2, h3⟩ := has_yes hh
  have hal := h.lt a (by simp [foot])
  have HSO := mkHid (seatOf_yes oop a l H w h h1 h2 h3)
  obtain ⟨⟨p, L, t⟩, hs⟩ : ∃ s, s = H.seats.getD oop (0, 0, 0) := ⟨_, rfl⟩
  rw [← hs] at HSO h4 h5
  have HSH : Hid (∀ W, Rep W a l H → Calls Tryd.prog 111 #[.pointer (some ⟨a, 0, none⟩), .agg #[.int .i64 (p : Int), .int .i64 (L : Int), .int .i64 (t : Int)]] W fun e w' => e = .returned (.tuple #[.int .i64 (n : Int), .int .i64 (f : Int)]) ∧ Fr [] W w') := by
    intro W hW
    have := shape_of (p, L, t) (2 * n + f) a l H W hW h4 h5 hb
    rw [show (2 * n + f) / 2 = n from by omega, show (2 * n + f) % 2 = f from by omega] at this
    exact this
  have HMS : Hid (∀ W, Tab W → Calls Tryd.prog 112 #[.int .i64 v, .int .i64 f] W fun e w' => e = .returned (.bool false) ∧ w' = W) := by
    intro W hW
    have := mayStand_any v f W hW
    rw [hm] at this
    exact this
  have HR := mkHid h
  have HT := mkHid hT
  clear h hs h3 h5 h4 h2 hh hm hT
  dsimp only [sv, I] at HSO
  go_enter Tryd.func51, Tryd.ntmps51
  go_wp2_with fail
  refine Calls.mono HSO.out ?_
  rintro e w1 ⟨rfl, hf1⟩
  have F2 : Fr [] w (w1.alloc (.cells #[.int .i64 (p : Int), .int .i64 (L : Int), .int .i64 (t : Int)] 122)) := hf1.trans (Fr.alloc [] _ _) (by simp)
  have HF2 := mkHid F2
  clear hf1 F2
  go_wp2_with fail
  refine Calls.mono (HSH.out _ (HR.out.keep HF2.out (by simp))) ?_
  rintro e w2 ⟨rfl, hf2⟩
  have HF := mkHid (HF2.out.trans hf2 (by simp))
  clear hf2
  go_wp2_with fail
  refine Calls.mono (HMS.out _ (HT.out.fr HF.out (by omega))) ?_
  rintro e w3 ⟨rfl, hw3⟩
  rw [hw3]
  clear hw3 w3
  go_wp2
  go_ret
  exact ⟨rfl, HF.out⟩
set_option maxRecDepth 20000 in
set_option maxHeartbeats 2000000 in
theorem SetClass_word (oop : Nat) (v : Int) (a : Nat) (l : Lay) (H : HS) (w : World) (h : Rep w a l H) (hh : has H oop = true) (hm : isW v = false) (hT : Tab w) :
    Calls Tryd.prog 58 #[.pointer (some ⟨a, 0, none⟩), .int .i64 oop, .int .i64 v] w fun e w' => e = .returned (.int .i64 10) ∧ Fr [] w w' := by
  obtain ⟨h1, h2, h3⟩ := has_yes hh
  have hal := h.lt a (by simp [foot])
  have HSO := mkHid (seatOf_yes oop a l H w h h1 h2 h3)
  obtain ⟨⟨p, L, t⟩, hs⟩ : ∃ s, s = H.seats.getD oop (0, 0, 0) := ⟨_, rfl⟩
  rw [← hs] at HSO
  have HMS : Hid (∀ W, Tab W → Calls Tryd.prog 106 #[.int .i64 v] W fun e w' => e = .returned (.bool false) ∧ w' = W) := by
    intro W hW
    have := isWord_any v W hW
    rw [hm] at this
    exact this
  have HT := mkHid hT
  clear h hs h3 h2 hh hm hT
  dsimp only [sv, I] at HSO
  go_enter Tryd.func58, Tryd.ntmps58
  go_wp2_with fail
  refine Calls.mono HSO.out ?_
  rintro e w1 ⟨rfl, hf1⟩
  have F2 : Fr [] w (w1.alloc (.cells #[.int .i64 (p : Int), .int .i64 (L : Int), .int .i64 (t : Int)] 122)) := hf1.trans (Fr.alloc [] _ _) (by simp)
  have HF := mkHid F2
  clear hf1 F2
  go_wp2_with fail
  refine Calls.mono (HMS.out _ (HT.out.fr HF.out (by omega))) ?_
  rintro e w3 ⟨rfl, hw3⟩
  rw [hw3]
  clear hw3 w3
  go_wp2
  go_ret
  exact ⟨rfl, HF.out⟩
set_option maxRecDepth 20000 in
set_option maxHeartbeats 2000000 in
theorem SetClass_ok (oop : Nat) (v : Int) (a : Nat) (l : Lay) (H : HS) (w : World) (h : Rep w a l H) (hh : has H oop = true) (hv : isW v = true) (hT : Tab w) (hm : (H.seats.getD oop (0, 0, 0)).1 < H.mem.length) (hb : (H.mem.length : Int) ≤ 1048576) :
    Calls Tryd.prog 58 #[.pointer (some ⟨a, 0, none⟩), .int .i64 oop, .int .i64 v] w fun e w' => e = .returned (.int .i64 0) ∧ Rep w' a l { H with mem := H.mem.set (H.seats.getD oop (0, 0, 0)).1 v } ∧ Nx a l l w w' := by
  obtain ⟨h1, h2, h3⟩ := has_yes hh
  have hal := h.lt a (by simp [foot])
  have HSO := mkHid (seatOf_yes oop a l H w h h1 h2 h3)
  obtain ⟨g, hg, hcg, hfg, hga, hgl⟩ := h.memBlock (by omega)
  have q := hcg _ hm
  have fq := hfg (H.seats.getD oop (0, 0, 0)).1
  have c4 := h.c4
  rw [hg] at c4
  obtain ⟨⟨p, L, t⟩, hs⟩ : ∃ s, s = H.seats.getD oop (0, 0, 0) := ⟨_, rfl⟩
  rw [← hs] at HSO hm q fq
  rw [← hs]
  dsimp only [sv, I] at *
  have HMS : Hid (∀ W, Tab W → Calls Tryd.prog 106 #[.int .i64 v] W fun e w' => e = .returned (.bool true) ∧ w' = W) := by
    intro W hW
    have := isWord_any v W hW
    rw [hv] at this
    exact this
  have HE : Hid (∀ W W', Fr [] w W → Eqw (W.setCell ⟨g, p, none⟩ (.int .i64 v)) W' → Rep W' a l { H with mem := H.mem.set p v } ∧ Nx a l l w W') := by
    intro W W' hW he
    have K := (h.keep hW (by simp)).setMem hg p hm _ W' he
    exact ⟨K.1, (Nx.frw (hW.mono (by simp))).trans K.2⟩
  have HT := mkHid hT
  have k1 : (0 : Int) ≤ (p : Int) := by omega
  have k2 : (p : Int) < (H.mem.length : Int) := by omega
  clear h hs h3 h2 hh hv hT hcg hfg
  generalize H.mem.getD p 0 = old at *
  generalize hmm : H.mem.length = m at *
  clear hmm
  go_enter Tryd.func58, Tryd.ntmps58
  go_wp2_with fail
  refine Calls.mono HSO.out ?_
  rintro e w1 ⟨rfl, hf1⟩
  have z1 := hf1.size
  obtain ⟨o3, ho3⟩ : ∃ o3, o3 = Obj.cells #[.int .i64 (p : Int), .int .i64 (L : Int), .int .i64 (t : Int)] 122 := ⟨_, rfl⟩
  have D4 := (World.cell?_alloc_lt w1 o3 ⟨a, 4, none⟩ (by show a < _; omega)).trans ((hf1.cell (p := ⟨a, 4, none⟩) hal (by simp)).trans c4)
  have DQ := (World.cell?_alloc_lt w1 o3 ⟨g, p, none⟩ (by show g < _; omega)).trans ((hf1.cell (p := ⟨g, p, none⟩) hgl (by simp)).trans q)
  have DF := (World.frozen?_alloc_old w1 o3 ⟨g, p, none⟩ (by show g ≠ _; omega)).trans ((hf1.frozen (p := ⟨g, p, none⟩) hgl (by simp)).trans fq)
  have hn3 := heap_alloc_new w1 o3
  rw [ho3] at hn3
  have T0 := cell_in hn3 0
  rw [← ho3] at T0
  simp only [List.getElem?_toArray, List.getElem?_cons_zero] at T0
  have HF := mkHid (hf1.trans (Fr.alloc [] w1 o3) (by simp))
  have dg : g ≠ w1.heap.size := by omega
  clear hf1 hn3
  go_wp2_with fail
  rw [← ho3]
  clear ho3
  generalize w1.alloc o3 = w3 at *
  refine Calls.mono (HMS.out _ (HT.out.fr HF.out (by omega))) ?_
  rintro e w4 ⟨rfl, hw4⟩
  rw [hw4]
  clear hw4 w4
  go_wp2
  go_region
  all_goals go_wp2
  all_goals
    go_ret
    exact ⟨rfl, HE.out _ _ HF.out (eqw_drew _)⟩
end Go.Proofs.YtdkbnnhcjaibdaaDoor

namespace Go.Proofs.YtdkbnnhcjaibdaaDoor
open Go.RowKit
set_option linter.unusedVariables false
attribute [local go_sem ↓] Go.wp_at_zero Go.wp_at_succ
structure DrawOk (H : HS) (t e : Nat) : Prop where
  t1 : t ≤ H.order.length
  t2 : ∀ j, t ≤ j → j < H.order.length → H.order.getD j 0 = 0
  t3 : 0 < t → H.order.getD (t - 1) 0 ≠ 0 ∧ H.order.getD (t - 1) 0 < H.seats.length ∧ e = (H.seats.getD (H.order.getD (t - 1) 0) (0, 0, 0)).1 + (H.seats.getD (H.order.getD (t - 1) 0) (0, 0, 0)).2.1
  t4 : t = 0 → e = 0
  e1 : e ≤ H.mem.length
  e2 : H.mem = H.mem.take e ++ List.replicate (H.mem.length - e) 0
  m1 : H.mem.length ≤ 1048576
  r1 : H.order.length ≤ 1048576
  s1 : H.seats.length ≤ 65538
def drawH (H : HS) (t e : Nat) : HS := { H with mem := H.mem.take e, order := H.order.take t }
theorem drawn_t {H : HS} {t e k : Nat} (h : DrawOk H t e) (hk : k ≤ H.order.length) (hz : ∀ j, k ≤ j → j < H.order.length → H.order.getD j 0 = 0) (hs : 0 < k → H.order.getD (k - 1) 0 ≠ 0) : k = t := by
  rcases Nat.lt_trichotomy k t with h1 | h1 | h1
  · have h2 := (h.t3 (by omega)).1
    exact absurd (hz (t - 1) (by omega) (by have := h.t1; omega)) h2
  · exact h1
  · exact absurd (h.t2 (k - 1) (by omega) (by omega)) (hs (by omega))
set_option maxRecDepth 20000 in
set_option maxHeartbeats 2000000 in
theorem drawEnd_ok (t e : Nat) (a : Nat) (l : Lay) (H : HS) (w : World) (h : Rep w a l H) (hd : DrawOk H t e) :
    Calls Tryd.prog 104 #[.pointer (some ⟨a, 0, none⟩)] w fun x w' => x = .returned (.tuple #[]) ∧ Rep w' a l (drawH H t e) ∧ Nx a l l w w' := by
  have hal := h.lt a (by simp [foot])
  have c6 := h.c6
  have hr1 := hd.r1
  have HD := mkHid hd
  have HR := mkHid h
  clear hd h
  go_enter Tryd.func104, Tryd.ntmps104
  go_wp2
  go_loop [2] (fun q => ∃ k : Nat, k ≤ H.order.length ∧ q = .int .i64 k ∧ Hid (∀ j, k ≤ j → j < H.order.length → H.order.getD j 0 = 0)) (fun q => (intOf q).toNat)
  case atStart => exact ⟨H.order.length, Nat.le_refl _, rfl, fun j h1 h2 => by omega⟩
  case round =>
    obtain ⟨k, hkn, rfl, hz⟩ := hrel
    by_cases hcont : 0 < k ∧ H.order.getD (k - 1) 0 = 0
    · obtain ⟨hk0, hk1⟩ := hcont
      obtain ⟨go, hgo, hco, hfo, hgoa, hgol⟩ := HR.out.orderAt (k - 1) (by omega)
      have o1 := hco (k - 1) (by omega)
      rw [hk1] at o1
      rw [hgo] at c6
      have e1 : ((k : Int) - 1).toNat = k - 1 := by omega
      have e2 : (k : Int) - 1 = ((k - 1 : Nat) : Int) := by omega
      have k1 : (0 : Int) < (k : Int) := by omega
      have k2 : (0 : Int) ≤ (k : Int) - 1 := by omega
      have k3 : (k : Int) - 1 < (H.order.length : Int) := by omega
      have HN : Hid (∀ j, k - 1 ≤ j → j < H.order.length → H.order.getD j 0 = 0) := by
        intro j h1 h2
        by_cases hj : j = k - 1
        · rw [hj]; exact hk1
        · exact hz.out j (by omega) h2
      have HE2 := mkHid e2
      clear hco hfo hk1 e2
      go_wp2
      go_round
      case rel => exact ⟨k - 1, by omega, by rw [← HE2.out], HN⟩
      case measure => simp [intOf]; omega
    · have hkt : k = t := drawn_t HD.out hkn hz.out (fun hp hq => hcont ⟨hp, hq⟩)
      subst hkt
      have he1 := HD.out.e1
      have hm1 := HD.out.m1
      have ht1 := HD.out.t1
      have HRD : Hid (∀ W, Rep W a l H → ∀ W', Eqw ((W.setCell ⟨a, 6, none⟩ (.slice l.po k l.co)).setCell ⟨a, 4, none⟩ (.slice l.pm e l.cm)) W' → Rep W' a l (drawH H k e) ∧ Nx a l l W W') := fun W hW W' he => hW.cut HD.out.t1 HD.out.e1 HD.out.e2 W' he
      by_cases hk0 : 0 < k
      · obtain ⟨n1, n2, n3⟩ := HD.out.t3 hk0
        obtain ⟨go, hgo, hco, hfo, hgoa, hgol⟩ := HR.out.orderAt (k - 1) (by omega)
        have o1 := hco (k - 1) (by omega)
        have c6' := c6
        rw [hgo] at c6'
        have hb : ((H.order.getD (k - 1) 0 : Int) == 0) = false := by simpa using n1
        have e1 : ((k : Int) - 1).toNat = k - 1 := by omega
        have k1 : (0 : Int) < (k : Int) := by omega
        have k2 : (0 : Int) ≤ (k : Int) - 1 := by omega
        have k3 : (k : Int) - 1 < (H.order.length : Int) := by omega
        obtain ⟨gs, hgs, hcs, hfs, hgsa, hgsl⟩ := HR.out.seatAt _ n2
        obtain ⟨q0, q1, q2⟩ := hcs _ n2
        have c5 := HR.out.c5
        rw [hgs] at c5
        simp only [I] at q0 q1 q2
        clear hco hfo hcs hfs n1 hcont
        generalize H.order.getD (k - 1) 0 = o at *
        generalize (H.seats.getD o (0, 0, 0)).1 = y0 at *
        generalize (H.seats.getD o (0, 0, 0)).2.1 = y1 at *
        generalize (H.seats.getD o (0, 0, 0)).2.2 = y2 at *
        have m0 : (0 : Int) ≤ (o : Int) := by omega
        have m1 : (o : Int) < (H.seats.length : Int) := by omega
        have N3 := mkHid n3
        have hy : (y0 : Int) + (y1 : Int) ≤ 1048576 := by omega
        clear n3 c6
        have c6 := c6'
        clear c6'
        go_upto_if 26 with (fail)
        go_cut [3] (fun q W => q = .int .i64 (e : Int) ∧ Hid (Rep W a l H ∧ Nx a l l w W))
        case first =>
          go_wp2
          go_region
          all_goals go_wp2
          all_goals
            go_meet
            case rel => exact ⟨by rw [N3.out]; go_num, ((HR.out.alloc _).eqw (eqw_drew _)), (Nx.frw (Fr.alloc _ _ _)).eqw (eqw_drew _)⟩
        case rest =>
          obtain ⟨w2, hw2⟩ : ∃ w2, w2 = wc := ⟨_, rfl⟩
          subst hw2
          obtain ⟨rfl, hcut2⟩ := hcut
          clear q0 q1 q2 c5 c6 o1 hgo hgs
          have hr := hcut2.out.1
          have hx := hcut2.out.2
          have HE : Hid (∀ W', Eqw ((w2.setCell ⟨a, 6, none⟩ (.slice l.po k l.co)).setCell ⟨a, 4, none⟩ (.slice l.pm e l.cm)) W' → Rep W' a l (drawH H k e) ∧ Nx a l l w W') := by
            intro W' he
            have K := HRD.out _ hr W' he
            exact ⟨K.1, hx.trans K.2⟩
          have d4 := hr.c4
          have d6 := hr.c6
          have f4 := hr.frozen 4
          have f6 := hr.frozen 6
          have hcm := hr.ml
          have hco : k ≤ l.co ∧ (l.po = none → l.co = 0) ∧ (∀ ad, l.po = some ad → ∃ g, ad = ⟨g, 0, none⟩) := by
            have := hr.order
            rcases this.2 with ⟨q, q0⟩ | ⟨g, cap, cur, q1, q2, q3, q4, q5, q6, q7⟩
            · injection q with q1 q2 q3
              rw [q1, q3]
              exact ⟨by omega, (fun _ => rfl), (fun ad h => by cases h)⟩
            · injection q1 with q1 q1b q1c
              rw [q1, q1c]
              exact ⟨by omega, (fun h => by cases h), (fun ad h => ⟨g, by injection h with h; exact h.symm⟩)⟩
          have hpm : (l.pm = none → l.cm = 0) ∧ (∀ ad, l.pm = some ad → ∃ g, ad = ⟨g, 0, none⟩) := by
            have := hr.mem
            rcases this.2 with ⟨q, q0⟩ | ⟨g, cap, cur, q1, q2, q3, q4, q5, q6, q7⟩
            · injection q with q1 q2 q3
              rw [q1, q3]
              exact ⟨(fun _ => rfl), (fun ad h => by cases h)⟩
            · injection q1 with q1 q1b q1c
              rw [q1]
              exact ⟨(fun h => by cases h), (fun ad h => ⟨g, by injection h with h; exact h.symm⟩)⟩
          obtain ⟨hco1, hco2, hco3⟩ := hco
          obtain ⟨hpm1, hpm2⟩ := hpm
          have u1 : (0 : Int) ≤ (k : Int) := by omega
          have u2 : (k : Int) ≤ (l.co : Int) := by omega
          have u3 : (0 : Int) ≤ (e : Int) := by omega
          have u4 : (e : Int) ≤ (l.cm : Int) := by omega
          clear hr hx HRD HR HD hz
          obtain ⟨pm, cm, ps, cs, po, co, pb, cb⟩ := l
          dsimp only at *
          rcases po with _ | ado
          · have hc0 : co = 0 := hco2 rfl
            omega
          · obtain ⟨go2, rfl⟩ := hco3 ado rfl
            rcases pm with _ | adm
            · have e3 : cm = 0 := hpm1 rfl
              have e4 : e = 0 := by omega
              subst e3 e4
              clear hco2 hco3 hpm1 hpm2
              go_wp2
              go_region
              all_goals go_wp2
              all_goals
                go_end0
                refine ⟨rfl, HE.out _ ?_⟩
                exact eqw_drew _
            · obtain ⟨gm, rfl⟩ := hpm2 adm rfl
              clear hco2 hco3 hpm1 hpm2
              go_wp2
              go_region
              all_goals go_wp2
              all_goals
                go_end0
                refine ⟨rfl, HE.out _ ?_⟩
                exact eqw_drew _
      · have hk1 : k = 0 := by omega
        subst hk1
        have he0 : e = 0 := HD.out.t4 rfl
        subst he0
        clear c6
        have hr := HR.out
        have hx := Nx.refl a l w
        have HE : Hid (∀ W', Eqw ((w.setCell ⟨a, 6, none⟩ (.slice l.po 0 l.co)).setCell ⟨a, 4, none⟩ (.slice l.pm 0 l.cm)) W' → Rep W' a l (drawH H 0 0) ∧ Nx a l l w W') := by
          intro W' he
          have K := HRD.out _ hr W' he
          exact ⟨K.1, hx.trans K.2⟩
        have d4 := hr.c4
        have d6 := hr.c6
        have f4 := hr.frozen 4
        have f6 := hr.frozen 6
        have hcm := hr.ml
        have hco : 0 ≤ l.co ∧ (l.po = none → l.co = 0) ∧ (∀ ad, l.po = some ad → ∃ g, ad = ⟨g, 0, none⟩) := by
          have := hr.order
          rcases this.2 with ⟨q, q0⟩ | ⟨g, cap, cur, q1, q2, q3, q4, q5, q6, q7⟩
          · injection q with q1 q2 q3
            rw [q1, q3]
            exact ⟨by omega, (fun _ => rfl), (fun ad h => by cases h)⟩
          · injection q1 with q1 q1b q1c
            rw [q1, q1c]
            exact ⟨by omega, (fun h => by cases h), (fun ad h => ⟨g, by injection h with h; exact h.symm⟩)⟩
        have hpm : (l.pm = none → l.cm = 0) ∧ (∀ ad, l.pm = some ad → ∃ g, ad = ⟨g, 0, none⟩) := by
          have := hr.mem
          rcases this.2 with ⟨q, q0⟩ | ⟨g, cap, cur, q1, q2, q3, q4, q5, q6, q7⟩
          · injection q with q1 q2 q3
            rw [q1, q3]
            exact ⟨(fun _ => rfl), (fun ad h => by cases h)⟩
          · injection q1 with q1 q1b q1c
            rw [q1]
            exact ⟨(fun h => by cases h), (fun ad h => ⟨g, by injection h with h; exact h.symm⟩)⟩
        obtain ⟨hco1, hco2, hco3⟩ := hco
        obtain ⟨hpm1, hpm2⟩ := hpm
        have u1 : (0 : Int) ≤ (0 : Int) := by omega
        have u2 : (0 : Int) ≤ (l.co : Int) := by omega
        have u3 : (0 : Int) ≤ ((0 : Nat) : Int) := by omega
        have u4 : ((0 : Nat) : Int) ≤ (l.cm : Int) := by omega
        clear hr hx HRD HR HD hz
        obtain ⟨pm, cm, ps, cs, po, co, pb, cb⟩ := l
        dsimp only at *
        rcases po with _ | ado
        · have hc0 : co = 0 := hco2 rfl
          subst hc0
          rcases pm with _ | adm
          · have e3 : cm = 0 := hpm1 rfl
            subst e3
            clear hco2 hco3 hpm1 hpm2
            go_wp2
            go_region
            all_goals go_wp2
            all_goals
              go_end0
              refine ⟨rfl, HE.out _ ?_⟩
              exact eqw_drew _
          · obtain ⟨gm, rfl⟩ := hpm2 adm rfl
            clear hco2 hco3 hpm1 hpm2
            go_wp2
            go_region
            all_goals go_wp2
            all_goals
              go_end0
              refine ⟨rfl, HE.out _ ?_⟩
              exact eqw_drew _
        · obtain ⟨go2, rfl⟩ := hco3 ado rfl
          rcases pm with _ | adm
          · have e3 : cm = 0 := hpm1 rfl
            subst e3
            clear hco2 hco3 hpm1 hpm2
            go_wp2
            go_region
            all_goals go_wp2
            all_goals
              go_end0
              refine ⟨rfl, HE.out _ ?_⟩
              exact eqw_drew _
          · obtain ⟨gm, rfl⟩ := hpm2 adm rfl
            clear hco2 hco3 hpm1 hpm2
            go_wp2
            go_region
            all_goals go_wp2
            all_goals
              go_end0
              refine ⟨rfl, HE.out _ ?_⟩
              exact eqw_drew _
set_option maxRecDepth 20000 in
set_option maxHeartbeats 2000000 in
theorem Free_ok (oop t e : Nat) (a : Nat) (l : Lay) (H : HS) (w : World) (h : Rep w a l H) (hh : has H oop = true) (hv : VacOk H oop) (hd : DrawOk (vacH H oop) t e) (hage : (H.age : Int) ≤ 1000000000) :
    Calls Tryd.prog 56 #[.pointer (some ⟨a, 0, none⟩), .int .i64 oop] w fun x w' => x = .returned (.int .i64 0) ∧ Rep w' a l { drawH (vacH H oop) t e with age := H.age + 1 } ∧ Nx a l l w w' := by
  obtain ⟨h1, h2, h3⟩ := has_yes hh
  have HSO := mkHid (seatOf_yes oop a l H w h h1 h2 h3)
  obtain ⟨⟨p, L, t'⟩, hs⟩ : ∃ s, s = H.seats.getD oop (0, 0, 0) := ⟨_, rfl⟩
  rw [← hs] at HSO
  have HV := mkHid (fun W (hW : Rep W a l H) => vacate_ok oop a l H W hW hv)
  have HDR := mkHid (fun W (hW : Rep W a l (vacH H oop)) => drawEnd_ok t e a l (vacH H oop) W hW hd)
  have HAG : Hid ((drawH (vacH H oop) t e).age = H.age) := rfl
  have HR := mkHid h
  clear h hs h1 h2 h3 hh hv hd
  dsimp only [sv, I] at HSO
  generalize drawH (vacH H oop) t e = HX at *
  generalize vacH H oop = HV0 at *
  go_enter Tryd.func56, Tryd.ntmps56
  go_wp2_with fail
  refine Calls.mono HSO.out ?_
  rintro x w1 ⟨rfl, hf1⟩
  have F2 : Fr [] w (w1.alloc (.cells #[.int .i64 (p : Int), .int .i64 (L : Int), .int .i64 (t' : Int)] 122)) := hf1.trans (Fr.alloc [] _ _) (by simp)
  have HF2 := mkHid F2
  clear hf1 F2 HSO
  go_wp2_with fail
  refine Calls.mono (HV.out _ (HR.out.keep HF2.out (by simp))) ?_
  rintro x w2 ⟨rfl, hr2, hx2⟩
  have HR2 := mkHid hr2
  have HX2 := mkHid ((Nx.frw (HF2.out.mono (by simp)) : Nx a l l w _).trans hx2)
  clear hr2 hx2 HV HF2
  go_wp2_with fail
  refine Calls.mono (HDR.out _ HR2.out) ?_
  rintro x w3 ⟨rfl, hr3, hx3⟩
  have d10 := hr3.c10
  have f10 := hr3.frozen 10
  rw [HAG.out] at d10
  have HF : Hid (∀ W, Eqw (w3.setCell ⟨a, 10, none⟩ (.int .i64 ((H.age : Int) + 1))) W → Rep W a l { HX with age := H.age + 1 } ∧ Nx a l l w W) := by
    intro W he
    have K := hr3.set (H' := { HX with age := H.age + 1 }) 10 (.int .i64 ((H.age : Int) + 1)) rfl rfl rfl rfl rfl
    exact ⟨K.eqw he, ((HX2.out.trans hx3).trans (Nx.fr (Fr.setCell (S := [a]) _ _ _ (by simp)))).eqw he⟩
  clear hr3 hx3 HDR HR2
  go_wp2
  go_ret
  exact ⟨rfl, HF.out _ ⟨rfl, rfl, rfl, rfl⟩⟩
end Go.Proofs.YtdkbnnhcjaibdaaDoor

namespace Go.Proofs.YtdkbnnhcjaibdaaDoor
open Go.RowKit
set_option linter.unusedVariables false
attribute [local go_sem ↓] Go.wp_at_zero Go.wp_at_succ
def allTo (H : HS) (k : Nat) : List Nat := (List.range k).filter fun o => 0 < (H.seats.getD o (0, 0, 0)).2.1
theorem allTo_succ (H : HS) (k : Nat) : allTo H (k + 1) = allTo H k ++ (if 0 < (H.seats.getD k (0, 0, 0)).2.1 then [k] else []) := by
  unfold allTo
  rw [List.range_succ, List.filter_append]
  congr 1
  by_cases h : 0 < (H.seats.getD k (0, 0, 0)).2.1
  · rw [if_pos h, List.filter_cons_of_pos (by simpa using h)]; rfl
  · rw [if_neg h, List.filter_cons_of_neg (by simpa using h)]; rfl
theorem allTo_len (H : HS) (k : Nat) : (allTo H k).length ≤ k := by
  have := List.length_filter_le (fun o => decide (0 < (H.seats.getD o (0, 0, 0)).2.1)) (List.range k)
  unfold allTo
  rwa [List.length_range] at this
set_option maxRecDepth 20000 in
set_option maxHeartbeats 2000000 in
theorem All_ok (a : Nat) (l : Lay) (H : HS) (w : World) (h : Rep w a l H) (hs : (H.seats.length : Int) ≤ 65538) :
    Calls Tryd.prog 15 #[.pointer (some ⟨a, 0, none⟩)] w fun e w' => ∃ v, e = .returned v ∧ w'.ownsRow w.heap.size 3 1 v (allTo H H.seats.length).length ((allTo H H.seats.length).map I) ∧ Fr [] w w' := by
  have c0 := h.c0
  have c5 := h.c5
  have hal := h.lt a (by simp [foot])
  obtain ⟨j0, ji, jz0, jz1, jz2⟩ := info_parts info3
  have HR := mkHid h
  clear h
  go_enter Tryd.func15, Tryd.ntmps15
  go_wp2_with (go_at_call 62; refine (made_any _ _ c0).mono ?_; rintro e w1 ⟨rfl, hw1⟩; rw [hw1]; clear hw1 w1)
  go_loopw [3, 14] (fun v q wr => ∃ k : Nat, k ≤ H.seats.length ∧ q = .int .i64 k ∧ wr.ownsRow w.heap.size 3 1 v (allTo H k).length ((allTo H k).map I) ∧ Hid (Fr [] w wr)) (fun _ q _ => H.seats.length - (intOf q).toNat)
  case atStart => exact ⟨0, Nat.zero_le _, rfl, World.ownsRow_nil _ _ _ _, Fr.refl _ _⟩
  case round =>
    obtain ⟨k, hkn, rfl, hown, hfr⟩ := hrel
    by_cases hlt : k < H.seats.length
    · have hr := HR.out.keep hfr.out (by simp)
      obtain ⟨gs, hgs, hcs, hfs, hgsa, hgsl⟩ := hr.seatAt k hlt
      obtain ⟨q0, q1, q2⟩ := hcs k hlt
      simp only [I] at q0 q1 q2
      have hsu := allTo_succ H k
      have hle := allTo_len H k
      rw [hgs]
      have k1 : (0 : Int) ≤ (k : Int) := by omega
      have k2 : (k : Int) < (H.seats.length : Int) := by omega
      have hz := hfr.out.size
      clear hr hcs hfs c5 c0 hgs
      generalize (H.seats.getD k (0, 0, 0)).1 = y0 at *
      generalize (H.seats.getD k (0, 0, 0)).2.1 = y1 at *
      generalize (H.seats.getD k (0, 0, 0)).2.2 = y2 at *
      have HSU := mkHid hsu
      clear hsu
      generalize hX : allTo H k = X at *
      clear hX
      by_cases hy : 0 < y1
      · have hy' : (0 : Int) < (y1 : Int) := by omega
        have HS2 := HSU.out
        rw [if_pos hy] at HS2
        have HS3 := mkHid HS2
        clear HS2 HSU hy
        have hown2 := (hown.alloc (.cells #[.int .i64 (y0 : Int), .int .i64 (y1 : Int), .int .i64 (y2 : Int)] 122)).alloc (.cells #[.int .i64 (k : Int)] 3)
        have HFA : Hid (Fr [] w ((wr.alloc (.cells #[.int .i64 (y0 : Int), .int .i64 (y1 : Int), .int .i64 (y2 : Int)] 122)).alloc (.cells #[.int .i64 (k : Int)] 3))) := (hfr.out.trans (Fr.alloc [] _ _) (by simp)).trans (Fr.alloc [] _ _) (by simp)
        clear hown
        go_wp2_with (first
          | (at_builtin; refine wpList_append_own _ rfl (.tmp 22) (.tmp 24) 36 rfl w.heap.size 3 j0 (.int .i64 0) 1 8 Tryd.underlying36 ji jz0 jz1 jz2 rfl (by decide) _ _ _ rfl hown2 ⟨wr.heap.size + 1, 0, none⟩ 1 1 [.int .i64 (k : Int)] rfl rfl ?c1 ?c2 ?c3 ?c4 ?c5 ?_)
          | go_in)
        case c1 =>
          have := World.news_of_block (heap_alloc_new (wr.alloc (.cells #[.int .i64 (y0 : Int), .int .i64 (y1 : Int), .int .i64 (y2 : Int)] 122)) (.cells #[.int .i64 (k : Int)] 3))
          simpa using this
        case c2 => intro u hu; simp at hu; subst hu; rfl
        case c3 => unfold maxLen; omega
        case c4 => omega
        case c5 => simp; omega
        intro v' w1 hown' hgrow _
        have HG : Hid (Fr [] w w1) := by
          refine ⟨hgrow.os.trans HFA.out.os, hgrow.tape.trans HFA.out.tape, hgrow.output.trans HFA.out.output, Nat.le_trans HFA.out.size hgrow.size, fun i hi hn => ?_⟩
          rw [hgrow.block i (Nat.lt_of_lt_of_le hi HFA.out.size) (fun e => ?_)]
          · exact HFA.out.block i hi hn
          · have := (hown2.lt i e.symm).1
            omega
        have HO := mkHid hown'
        clear hown' hgrow hown2 HFA
        go_wp2
        go_roundw
        case rel => exact ⟨k + 1, by omega, by go_num, by rw [HS3.out]; simpa [I] using HO.out, HG⟩
        case measure => simp [intOf]; omega
      · have hy' : (y1 : Int) ≤ 0 := by omega
        have HS2 := HSU.out
        rw [if_neg hy, List.append_nil] at HS2
        have HS3 := mkHid HS2
        have HO := mkHid (hown.alloc (.cells #[.int .i64 (y0 : Int), .int .i64 (y1 : Int), .int .i64 (y2 : Int)] 122))
        have HFA : Hid (Fr [] w (wr.alloc (.cells #[.int .i64 (y0 : Int), .int .i64 (y1 : Int), .int .i64 (y2 : Int)] 122))) := hfr.out.trans (Fr.alloc [] _ _) (by simp)
        clear HS2 HSU hy hown
        go_wp2
        go_roundw
        case rel => exact ⟨k + 1, by omega, by go_num, by rw [HS3.out]; exact HO.out, HFA⟩
        case measure => simp [intOf]; omega
    · have hke : k = H.seats.length := by omega
      subst hke
      have HO := mkHid hown
      clear hown c5 c0
      go_wp2
      go_ret
      exact ⟨_, rfl, HO.out, hfr.out⟩
end Go.Proofs.YtdkbnnhcjaibdaaDoor

