import Derived.Test.YtpaekbghnejhoaaDoorEG04HGet
namespace Go.Proofs.YtpaekbghnejhoaaDoor
open Go.RowKit
set_option linter.unusedVariables false
attribute [local go_sem ↓] Go.wp_at_zero Go.wp_at_succ
def putB (m r v : Nat) : Nat := m / 2 ^ (8 * r + 8) * 2 ^ (8 * r + 8) + v * 2 ^ (8 * r) + m % 2 ^ (8 * r)
def getB (m r : Nat) : Nat := m / 2 ^ (8 * r) % 256
theorem mask_bit (s i : Nat) : (255 * 2 ^ s).testBit i = (decide (s ≤ i) && decide (i - s < 8)) := by
  rw [Nat.testBit_mul_two_pow, show (255 : Nat) = 2 ^ 8 - 1 from rfl, Nat.testBit_two_pow_sub_one]
theorem put_gen (m v s : Nat) (hm : m < 2 ^ 32) (hv : v < 2 ^ 8) (hs : s ≤ 24) : (m &&& (18446744073709551615 - 255 * 2 ^ s)) ||| (v * 2 ^ s) = m / 2 ^ (s + 8) * 2 ^ (s + 8) + v * 2 ^ s + m % 2 ^ s := by
  have hp : 2 ^ s ≤ 2 ^ 24 := Nat.pow_le_pow_right (by omega) hs
  have hp0 : 0 < 2 ^ s := Nat.pow_pos (by omega)
  have hmod : m % 2 ^ s < 2 ^ s := Nat.mod_lt _ hp0
  have e1 : v * 2 ^ s + m % 2 ^ s = v <<< s ||| m % 2 ^ s := by
    rw [← Nat.shiftLeft_add_eq_or_of_lt hmod, Nat.shiftLeft_eq]
  have hlt : v * 2 ^ s + m % 2 ^ s < 2 ^ (s + 8) := by
    rw [Nat.pow_add]
    have : v * 2 ^ s ≤ 255 * 2 ^ s := Nat.mul_le_mul_right _ (by omega)
    omega
  have e2 : m / 2 ^ (s + 8) * 2 ^ (s + 8) + (v * 2 ^ s + m % 2 ^ s) = (m / 2 ^ (s + 8)) <<< (s + 8) ||| (v * 2 ^ s + m % 2 ^ s) := by
    rw [← Nat.shiftLeft_add_eq_or_of_lt hlt, Nat.shiftLeft_eq]
  rw [Nat.add_assoc, e2, e1]
  apply Nat.eq_of_testBit_eq
  intro i
  have hv8 : ∀ k, 8 ≤ k → v.testBit k = false := fun k hk => Nat.testBit_lt_two_pow (Nat.lt_of_lt_of_le hv (Nat.pow_le_pow_right (by omega) hk))
  have hm32 : ∀ k, 32 ≤ k → m.testBit k = false := fun k hk => Nat.testBit_lt_two_pow (Nat.lt_of_lt_of_le hm (Nat.pow_le_pow_right (by omega) hk))
  have hmk : 255 * 2 ^ s < 2 ^ 64 := by omega
  rw [Nat.testBit_or, Nat.testBit_and, show 18446744073709551615 - 255 * 2 ^ s = 2 ^ 64 - (255 * 2 ^ s + 1) from by omega, Nat.testBit_two_pow_sub_succ hmk, mask_bit, Nat.testBit_mul_two_pow,
    Nat.testBit_or, Nat.testBit_or, Nat.testBit_shiftLeft, Nat.testBit_shiftLeft, Nat.testBit_div_two_pow, Nat.testBit_mod_two_pow]
  by_cases h1 : s + 8 ≤ i
  · have a1 : s ≤ i := by omega
    have a2 : ¬ i - s < 8 := by omega
    have a3 : ¬ i < s := by omega
    rw [show i - (s + 8) + (s + 8) = i from by omega, hv8 (i - s) (by omega)]
    by_cases h64 : i < 64
    · simp [a1, a2, a3, h1, h64]
    · simp [hm32 i (by omega)]
  · by_cases h2 : s ≤ i
    · have a2 : i - s < 8 := by omega
      have a3 : ¬ i < s := by omega
      simp [h1, h2, a2, a3]
    · have a3 : i < s := by omega
      have a4 : i < 64 := by omega
      simp [h1, h2, a3, a4]
theorem put_int (m v r : Nat) (hm : m < 4294967296) (hv : v < 256) (hr : r ≤ 3) (M P : Int) (hM : M = ((255 * 2 ^ (8 * r) : Nat) : Int)) (hP : P = ((v * 2 ^ (8 * r) : Nat) : Int)) :
    Go.bits .or .i64 (Go.bits .andNot .i64 (m : Int) M) P = ((putB m r v : Nat) : Int) := by
  have hp : 2 ^ (8 * r) ≤ 2 ^ 24 := Nat.pow_le_pow_right (by omega) (by omega)
  have hle : m &&& (18446744073709551615 - 255 * 2 ^ (8 * r)) ≤ m := Nat.and_le_left
  have hvp : v * 2 ^ (8 * r) ≤ 255 * 2 ^ 24 := Nat.mul_le_mul (by omega) hp
  rw [hM, hP, andNot_i64 m _ (by omega) (by omega), or_i64 _ _ (by omega) (by omega), put_gen m v (8 * r) (by omega) (by omega) (by omega)]
  rfl
set_option maxRecDepth 20000 in
set_option maxHeartbeats 1000000 in
theorem setB0 (s : Nat × Nat × Nat) (i : Nat) (v : Nat) (old : Nat) (a : Nat) (l : Lay) (H : HS) (w : World) (h : Rep w a l H) (h1 : s.1 + 2 + i / 4 < H.mem.length) (hb : (H.mem.length : Int) ≤ 1048576) (hr : i % 4 = 0) (hold : H.mem.getD (s.1 + 2 + i / 4) 0 = (old : Int)) (hi : (i : Int) ≤ 1048576) (hv : (v : Int) ≤ 255) (ho : (old : Int) ≤ 4294967295) :
    Calls Tryd.prog 51 #[.pointer (some ⟨a, 0, none⟩), sv s, .int .i64 1, .int .i64 i, .int .i64 v] w fun e w' => e = .returned (.tuple #[]) ∧ Rep w' a l { H with mem := H.mem.set (s.1 + 2 + i / 4) ((putB old 0 v : Nat) : Int) } ∧ Nx a l l w w' := by
  obtain ⟨g, hg, hcg, hfg, hga, hgl⟩ := h.memBlock (by omega)
  have q := hcg (s.1 + 2 + i / 4) h1
  have fq := hfg (s.1 + 2 + i / 4)
  rw [hold] at q
  have c4 := h.c4
  rw [hg] at c4
  have hal := h.lt a (by simp [foot])
  obtain ⟨p0, L, t⟩ := s
  dsimp only at *
  have hba : ∀ W : World, Calls Tryd.prog 83 #[.agg #[.int .i64 (p0 : Int), .int .i64 (L : Int), .int .i64 (t : Int)], .int .i64 i] W fun e w' => e = .returned (.tuple #[.int .i64 ((p0 + 2 + i / 4 : Nat) : Int), .int .i64 0]) ∧ Fr [] W w' := by
    intro W
    have := byteAt_any (p0, L, t) i W (by dsimp only; omega) hi
    rw [hr] at this
    exact this
  have HB := mkHid hba
  have hor : Go.bits .or .i64 (Go.bits .andNot .i64 (old : Int) 255) (v : Int) = ((putB old 0 v : Nat) : Int) := put_int old v 0 (by omega) (by omega) (by omega) _ _ rfl (by simp)
  have HE : Hid (∀ W W', Fr [] w W → Eqw (W.setCell ⟨g, p0 + 2 + i / 4, none⟩ (.int .i64 ((putB old 0 v : Nat) : Int))) W' → Rep W' a l { H with mem := H.mem.set (p0 + 2 + i / 4) ((putB old 0 v : Nat) : Int) } ∧ Nx a l l w W') := by
    intro W W' hW he
    have K := (h.keep hW (by simp)).setMem hg (p0 + 2 + i / 4) h1 _ W' he
    exact ⟨K.1, (Nx.frw (hW.mono (by simp))).trans K.2⟩
  have k1 : ((p0 + 2 + i / 4 : Nat) : Int) < (H.mem.length : Int) := by omega
  have k2 : (0 : Int) ≤ ((p0 + 2 + i / 4 : Nat) : Int) := by omega
  clear h hcg hfg hba hold
  unfold sv
  dsimp only [I]
  generalize putB old 0 v = pv at *
  generalize hp : p0 + 2 + i / 4 = p at *
  clear hp
  generalize hm : H.mem.length = m at *
  clear hm
  go_enter Tryd.func51, Tryd.ntmps51
  go_wp2_with fail
  refine (HB.out _).mono ?_
  rintro e w1 ⟨rfl, hf1⟩
  have d4 := (hf1.cell (p := ⟨a, 4, none⟩) (by simp; omega) (by simp)).trans ((World.cell?_alloc_lt w _ ⟨a, 4, none⟩ hal).trans c4)
  have dq := (hf1.cell (p := ⟨g, p, none⟩) (by simp; omega) (by simp)).trans ((World.cell?_alloc_lt w _ ⟨g, p, none⟩ hgl).trans q)
  have df := (hf1.frozen (p := ⟨g, p, none⟩) (by simp; omega) (by simp)).trans ((World.frozen?_alloc_old w _ ⟨g, p, none⟩ (by show g ≠ _; omega)).trans fq)
  have HF1 := mkHid ((Fr.alloc [] w _).trans hf1 (by simp))
  clear hf1 HB
  go_wp2
  go_region
  all_goals go_wp2
  all_goals
    go_end0
    exact ⟨rfl, HE.out _ _ HF1.out (eqw_drew _)⟩
set_option maxRecDepth 20000 in
set_option maxHeartbeats 1000000 in
theorem setB1 (s : Nat × Nat × Nat) (i : Nat) (v : Nat) (old : Nat) (a : Nat) (l : Lay) (H : HS) (w : World) (h : Rep w a l H) (h1 : s.1 + 2 + i / 4 < H.mem.length) (hb : (H.mem.length : Int) ≤ 1048576) (hr : i % 4 = 1) (hold : H.mem.getD (s.1 + 2 + i / 4) 0 = (old : Int)) (hi : (i : Int) ≤ 1048576) (hv : (v : Int) ≤ 255) (ho : (old : Int) ≤ 4294967295) :
    Calls Tryd.prog 51 #[.pointer (some ⟨a, 0, none⟩), sv s, .int .i64 1, .int .i64 i, .int .i64 v] w fun e w' => e = .returned (.tuple #[]) ∧ Rep w' a l { H with mem := H.mem.set (s.1 + 2 + i / 4) ((putB old 1 v : Nat) : Int) } ∧ Nx a l l w w' := by
  obtain ⟨g, hg, hcg, hfg, hga, hgl⟩ := h.memBlock (by omega)
  have q := hcg (s.1 + 2 + i / 4) h1
  have fq := hfg (s.1 + 2 + i / 4)
  rw [hold] at q
  have c4 := h.c4
  rw [hg] at c4
  have hal := h.lt a (by simp [foot])
  obtain ⟨p0, L, t⟩ := s
  dsimp only at *
  have hba : ∀ W : World, Calls Tryd.prog 83 #[.agg #[.int .i64 (p0 : Int), .int .i64 (L : Int), .int .i64 (t : Int)], .int .i64 i] W fun e w' => e = .returned (.tuple #[.int .i64 ((p0 + 2 + i / 4 : Nat) : Int), .int .i64 8]) ∧ Fr [] W w' := by
    intro W
    have := byteAt_any (p0, L, t) i W (by dsimp only; omega) hi
    rw [hr] at this
    exact this
  have HB := mkHid hba
  have hor : Go.bits .or .i64 (Go.bits .andNot .i64 (old : Int) 65280) ((v : Int) * 256) = ((putB old 1 v : Nat) : Int) := put_int old v 1 (by omega) (by omega) (by omega) _ _ rfl (by simp)
  have HE : Hid (∀ W W', Fr [] w W → Eqw (W.setCell ⟨g, p0 + 2 + i / 4, none⟩ (.int .i64 ((putB old 1 v : Nat) : Int))) W' → Rep W' a l { H with mem := H.mem.set (p0 + 2 + i / 4) ((putB old 1 v : Nat) : Int) } ∧ Nx a l l w W') := by
    intro W W' hW he
    have K := (h.keep hW (by simp)).setMem hg (p0 + 2 + i / 4) h1 _ W' he
    exact ⟨K.1, (Nx.frw (hW.mono (by simp))).trans K.2⟩
  have k1 : ((p0 + 2 + i / 4 : Nat) : Int) < (H.mem.length : Int) := by omega
  have k2 : (0 : Int) ≤ ((p0 + 2 + i / 4 : Nat) : Int) := by omega
  clear h hcg hfg hba hold
  unfold sv
  dsimp only [I]
  generalize putB old 1 v = pv at *
  generalize hp : p0 + 2 + i / 4 = p at *
  clear hp
  generalize hm : H.mem.length = m at *
  clear hm
  go_enter Tryd.func51, Tryd.ntmps51
  go_wp2_with fail
  refine (HB.out _).mono ?_
  rintro e w1 ⟨rfl, hf1⟩
  have d4 := (hf1.cell (p := ⟨a, 4, none⟩) (by simp; omega) (by simp)).trans ((World.cell?_alloc_lt w _ ⟨a, 4, none⟩ hal).trans c4)
  have dq := (hf1.cell (p := ⟨g, p, none⟩) (by simp; omega) (by simp)).trans ((World.cell?_alloc_lt w _ ⟨g, p, none⟩ hgl).trans q)
  have df := (hf1.frozen (p := ⟨g, p, none⟩) (by simp; omega) (by simp)).trans ((World.frozen?_alloc_old w _ ⟨g, p, none⟩ (by show g ≠ _; omega)).trans fq)
  have HF1 := mkHid ((Fr.alloc [] w _).trans hf1 (by simp))
  clear hf1 HB
  go_wp2
  go_region
  all_goals go_wp2
  all_goals
    go_end0
    exact ⟨rfl, HE.out _ _ HF1.out (eqw_drew _)⟩
set_option maxRecDepth 20000 in
set_option maxHeartbeats 1000000 in
theorem setB2 (s : Nat × Nat × Nat) (i : Nat) (v : Nat) (old : Nat) (a : Nat) (l : Lay) (H : HS) (w : World) (h : Rep w a l H) (h1 : s.1 + 2 + i / 4 < H.mem.length) (hb : (H.mem.length : Int) ≤ 1048576) (hr : i % 4 = 2) (hold : H.mem.getD (s.1 + 2 + i / 4) 0 = (old : Int)) (hi : (i : Int) ≤ 1048576) (hv : (v : Int) ≤ 255) (ho : (old : Int) ≤ 4294967295) :
    Calls Tryd.prog 51 #[.pointer (some ⟨a, 0, none⟩), sv s, .int .i64 1, .int .i64 i, .int .i64 v] w fun e w' => e = .returned (.tuple #[]) ∧ Rep w' a l { H with mem := H.mem.set (s.1 + 2 + i / 4) ((putB old 2 v : Nat) : Int) } ∧ Nx a l l w w' := by
  obtain ⟨g, hg, hcg, hfg, hga, hgl⟩ := h.memBlock (by omega)
  have q := hcg (s.1 + 2 + i / 4) h1
  have fq := hfg (s.1 + 2 + i / 4)
  rw [hold] at q
  have c4 := h.c4
  rw [hg] at c4
  have hal := h.lt a (by simp [foot])
  obtain ⟨p0, L, t⟩ := s
  dsimp only at *
  have hba : ∀ W : World, Calls Tryd.prog 83 #[.agg #[.int .i64 (p0 : Int), .int .i64 (L : Int), .int .i64 (t : Int)], .int .i64 i] W fun e w' => e = .returned (.tuple #[.int .i64 ((p0 + 2 + i / 4 : Nat) : Int), .int .i64 16]) ∧ Fr [] W w' := by
    intro W
    have := byteAt_any (p0, L, t) i W (by dsimp only; omega) hi
    rw [hr] at this
    exact this
  have HB := mkHid hba
  have hor : Go.bits .or .i64 (Go.bits .andNot .i64 (old : Int) 16711680) ((v : Int) * 65536) = ((putB old 2 v : Nat) : Int) := put_int old v 2 (by omega) (by omega) (by omega) _ _ rfl (by simp)
  have HE : Hid (∀ W W', Fr [] w W → Eqw (W.setCell ⟨g, p0 + 2 + i / 4, none⟩ (.int .i64 ((putB old 2 v : Nat) : Int))) W' → Rep W' a l { H with mem := H.mem.set (p0 + 2 + i / 4) ((putB old 2 v : Nat) : Int) } ∧ Nx a l l w W') := by
    intro W W' hW he
    have K := (h.keep hW (by simp)).setMem hg (p0 + 2 + i / 4) h1 _ W' he
    exact ⟨K.1, (Nx.frw (hW.mono (by simp))).trans K.2⟩
  have k1 : ((p0 + 2 + i / 4 : Nat) : Int) < (H.mem.length : Int) := by omega
  have k2 : (0 : Int) ≤ ((p0 + 2 + i / 4 : Nat) : Int) := by omega
  clear h hcg hfg hba hold
  unfold sv
  dsimp only [I]
  generalize putB old 2 v = pv at *
  generalize hp : p0 + 2 + i / 4 = p at *
  clear hp
  generalize hm : H.mem.length = m at *
  clear hm
  go_enter Tryd.func51, Tryd.ntmps51
  go_wp2_with fail
  refine (HB.out _).mono ?_
  rintro e w1 ⟨rfl, hf1⟩
  have d4 := (hf1.cell (p := ⟨a, 4, none⟩) (by simp; omega) (by simp)).trans ((World.cell?_alloc_lt w _ ⟨a, 4, none⟩ hal).trans c4)
  have dq := (hf1.cell (p := ⟨g, p, none⟩) (by simp; omega) (by simp)).trans ((World.cell?_alloc_lt w _ ⟨g, p, none⟩ hgl).trans q)
  have df := (hf1.frozen (p := ⟨g, p, none⟩) (by simp; omega) (by simp)).trans ((World.frozen?_alloc_old w _ ⟨g, p, none⟩ (by show g ≠ _; omega)).trans fq)
  have HF1 := mkHid ((Fr.alloc [] w _).trans hf1 (by simp))
  clear hf1 HB
  go_wp2
  go_region
  all_goals go_wp2
  all_goals
    go_end0
    exact ⟨rfl, HE.out _ _ HF1.out (eqw_drew _)⟩
set_option maxRecDepth 20000 in
set_option maxHeartbeats 1000000 in
theorem setB3 (s : Nat × Nat × Nat) (i : Nat) (v : Nat) (old : Nat) (a : Nat) (l : Lay) (H : HS) (w : World) (h : Rep w a l H) (h1 : s.1 + 2 + i / 4 < H.mem.length) (hb : (H.mem.length : Int) ≤ 1048576) (hr : i % 4 = 3) (hold : H.mem.getD (s.1 + 2 + i / 4) 0 = (old : Int)) (hi : (i : Int) ≤ 1048576) (hv : (v : Int) ≤ 255) (ho : (old : Int) ≤ 4294967295) :
    Calls Tryd.prog 51 #[.pointer (some ⟨a, 0, none⟩), sv s, .int .i64 1, .int .i64 i, .int .i64 v] w fun e w' => e = .returned (.tuple #[]) ∧ Rep w' a l { H with mem := H.mem.set (s.1 + 2 + i / 4) ((putB old 3 v : Nat) : Int) } ∧ Nx a l l w w' := by
  obtain ⟨g, hg, hcg, hfg, hga, hgl⟩ := h.memBlock (by omega)
  have q := hcg (s.1 + 2 + i / 4) h1
  have fq := hfg (s.1 + 2 + i / 4)
  rw [hold] at q
  have c4 := h.c4
  rw [hg] at c4
  have hal := h.lt a (by simp [foot])
  obtain ⟨p0, L, t⟩ := s
  dsimp only at *
  have hba : ∀ W : World, Calls Tryd.prog 83 #[.agg #[.int .i64 (p0 : Int), .int .i64 (L : Int), .int .i64 (t : Int)], .int .i64 i] W fun e w' => e = .returned (.tuple #[.int .i64 ((p0 + 2 + i / 4 : Nat) : Int), .int .i64 24]) ∧ Fr [] W w' := by
    intro W
    have := byteAt_any (p0, L, t) i W (by dsimp only; omega) hi
    rw [hr] at this
    exact this
  have HB := mkHid hba
  have hor : Go.bits .or .i64 (Go.bits .andNot .i64 (old : Int) 4278190080) ((v : Int) * 16777216) = ((putB old 3 v : Nat) : Int) := put_int old v 3 (by omega) (by omega) (by omega) _ _ rfl (by simp)
  have HE : Hid (∀ W W', Fr [] w W → Eqw (W.setCell ⟨g, p0 + 2 + i / 4, none⟩ (.int .i64 ((putB old 3 v : Nat) : Int))) W' → Rep W' a l { H with mem := H.mem.set (p0 + 2 + i / 4) ((putB old 3 v : Nat) : Int) } ∧ Nx a l l w W') := by
    intro W W' hW he
    have K := (h.keep hW (by simp)).setMem hg (p0 + 2 + i / 4) h1 _ W' he
    exact ⟨K.1, (Nx.frw (hW.mono (by simp))).trans K.2⟩
  have k1 : ((p0 + 2 + i / 4 : Nat) : Int) < (H.mem.length : Int) := by omega
  have k2 : (0 : Int) ≤ ((p0 + 2 + i / 4 : Nat) : Int) := by omega
  clear h hcg hfg hba hold
  unfold sv
  dsimp only [I]
  generalize putB old 3 v = pv at *
  generalize hp : p0 + 2 + i / 4 = p at *
  clear hp
  generalize hm : H.mem.length = m at *
  clear hm
  go_enter Tryd.func51, Tryd.ntmps51
  go_wp2_with fail
  refine (HB.out _).mono ?_
  rintro e w1 ⟨rfl, hf1⟩
  have d4 := (hf1.cell (p := ⟨a, 4, none⟩) (by simp; omega) (by simp)).trans ((World.cell?_alloc_lt w _ ⟨a, 4, none⟩ hal).trans c4)
  have dq := (hf1.cell (p := ⟨g, p, none⟩) (by simp; omega) (by simp)).trans ((World.cell?_alloc_lt w _ ⟨g, p, none⟩ hgl).trans q)
  have df := (hf1.frozen (p := ⟨g, p, none⟩) (by simp; omega) (by simp)).trans ((World.frozen?_alloc_old w _ ⟨g, p, none⟩ (by show g ≠ _; omega)).trans fq)
  have HF1 := mkHid ((Fr.alloc [] w _).trans hf1 (by simp))
  clear hf1 HB
  go_wp2
  go_region
  all_goals go_wp2
  all_goals
    go_end0
    exact ⟨rfl, HE.out _ _ HF1.out (eqw_drew _)⟩
set_option maxRecDepth 20000 in
set_option maxHeartbeats 1000000 in
theorem getB0 (s : Nat × Nat × Nat) (i : Nat) (old : Nat) (a : Nat) (l : Lay) (H : HS) (w : World) (h : Rep w a l H) (h1 : s.1 + 2 + i / 4 < H.mem.length) (hb : (H.mem.length : Int) ≤ 1048576) (hr : i % 4 = 0) (hold : H.mem.getD (s.1 + 2 + i / 4) 0 = (old : Int)) (hi : (i : Int) ≤ 1048576) :
    Calls Tryd.prog 52 #[.pointer (some ⟨a, 0, none⟩), sv s, .int .i64 1, .int .i64 i] w fun e w' => e = .returned (.int .i64 ((getB old 0 : Nat) : Int)) ∧ Fr [] w w' := by
  obtain ⟨g, hg, hcg, hfg, hga, hgl⟩ := h.memBlock (by omega)
  have q := hcg (s.1 + 2 + i / 4) h1
  rw [hold] at q
  have c4 := h.c4
  rw [hg] at c4
  have hal := h.lt a (by simp [foot])
  obtain ⟨p0, L, t⟩ := s
  dsimp only at *
  have hba : ∀ W : World, Calls Tryd.prog 83 #[.agg #[.int .i64 (p0 : Int), .int .i64 (L : Int), .int .i64 (t : Int)], .int .i64 i] W fun e w' => e = .returned (.tuple #[.int .i64 ((p0 + 2 + i / 4 : Nat) : Int), .int .i64 0]) ∧ Fr [] W w' := by
    intro W
    have := byteAt_any (p0, L, t) i W (by dsimp only; omega) hi
    rw [hr] at this
    exact this
  have HB := mkHid hba
  have ha := and255 (old : Int)
  have k1 : ((p0 + 2 + i / 4 : Nat) : Int) < (H.mem.length : Int) := by omega
  have k2 : (0 : Int) ≤ ((p0 + 2 + i / 4 : Nat) : Int) := by omega
  clear h hcg hfg hba hold
  unfold sv
  dsimp only [I]
  generalize hp : p0 + 2 + i / 4 = p at *
  clear hp
  generalize hm : H.mem.length = m at *
  clear hm
  go_enter Tryd.func52, Tryd.ntmps52
  go_wp2_with fail
  refine (HB.out _).mono ?_
  rintro e w1 ⟨rfl, hf1⟩
  have d4 := (hf1.cell (p := ⟨a, 4, none⟩) (by simp; omega) (by simp)).trans ((World.cell?_alloc_lt w _ ⟨a, 4, none⟩ hal).trans c4)
  have dq := (hf1.cell (p := ⟨g, p, none⟩) (by simp; omega) (by simp)).trans ((World.cell?_alloc_lt w _ ⟨g, p, none⟩ hgl).trans q)
  have HF1 := mkHid ((Fr.alloc [] w _).trans hf1 (by simp))
  clear hf1 HB
  go_wp2
  go_ret
  exact ⟨ret_int (by unfold getB; omega), HF1.out⟩
set_option maxRecDepth 20000 in
set_option maxHeartbeats 1000000 in
theorem getB1 (s : Nat × Nat × Nat) (i : Nat) (old : Nat) (a : Nat) (l : Lay) (H : HS) (w : World) (h : Rep w a l H) (h1 : s.1 + 2 + i / 4 < H.mem.length) (hb : (H.mem.length : Int) ≤ 1048576) (hr : i % 4 = 1) (hold : H.mem.getD (s.1 + 2 + i / 4) 0 = (old : Int)) (hi : (i : Int) ≤ 1048576) :
    Calls Tryd.prog 52 #[.pointer (some ⟨a, 0, none⟩), sv s, .int .i64 1, .int .i64 i] w fun e w' => e = .returned (.int .i64 ((getB old 1 : Nat) : Int)) ∧ Fr [] w w' := by
  obtain ⟨g, hg, hcg, hfg, hga, hgl⟩ := h.memBlock (by omega)
  have q := hcg (s.1 + 2 + i / 4) h1
  rw [hold] at q
  have c4 := h.c4
  rw [hg] at c4
  have hal := h.lt a (by simp [foot])
  obtain ⟨p0, L, t⟩ := s
  dsimp only at *
  have hba : ∀ W : World, Calls Tryd.prog 83 #[.agg #[.int .i64 (p0 : Int), .int .i64 (L : Int), .int .i64 (t : Int)], .int .i64 i] W fun e w' => e = .returned (.tuple #[.int .i64 ((p0 + 2 + i / 4 : Nat) : Int), .int .i64 8]) ∧ Fr [] W w' := by
    intro W
    have := byteAt_any (p0, L, t) i W (by dsimp only; omega) hi
    rw [hr] at this
    exact this
  have HB := mkHid hba
  have ha := and255 ((old : Int) / 256)
  have k1 : ((p0 + 2 + i / 4 : Nat) : Int) < (H.mem.length : Int) := by omega
  have k2 : (0 : Int) ≤ ((p0 + 2 + i / 4 : Nat) : Int) := by omega
  clear h hcg hfg hba hold
  unfold sv
  dsimp only [I]
  generalize hp : p0 + 2 + i / 4 = p at *
  clear hp
  generalize hm : H.mem.length = m at *
  clear hm
  go_enter Tryd.func52, Tryd.ntmps52
  go_wp2_with fail
  refine (HB.out _).mono ?_
  rintro e w1 ⟨rfl, hf1⟩
  have d4 := (hf1.cell (p := ⟨a, 4, none⟩) (by simp; omega) (by simp)).trans ((World.cell?_alloc_lt w _ ⟨a, 4, none⟩ hal).trans c4)
  have dq := (hf1.cell (p := ⟨g, p, none⟩) (by simp; omega) (by simp)).trans ((World.cell?_alloc_lt w _ ⟨g, p, none⟩ hgl).trans q)
  have HF1 := mkHid ((Fr.alloc [] w _).trans hf1 (by simp))
  clear hf1 HB
  go_wp2
  go_ret
  exact ⟨ret_int (by unfold getB; omega), HF1.out⟩
set_option maxRecDepth 20000 in
set_option maxHeartbeats 1000000 in
theorem getB2 (s : Nat × Nat × Nat) (i : Nat) (old : Nat) (a : Nat) (l : Lay) (H : HS) (w : World) (h : Rep w a l H) (h1 : s.1 + 2 + i / 4 < H.mem.length) (hb : (H.mem.length : Int) ≤ 1048576) (hr : i % 4 = 2) (hold : H.mem.getD (s.1 + 2 + i / 4) 0 = (old : Int)) (hi : (i : Int) ≤ 1048576) :
    Calls Tryd.prog 52 #[.pointer (some ⟨a, 0, none⟩), sv s, .int .i64 1, .int .i64 i] w fun e w' => e = .returned (.int .i64 ((getB old 2 : Nat) : Int)) ∧ Fr [] w w' := by
  obtain ⟨g, hg, hcg, hfg, hga, hgl⟩ := h.memBlock (by omega)
  have q := hcg (s.1 + 2 + i / 4) h1
  rw [hold] at q
  have c4 := h.c4
  rw [hg] at c4
  have hal := h.lt a (by simp [foot])
  obtain ⟨p0, L, t⟩ := s
  dsimp only at *
  have hba : ∀ W : World, Calls Tryd.prog 83 #[.agg #[.int .i64 (p0 : Int), .int .i64 (L : Int), .int .i64 (t : Int)], .int .i64 i] W fun e w' => e = .returned (.tuple #[.int .i64 ((p0 + 2 + i / 4 : Nat) : Int), .int .i64 16]) ∧ Fr [] W w' := by
    intro W
    have := byteAt_any (p0, L, t) i W (by dsimp only; omega) hi
    rw [hr] at this
    exact this
  have HB := mkHid hba
  have ha := and255 ((old : Int) / 65536)
  have k1 : ((p0 + 2 + i / 4 : Nat) : Int) < (H.mem.length : Int) := by omega
  have k2 : (0 : Int) ≤ ((p0 + 2 + i / 4 : Nat) : Int) := by omega
  clear h hcg hfg hba hold
  unfold sv
  dsimp only [I]
  generalize hp : p0 + 2 + i / 4 = p at *
  clear hp
  generalize hm : H.mem.length = m at *
  clear hm
  go_enter Tryd.func52, Tryd.ntmps52
  go_wp2_with fail
  refine (HB.out _).mono ?_
  rintro e w1 ⟨rfl, hf1⟩
  have d4 := (hf1.cell (p := ⟨a, 4, none⟩) (by simp; omega) (by simp)).trans ((World.cell?_alloc_lt w _ ⟨a, 4, none⟩ hal).trans c4)
  have dq := (hf1.cell (p := ⟨g, p, none⟩) (by simp; omega) (by simp)).trans ((World.cell?_alloc_lt w _ ⟨g, p, none⟩ hgl).trans q)
  have HF1 := mkHid ((Fr.alloc [] w _).trans hf1 (by simp))
  clear hf1 HB
  go_wp2
  go_ret
  exact ⟨ret_int (by unfold getB; omega), HF1.out⟩
set_option maxRecDepth 20000 in
set_option maxHeartbeats 1000000 in
theorem getB3 (s : Nat × Nat × Nat) (i : Nat) (old : Nat) (a : Nat) (l : Lay) (H : HS) (w : World) (h : Rep w a l H) (h1 : s.1 + 2 + i / 4 < H.mem.length) (hb : (H.mem.length : Int) ≤ 1048576) (hr : i % 4 = 3) (hold : H.mem.getD (s.1 + 2 + i / 4) 0 = (old : Int)) (hi : (i : Int) ≤ 1048576) :
    Calls Tryd.prog 52 #[.pointer (some ⟨a, 0, none⟩), sv s, .int .i64 1, .int .i64 i] w fun e w' => e = .returned (.int .i64 ((getB old 3 : Nat) : Int)) ∧ Fr [] w w' := by
  obtain ⟨g, hg, hcg, hfg, hga, hgl⟩ := h.memBlock (by omega)
  have q := hcg (s.1 + 2 + i / 4) h1
  rw [hold] at q
  have c4 := h.c4
  rw [hg] at c4
  have hal := h.lt a (by simp [foot])
  obtain ⟨p0, L, t⟩ := s
  dsimp only at *
  have hba : ∀ W : World, Calls Tryd.prog 83 #[.agg #[.int .i64 (p0 : Int), .int .i64 (L : Int), .int .i64 (t : Int)], .int .i64 i] W fun e w' => e = .returned (.tuple #[.int .i64 ((p0 + 2 + i / 4 : Nat) : Int), .int .i64 24]) ∧ Fr [] W w' := by
    intro W
    have := byteAt_any (p0, L, t) i W (by dsimp only; omega) hi
    rw [hr] at this
    exact this
  have HB := mkHid hba
  have ha := and255 ((old : Int) / 16777216)
  have k1 : ((p0 + 2 + i / 4 : Nat) : Int) < (H.mem.length : Int) := by omega
  have k2 : (0 : Int) ≤ ((p0 + 2 + i / 4 : Nat) : Int) := by omega
  clear h hcg hfg hba hold
  unfold sv
  dsimp only [I]
  generalize hp : p0 + 2 + i / 4 = p at *
  clear hp
  generalize hm : H.mem.length = m at *
  clear hm
  go_enter Tryd.func52, Tryd.ntmps52
  go_wp2_with fail
  refine (HB.out _).mono ?_
  rintro e w1 ⟨rfl, hf1⟩
  have d4 := (hf1.cell (p := ⟨a, 4, none⟩) (by simp; omega) (by simp)).trans ((World.cell?_alloc_lt w _ ⟨a, 4, none⟩ hal).trans c4)
  have dq := (hf1.cell (p := ⟨g, p, none⟩) (by simp; omega) (by simp)).trans ((World.cell?_alloc_lt w _ ⟨g, p, none⟩ hgl).trans q)
  have HF1 := mkHid ((Fr.alloc [] w _).trans hf1 (by simp))
  clear hf1 HB
  go_wp2
  go_ret
  exact ⟨ret_int (by unfold getB; omega), HF1.out⟩
theorem setB_any (s : Nat × Nat × Nat) (i : Nat) (v : Nat) (old : Nat) (a : Nat) (l : Lay) (H : HS) (w : World) (h : Rep w a l H) (h1 : s.1 + 2 + i / 4 < H.mem.length) (hb : (H.mem.length : Int) ≤ 1048576) (hold : H.mem.getD (s.1 + 2 + i / 4) 0 = (old : Int)) (hi : (i : Int) ≤ 1048576) (hv : (v : Int) ≤ 255) (ho : (old : Int) ≤ 4294967295) :
    Calls Tryd.prog 51 #[.pointer (some ⟨a, 0, none⟩), sv s, .int .i64 1, .int .i64 i, .int .i64 v] w fun e w' => e = .returned (.tuple #[]) ∧ Rep w' a l { H with mem := H.mem.set (s.1 + 2 + i / 4) ((putB old (i % 4) v : Nat) : Int) } ∧ Nx a l l w w' := by
  rcases (show i % 4 = 0 ∨ i % 4 = 1 ∨ i % 4 = 2 ∨ i % 4 = 3 from by omega) with hr | hr | hr | hr
  · rw [hr]; exact setB0 s i v old a l H w h h1 hb hr hold hi hv ho
  · rw [hr]; exact setB1 s i v old a l H w h h1 hb hr hold hi hv ho
  · rw [hr]; exact setB2 s i v old a l H w h h1 hb hr hold hi hv ho
  · rw [hr]; exact setB3 s i v old a l H w h h1 hb hr hold hi hv ho
theorem getB_any (s : Nat × Nat × Nat) (i : Nat) (old : Nat) (a : Nat) (l : Lay) (H : HS) (w : World) (h : Rep w a l H) (h1 : s.1 + 2 + i / 4 < H.mem.length) (hb : (H.mem.length : Int) ≤ 1048576) (hold : H.mem.getD (s.1 + 2 + i / 4) 0 = (old : Int)) (hi : (i : Int) ≤ 1048576) :
    Calls Tryd.prog 52 #[.pointer (some ⟨a, 0, none⟩), sv s, .int .i64 1, .int .i64 i] w fun e w' => e = .returned (.int .i64 ((getB old (i % 4) : Nat) : Int)) ∧ Fr [] w w' := by
  rcases (show i % 4 = 0 ∨ i % 4 = 1 ∨ i % 4 = 2 ∨ i % 4 = 3 from by omega) with hr | hr | hr | hr
  · rw [hr]; exact getB0 s i old a l H w h h1 hb hr hold hi
  · rw [hr]; exact getB1 s i old a l H w h h1 hb hr hold hi
  · rw [hr]; exact getB2 s i old a l H w h h1 hb hr hold hi
  · rw [hr]; exact getB3 s i old a l H w h h1 hb hr hold hi
end Go.Proofs.YtpaekbghnejhoaaDoor


namespace Go.Proofs.YtpaekbghnejhoaaDoor
open Go.RowKit
set_option linter.unusedVariables false
attribute [local go_sem ↓] Go.wp_at_zero Go.wp_at_succ
set_option maxHeartbeats 400000 in
theorem Mark_no (k : Int) (a : Nat) (l : Lay) (H : HS) (w : World) (h : Rep w a l H) (hk : isM k = false) :
    Calls Tryd.prog 13 #[.pointer (some ⟨a, 0, none⟩), .int .i64 k] w fun e w' => e = .returned (.int .i64 1) ∧ w' = w := by
  have hm := isMark_any k w
  rw [hk] at hm
  have c0 := h.c0
  have HM := mkHid hm
  clear h hm hk
  go_enter Tryd.func13, Tryd.ntmps13
  go_wp2_with (first | (go_at_call 40; refine (made_any _ _ c0).mono ?_; rintro e w' ⟨rfl, rfl⟩) | (go_at_call 36; refine Calls.mono HM.out ?_; rintro e w' ⟨rfl, rfl⟩))
  go_ret
  exact ⟨rfl, rfl⟩
set_option maxRecDepth 20000 in
set_option maxHeartbeats 2000000 in
theorem Put_slot (oop n f : Nat) (i v : Int) (a : Nat) (l : Lay) (H : HS) (w : World) (h : Rep w a l H) (hh : has H oop = true) (hb : (H.mem.length : Int) ≤ 1048576)
    (h4 : (H.seats.getD oop (0, 0, 0)).1 + 1 < H.mem.length) (h5 : H.mem.getD ((H.seats.getD oop (0, 0, 0)).1 + 1) 0 = ((2 * n + f : Nat) : Int)) (hf : (f : Int) ≤ 1) (hi : i < 0 ∨ (n : Int) ≤ i) :
    Calls Tryd.prog 16 #[.pointer (some ⟨a, 0, none⟩), .int .i64 oop, .int .i64 i, .int .i64 v] w fun e w' => e = .returned (.int .i64 21) ∧ Fr [] w w' := by
  obtain ⟨h1, h2, h3⟩ := has_yes hh
  have HSO := mkHid (seatOf_yes oop a l H w h h1 h2 h3)
  obtain ⟨⟨p, L, t⟩, hs⟩ : ∃ s, s = H.seats.getD oop (0, 0, 0) := ⟨_, rfl⟩
  rw [← hs] at HSO h4 h5
  have HSH : Hid (∀ W, Rep W a l H → Calls Tryd.prog 49 #[.pointer (some ⟨a, 0, none⟩), .agg #[.int .i64 (p : Int), .int .i64 (L : Int), .int .i64 (t : Int)]] W fun e w' => e = .returned (.tuple #[.int .i64 (n : Int), .int .i64 (f : Int)]) ∧ Fr [] W w') := by
    intro W hW
    have := shape_of (p, L, t) (2 * n + f) a l H W hW h4 h5 hb
    rw [show (2 * n + f) / 2 = n from by omega, show (2 * n + f) % 2 = f from by omega] at this
    exact this
  have HR := mkHid h
  clear h hs h3 h5 h4 h2 hh
  dsimp only [sv, I] at HSO
  rcases hi with hi | hi
  all_goals
    go_enter Tryd.func16, Tryd.ntmps16
    go_wp2_with fail
    refine Calls.mono HSO.out ?_
    rintro e w1 ⟨rfl, hf1⟩
    have F2 : Fr [] w (w1.alloc (.cells #[.int .i64 (p : Int), .int .i64 (L : Int), .int .i64 (t : Int)] 86)) := hf1.trans (Fr.alloc [] _ _) (by simp)
    have HF2 := mkHid F2
    clear hf1 F2
    go_wp2_with fail
    refine Calls.mono (HSH.out _ (HR.out.keep HF2.out (by simp))) ?_
    rintro e w2 ⟨rfl, hf2⟩
    have HF := mkHid (HF2.out.trans hf2 (by simp))
    clear hf2
    go_wp2
    go_ret
    exact ⟨rfl, HF.out⟩
set_option maxRecDepth 20000 in
set_option maxHeartbeats 2000000 in
theorem At_slot (oop n f : Nat) (i : Int) (a : Nat) (l : Lay) (H : HS) (w : World) (h : Rep w a l H) (hh : has H oop = true) (hb : (H.mem.length : Int) ≤ 1048576)
    (h4 : (H.seats.getD oop (0, 0, 0)).1 + 1 < H.mem.length) (h5 : H.mem.getD ((H.seats.getD oop (0, 0, 0)).1 + 1) 0 = ((2 * n + f : Nat) : Int)) (hf : (f : Int) ≤ 1) (hi : i < 0 ∨ (n : Int) ≤ i) :
    Calls Tryd.prog 17 #[.pointer (some ⟨a, 0, none⟩), .int .i64 oop, .int .i64 i] w fun e w' => e = .returned (.tuple #[.int .i64 0, .int .i64 21]) ∧ Fr [] w w' := by
  obtain ⟨h1, h2, h3⟩ := has_yes hh
  have HSO := mkHid (seatOf_yes oop a l H w h h1 h2 h3)
  obtain ⟨⟨p, L, t⟩, hs⟩ : ∃ s, s = H.seats.getD oop (0, 0, 0) := ⟨_, rfl⟩
  rw [← hs] at HSO h4 h5
  have HSH : Hid (∀ W, Rep W a l H → Calls Tryd.prog 49 #[.pointer (some ⟨a, 0, none⟩), .agg #[.int .i64 (p : Int), .int .i64 (L : Int), .int .i64 (t : Int)]] W fun e w' => e = .returned (.tuple #[.int .i64 (n : Int), .int .i64 (f : Int)]) ∧ Fr [] W w') := by
    intro W hW
    have := shape_of (p, L, t) (2 * n + f) a l H W hW h4 h5 hb
    rw [show (2 * n + f) / 2 = n from by omega, show (2 * n + f) % 2 = f from by omega] at this
    exact this
  have HR := mkHid h
  clear h hs h3 h5 h4 h2 hh
  dsimp only [sv, I] at HSO
  rcases hi with hi | hi
  all_goals
    go_enter Tryd.func17, Tryd.ntmps17
    go_wp2_with fail
    refine Calls.mono HSO.out ?_
    rintro e w1 ⟨rfl, hf1⟩
    have F2 : Fr [] w (w1.alloc (.cells #[.int .i64 (p : Int), .int .i64 (L : Int), .int .i64 (t : Int)] 86)) := hf1.trans (Fr.alloc [] _ _) (by simp)
    have HF2 := mkHid F2
    clear hf1 F2
    go_wp2_with fail
    refine Calls.mono (HSH.out _ (HR.out.keep HF2.out (by simp))) ?_
    rintro e w2 ⟨rfl, hf2⟩
    have HF := mkHid (HF2.out.trans hf2 (by simp))
    clear hf2
    go_wp2
    go_ret2
    exact ⟨rfl, HF.out⟩
set_option maxRecDepth 20000 in
set_option maxHeartbeats 2000000 in
theorem Put_word (oop i n f : Nat) (v : Int) (a : Nat) (l : Lay) (H : HS) (w : World) (h : Rep w a l H) (hh : has H oop = true) (hb : (H.mem.length : Int) ≤ 1048576)
    (h4 : (H.seats.getD oop (0, 0, 0)).1 + 1 < H.mem.length) (h5 : H.mem.getD ((H.seats.getD oop (0, 0, 0)).1 + 1) 0 = ((2 * n + f : Nat) : Int)) (hf : (f : Int) ≤ 1) (hi : (i : Int) < n) (hm : mayB v f = false) (hT : Tab w) :
    Calls Tryd.prog 16 #[.pointer (some ⟨a, 0, none⟩), .int .i64 oop, .int .i64 i, .int .i64 v] w fun e w' => e = .returned (.int .i64 10) ∧ Fr [] w w' := by
  obtain ⟨h1, h2, h3⟩ := has_yes hh
  have hal := h.lt a (by simp [foot])
  have HSO := mkHid (seatOf_yes oop a l H w h h1 h2 h3)
  obtain ⟨⟨p, L, t⟩, hs⟩ : ∃ s, s = H.seats.getD oop (0, 0, 0) := ⟨_, rfl⟩
  rw [← hs] at HSO h4 h5
  have HSH : Hid (∀ W, Rep W a l H → Calls Tryd.prog 49 #[.pointer (some ⟨a, 0, none⟩), .agg #[.int .i64 (p : Int), .int .i64 (L : Int), .int .i64 (t : Int)]] W fun e w' => e = .returned (.tuple #[.int .i64 (n : Int), .int .i64 (f : Int)]) ∧ Fr [] W w') := by
    intro W hW
    have := shape_of (p, L, t) (2 * n + f) a l H W hW h4 h5 hb
    rw [show (2 * n + f) / 2 = n from by omega, show (2 * n + f) % 2 = f from by omega] at this
    exact this
  have HMS : Hid (∀ W, Tab W → Calls Tryd.prog 50 #[.int .i64 v, .int .i64 f] W fun e w' => e = .returned (.bool false) ∧ w' = W) := by
    intro W hW
    have := mayStand_any v f W hW
    rw [hm] at this
    exact this
  have HR := mkHid h
  have HT := mkHid hT
  clear h hs h3 h5 h4 h2 hh hm hT
  dsimp only [sv, I] at HSO
  go_enter Tryd.func16, Tryd.ntmps16
  go_wp2_with fail
  refine Calls.mono HSO.out ?_
  rintro e w1 ⟨rfl, hf1⟩
  have F2 : Fr [] w (w1.alloc (.cells #[.int .i64 (p : Int), .int .i64 (L : Int), .int .i64 (t : Int)] 86)) := hf1.trans (Fr.alloc [] _ _) (by simp)
  have HF2 := mkHid F2
  clear hf1 F2
  go_wp2_with fail
  refine Calls.mono (HSH.out _ (HR.out.keep HF2.out (by simp))) ?_
  rintro e w2 ⟨rfl, hf2⟩
  have HF := mkHid (HF2.out.trans hf2 (by simp))
  clear hf2
  go_wp2_with fail
  refine Calls.mono (HMS.out _ (HT.out.fr HF.out (by omega))) ?_
  rintro e w3 ⟨rfl, hw3⟩
  rw [hw3]
  clear hw3 w3
  go_wp2
  go_ret
  exact ⟨rfl, HF.out⟩
end Go.Proofs.YtpaekbghnejhoaaDoor


namespace Go.Proofs.YtpaekbghnejhoaaDoor
open Go.RowKit
set_option linter.unusedVariables false
attribute [local go_sem ↓] Go.wp_at_zero Go.wp_at_succ
structure DrawOk (H : HS) (t e : Nat) : Prop where
  t1 : t ≤ H.order.length
  t2 : ∀ j, t ≤ j → j < H.order.length → H.order.getD j 0 = 0
  t3 : 0 < t → H.order.getD (t - 1) 0 ≠ 0 ∧ H.order.getD (t - 1) 0 < H.seats.length ∧ e = (H.seats.getD (H.order.getD (t - 1) 0) (0, 0, 0)).1 + (H.seats.getD (H.order.getD (t - 1) 0) (0, 0, 0)).2.1
  t4 : t = 0 → e = 0
  e1 : e ≤ H.mem.length
  e2 : H.mem = H.mem.take e ++ List.replicate (H.mem.length - e) 0
  m1 : H.mem.length ≤ 1048576
  r1 : H.order.length ≤ 1048576
  s1 : H.seats.length ≤ 65538
def drawH (H : HS) (t e : Nat) : HS := { H with mem := H.mem.take e, order := H.order.take t }
theorem drawn_t {H : HS} {t e k : Nat} (h : DrawOk H t e) (hk : k ≤ H.order.length) (hz : ∀ j, k ≤ j → j < H.order.length → H.order.getD j 0 = 0) (hs : 0 < k → H.order.getD (k - 1) 0 ≠ 0) : k = t := by
  rcases Nat.lt_trichotomy k t with h1 | h1 | h1
  · have h2 := (h.t3 (by omega)).1
    exact absurd (hz (t - 1) (by omega) (by have := h.t1; omega)) h2
  · exact h1
  · exact absurd (h.t2 (k - 1) (by omega) (by omega)) (hs (by omega))
end Go.Proofs.YtpaekbghnejhoaaDoor


namespace Go.Proofs.YtpaekbghnejhoaaDoor
open Go.RowKit
set_option linter.unusedVariables false
attribute [local go_sem ↓] Go.wp_at_zero Go.wp_at_succ
def allTo (H : HS) (k : Nat) : List Nat := (List.range k).filter fun o => 0 < (H.seats.getD o (0, 0, 0)).2.1
theorem allTo_succ (H : HS) (k : Nat) : allTo H (k + 1) = allTo H k ++ (if 0 < (H.seats.getD k (0, 0, 0)).2.1 then [k] else []) := by
  unfold allTo
  rw [List.range_succ, List.filter_append]
  congr 1
  by_cases h : 0 < (H.seats.getD k (0, 0, 0)).2.1
  · rw [if_pos h, List.filter_cons_of_pos (by simpa using h)]; rfl
  · rw [if_neg h, List.filter_cons_of_neg (by simpa using h)]; rfl
theorem allTo_len (H : HS) (k : Nat) : (allTo H k).length ≤ k := by
  have := List.length_filter_le (fun o => decide (0 < (H.seats.getD o (0, 0, 0)).2.1)) (List.range k)
  unfold allTo
  rwa [List.length_range] at this
set_option maxRecDepth 20000 in
set_option maxHeartbeats 2000000 in
theorem All_ok (a : Nat) (l : Lay) (H : HS) (w : World) (h : Rep w a l H) (hs : (H.seats.length : Int) ≤ 65538) :
    Calls Tryd.prog 11 #[.pointer (some ⟨a, 0, none⟩)] w fun e w' => ∃ v, e = .returned v ∧ w'.ownsRow w.heap.size 3 1 v (allTo H H.seats.length).length ((allTo H H.seats.length).map I) ∧ Fr [] w w' := by
  have c0 := h.c0
  have c5 := h.c5
  have hal := h.lt a (by simp [foot])
  obtain ⟨j0, ji, jz0, jz1, jz2⟩ := info_parts info3
  have HR := mkHid h
  clear h
  go_enter Tryd.func11, Tryd.ntmps11
  go_wp2_with (go_at_call 40; refine (made_any _ _ c0).mono ?_; rintro e w1 ⟨rfl, hw1⟩; rw [hw1]; clear hw1 w1)
  go_loopw [3, 14] (fun v q wr => ∃ k : Nat, k ≤ H.seats.length ∧ q = .int .i64 k ∧ wr.ownsRow w.heap.size 3 1 v (allTo H k).length ((allTo H k).map I) ∧ Hid (Fr [] w wr)) (fun _ q _ => H.seats.length - (intOf q).toNat)
  case atStart => exact ⟨0, Nat.zero_le _, rfl, World.ownsRow_nil _ _ _ _, Fr.refl _ _⟩
  case round =>
    obtain ⟨k, hkn, rfl, hown, hfr⟩ := hrel
    by_cases hlt : k < H.seats.length
    · have hr := HR.out.keep hfr.out (by simp)
      obtain ⟨gs, hgs, hcs, hfs, hgsa, hgsl⟩ := hr.seatAt k hlt
      obtain ⟨q0, q1, q2⟩ := hcs k hlt
      simp only [I] at q0 q1 q2
      have hsu := allTo_succ H k
      have hle := allTo_len H k
      rw [hgs]
      have k1 : (0 : Int) ≤ (k : Int) := by omega
      have k2 : (k : Int) < (H.seats.length : Int) := by omega
      have hz := hfr.out.size
      clear hr hcs hfs c5 c0 hgs
      generalize (H.seats.getD k (0, 0, 0)).1 = y0 at *
      generalize (H.seats.getD k (0, 0, 0)).2.1 = y1 at *
      generalize (H.seats.getD k (0, 0, 0)).2.2 = y2 at *
      have HSU := mkHid hsu
      clear hsu
      generalize hX : allTo H k = X at *
      clear hX
      by_cases hy : 0 < y1
      · have hy' : (0 : Int) < (y1 : Int) := by omega
        have HS2 := HSU.out
        rw [if_pos hy] at HS2
        have HS3 := mkHid HS2
        clear HS2 HSU hy
        have hown2 := (hown.alloc (.cells #[.int .i64 (y0 : Int), .int .i64 (y1 : Int), .int .i64 (y2 : Int)] 86)).alloc (.cells #[.int .i64 (k : Int)] 3)
        have HFA : Hid (Fr [] w ((wr.alloc (.cells #[.int .i64 (y0 : Int), .int .i64 (y1 : Int), .int .i64 (y2 : Int)] 86)).alloc (.cells #[.int .i64 (k : Int)] 3))) := (hfr.out.trans (Fr.alloc [] _ _) (by simp)).trans (Fr.alloc [] _ _) (by simp)
        clear hown
        go_wp2_with (first
          | (at_builtin; refine wpList_append_own _ rfl (.tmp 22) (.tmp 24) 26 rfl w.heap.size 3 j0 (.int .i64 0) 1 8 Tryd.underlying26 ji jz0 jz1 jz2 rfl (by decide) _ _ _ rfl hown2 ⟨wr.heap.size + 1, 0, none⟩ 1 1 [.int .i64 (k : Int)] rfl rfl ?c1 ?c2 ?c3 ?c4 ?c5 ?_)
          | go_in)
        case c1 =>
          have := World.news_of_block (heap_alloc_new (wr.alloc (.cells #[.int .i64 (y0 : Int), .int .i64 (y1 : Int), .int .i64 (y2 : Int)] 86)) (.cells #[.int .i64 (k : Int)] 3))
          simpa using this
        case c2 => intro u hu; simp at hu; subst hu; rfl
        case c3 => unfold maxLen; omega
        case c4 => omega
        case c5 => simp; omega
        intro v' w1 hown' hgrow _
        have HG : Hid (Fr [] w w1) := by
          refine ⟨hgrow.os.trans HFA.out.os, hgrow.tape.trans HFA.out.tape, hgrow.output.trans HFA.out.output, Nat.le_trans HFA.out.size hgrow.size, fun i hi hn => ?_⟩
          rw [hgrow.block i (Nat.lt_of_lt_of_le hi HFA.out.size) (fun e => ?_)]
          · exact HFA.out.block i hi hn
          · have := (hown2.lt i e.symm).1
            omega
        have HO := mkHid hown'
        clear hown' hgrow hown2 HFA
        go_wp2
        go_roundw
        case rel => exact ⟨k + 1, by omega, by go_num, by rw [HS3.out]; simpa [I] using HO.out, HG⟩
        case measure => simp [intOf]; omega
      · have hy' : (y1 : Int) ≤ 0 := by omega
        have HS2 := HSU.out
        rw [if_neg hy, List.append_nil] at HS2
        have HS3 := mkHid HS2
        have HO := mkHid (hown.alloc (.cells #[.int .i64 (y0 : Int), .int .i64 (y1 : Int), .int .i64 (y2 : Int)] 86))
        have HFA : Hid (Fr [] w (wr.alloc (.cells #[.int .i64 (y0 : Int), .int .i64 (y1 : Int), .int .i64 (y2 : Int)] 86))) := hfr.out.trans (Fr.alloc [] _ _) (by simp)
        clear HS2 HSU hy hown
        go_wp2
        go_roundw
        case rel => exact ⟨k + 1, by omega, by go_num, by rw [HS3.out]; exact HO.out, HFA⟩
        case measure => simp [intOf]; omega
    · have hke : k = H.seats.length := by omega
      subst hke
      have HO := mkHid hown
      clear hown c5 c0
      go_wp2
      go_ret
      exact ⟨_, rfl, HO.out, hfr.out⟩
end Go.Proofs.YtpaekbghnejhoaaDoor


namespace Go.Proofs.YtpaekbghnejhoaaDoor
open Go.RowKit
set_option linter.unusedVariables false
attribute [local go_sem ↓] Go.wp_at_zero Go.wp_at_succ
end Go.Proofs.YtpaekbghnejhoaaDoor


namespace Go.Proofs.YtpaekbghnejhoaaDoor
open Go.RowKit
set_option linter.unusedVariables false
attribute [local go_sem ↓] Go.wp_at_zero Go.wp_at_succ
set_option maxRecDepth 20000 in
set_option maxHeartbeats 2000000 in
theorem Keep_no (zs : List Int) (j0 : Nat) (b off c : Nat) (a : Nat) (l : Lay) (H : HS) (w : World) (h : Rep w a l H) (hj0 : j0 < zs.length) (hpre : ∀ j, j < j0 → has H (zs.getD j 0) = true) (hbad : has H (zs.getD j0 0) = false)
    (ht1 : H.seats.length ≤ 65538) (hb : b < w.heap.size) (hbn : b ∉ foot a l) (hin : ∀ j, j < zs.length → w.cell? ⟨b, off + j, none⟩ = some (.int .i64 (zs.getD j 0))) (hkl : (zs.length : Int) ≤ 9223372036854775807) :
    Calls Tryd.prog 39 #[.pointer (some ⟨a, 0, none⟩), .slice (some ⟨b, off, none⟩) zs.length c] w fun e w' => e = .returned (.tuple #[.int .i64 0, .int .i64 0, .int .i64 20]) ∧ Rep w' a l H ∧ Nx a l l w w' := by
  have hal := h.lt a (by simp [foot])
  have c0 := h.c0
  have c5 := h.c5
  have hmk := make_bools H.seats.length (by omega)
  have HR := mkHid h
  have HIN := mkHid hin
  have HP := mkHid hpre
  have HBad := mkHid hbad
  clear h hin hpre hbad
  go_enter Tryd.func39, Tryd.ntmps39
  go_wp2_with (go_at_call 40; refine (made_any _ _ c0).mono ?_; rintro e w1 ⟨rfl, hw1⟩; rw [hw1]; clear hw1 w1)
  go_loopw [27] (fun q wr => ∃ k : Nat, k ≤ j0 ∧ q = .int .i64 k ∧ Hid (Rep wr a l H ∧ Nx a l l w wr ∧ ∃ C, C.size = H.seats.length ∧ wr.heap[w.heap.size]? = some (.cells C 4 (0, 0)))) (fun q _ => zs.length - (intOf q).toNat)
  case atStart => exact ⟨0, Nat.zero_le _, rfl, HR.out.alloc _, Nx.frw (Fr.alloc _ _ _), _, by simp [keptL_len], heap_alloc_new _ _⟩
  case round =>
    obtain ⟨k, hkn, rfl, hq⟩ := hrel
    obtain ⟨hr, hx, C, hCs, hkb⟩ := hq.out
    clear hq
    have hin := (hx.1.cell (p := ⟨b, off + k, none⟩) hb hbn).trans (HIN.out k (by omega))
    have k1 : (0 : Int) ≤ (k : Int) := by omega
    have k2 : (k : Int) < (zs.length : Int) := by omega
    by_cases hlt : k < j0
    · have hp := HP.out k hlt
      obtain ⟨j, hj⟩ : ∃ j : Nat, zs.getD k 0 = (j : Int) := by
        have h1 := of_decide_eq_true hp
        exact ⟨(zs.getD k 0).toNat, by omega⟩
      rw [hj] at hin hp
      obtain ⟨j1, j2, j3⟩ := has_yes hp
      have HSO := mkHid (seatOf_yes j a l H wr hr j1 j2 j3)
      obtain ⟨⟨p, L, t⟩, hs⟩ : ∃ s, s = H.seats.getD j (0, 0, 0) := ⟨_, rfl⟩
      rw [← hs] at HSO
      dsimp only [sv, I] at HSO
      have k3 : (0 : Int) ≤ (j : Int) := by omega
      have k4 : (j : Int) < (H.seats.length : Int) := by omega
      have hkl2 := lt_of_heap hkb
      have HRr := mkHid hr
      have HXr := mkHid hx
      have HKB := mkHid hkb
      have HCs := mkHid hCs
      clear hr hx hkb hs j3 hj hp hCs
      go_wp2_with fail
      refine Calls.mono HSO.out ?_
      rintro e w1 ⟨rfl, hf1⟩
      have z1 := hf1.size
      have hkb2 := (Below.heap_alloc w1 (.cells #[.int .i64 (p : Int), .int .i64 (L : Int), .int .i64 (t : Int)] 86) w.heap.size (by omega)).trans ((hf1.block _ hkl2 (by simp)).trans HKB.out)
      have cl := cell_in hkb2 j
      have fl := frozen_in hkb2 j
      rw [Array.getElem?_eq_getElem (by rw [HCs.out]; omega)] at cl
      have HE : Hid (∀ W, Eqw ((w1.alloc (.cells #[.int .i64 (p : Int), .int .i64 (L : Int), .int .i64 (t : Int)] 86)).setCell ⟨w.heap.size, j, none⟩ (.bool true)) W → Rep W a l H ∧ Nx a l l w W ∧ ∃ C, C.size = H.seats.length ∧ W.heap[w.heap.size]? = some (.cells C 4 (0, 0))) := by
        intro W he
        have F1 : Fr [] wr (w1.alloc (.cells #[.int .i64 (p : Int), .int .i64 (L : Int), .int .i64 (t : Int)] 86)) := hf1.trans (Fr.alloc [] _ _) (by simp)
        have hr1 := HRr.out.keep F1 (by simp)
        have hnf : w.heap.size ∉ foot a l := fun hm => by have := HR.out.lt _ hm; omega
        refine ⟨(hr1.congr fun g hg => set_else (fun e => hnf (by rw [← e]; exact hg))).eqw he, Nx.eqw ⟨?_, fun b hb => .inl hb⟩ he, C.setIfInBounds j (.bool true), by simpa using HCs.out, ?_⟩
        · refine (HXr.out.1.trans (F1.mono (S' := foot a l) (by simp)) (fun b hb => .inl hb)).trans (Fr.setCell (S := [w.heap.size]) _ _ _ (by simp)) (fun b hb => by simp at hb; subst hb; right; exact Nat.le_refl _)
        · rw [he.2.2.2, set_in hkb2 j (.bool true)]
      have HF1 := mkHid hf1
      generalize C[j]'(by rw [HCs.out]; omega) = old at cl
      clear hf1 hkb2 HSO
      go_wp2
      go_roundw
      case rel => exact ⟨k + 1, by omega, by go_num, HE.out _ ⟨rfl, rfl, rfl, rfl⟩⟩
      case measure => simp [intOf]; omega
    · have hke : k = j0 := by omega
      subst hke
      have HSO := mkHid (seatOf_none _ a l H wr hr HBad.out)
      have HRr := mkHid hr
      have HXr := mkHid hx
      generalize zs.getD k 0 = zv at *
      clear hr hx hkb hCs
      go_wp2_with fail
      refine Calls.mono HSO.out ?_
      rintro e w1 ⟨rfl, hf1⟩
      have F2 : Fr [] wr (w1.alloc (.cells #[.int .i64 0, .int .i64 0, .int .i64 0] 86)) := hf1.trans (Fr.alloc [] _ _) (by simp)
      have HF := mkHid F2
      clear hf1 F2 HSO
      go_wp2
      go_ret3
      exact ⟨rfl, HRr.out.keep HF.out (by simp), HXr.out.trans (Nx.frw (HF.out.mono (by simp)))⟩
end Go.Proofs.YtpaekbghnejhoaaDoor


namespace Go.Proofs.YtpaekbghnejhoaaDoor
open Go.RowKit
set_option linter.unusedVariables false
attribute [local go_sem ↓] Go.wp_at_zero Go.wp_at_succ
/-- a thing of the model: what it must be, and where its slots lie -/
structure Th where
  there : Bool
  cls : Int
  fmt : Nat
  place : Nat
  slots : List Int
  p : Option Addr
  c : Nat
/-- the model, and where its things lie -/
structure MS where
  words : Nat
  oops : Nat
  mark : Nat
  things : List Th
  pt : Option Addr
  ct : Nat
def noTh : Th := ⟨false, 0, 0, 0, [], none, 0⟩
def thCells (l : List Th) : List Value := l.flatMap fun t => [.bool t.there, .int .i64 t.cls, I t.fmt, I t.place, .slice t.p t.slots.length t.c]
def mcells (M : MS) : Array Value := #[I M.words, I M.oops, I M.mark, .slice M.pt M.things.length M.ct]
def mslots (M : MS) : List Nat := M.things.flatMap fun t => blk t.p
def mfoot (m : Nat) (M : MS) : List Nat := m :: (blk M.pt ++ mslots M)
theorem mslots_mem {M : MS} {t : Th} (ht : t ∈ M.things) {g : Nat} (hg : g ∈ blk t.p) : g ∈ mslots M := List.mem_flatMap.2 ⟨t, ht, hg⟩
theorem thCells_len (S : List Th) : (thCells S).length = S.length * 5 := by
  induction S with
  | nil => rfl
  | cons s S ih =>
    have e : thCells (s :: S) = [.bool s.there, .int .i64 s.cls, I s.fmt, I s.place, .slice s.p s.slots.length s.c] ++ thCells S := by simp [thCells]
    rw [e, List.length_append, ih]; simp; omega
theorem thCells_at (S : List Th) : ∀ k, k < S.length → (thCells S)[k * 5]? = some (.bool (S.getD k noTh).there) ∧ (thCells S)[k * 5 + 1]? = some (.int .i64 (S.getD k noTh).cls) ∧ (thCells S)[k * 5 + 2]? = some (I (S.getD k noTh).fmt) ∧
    (thCells S)[k * 5 + 3]? = some (I (S.getD k noTh).place) ∧ (thCells S)[k * 5 + 4]? = some (.slice (S.getD k noTh).p (S.getD k noTh).slots.length (S.getD k noTh).c) := by
  induction S with
  | nil => intro k hk; simp at hk
  | cons s S ih =>
    intro k hk
    have e : thCells (s :: S) = [.bool s.there, .int .i64 s.cls, I s.fmt, I s.place, .slice s.p s.slots.length s.c] ++ thCells S := by simp [thCells]
    cases k with
    | zero => rw [e]; exact ⟨rfl, rfl, rfl, rfl, rfl⟩
    | succ k =>
      have := ih k (by simpa using hk)
      have ea : ∀ j, ([Value.bool s.there, .int .i64 s.cls, I s.fmt, I s.place, .slice s.p s.slots.length s.c] ++ thCells S)[(k + 1) * 5 + j]? = (thCells S)[k * 5 + j]? := fun j => by
        rw [List.getElem?_append_right (by simp; omega)]
        congr 1
        simp
        omega
      rw [e]
      exact ⟨(ea 0).trans this.1, (ea 1).trans this.2.1, (ea 2).trans this.2.2.1, (ea 3).trans this.2.2.2.1, (ea 4).trans this.2.2.2.2⟩
set_option maxHeartbeats 400000 in
theorem refLen_any (n f : Nat) (w : World) (hn : (n : Int) ≤ 1048576) :
    Calls Tryd.prog 91 #[.int .i64 n, .int .i64 f] w fun e w' => e = .returned (.int .i64 (lenN n f : Nat)) ∧ w' = w := by
  by_cases hf : f = 1
  · subst hf
    go_enter Tryd.func91, Tryd.ntmps91
    go_wp2
    go_ret
    refine ⟨ret_int ?_, rfl⟩
    simp only [lenN, if_true]
    push_cast
    first | rfl | omega | (simp; omega)
  · have hf' : ((f : Int) == 1) = false := by simpa using (by omega : ¬ (f : Int) = 1)
    go_enter Tryd.func91, Tryd.ntmps91
    go_wp2
    go_ret
    refine ⟨ret_int ?_, rfl⟩
    simp only [lenN, if_neg hf]
    push_cast
    first | rfl | omega | (simp; omega)
def thereTo (S : List Th) (k : Nat) : Nat := ((S.take k).filter (·.there)).length
theorem thereTo_succ (S : List Th) (k : Nat) (hk : k < S.length) : thereTo S (k + 1) = thereTo S k + (if (S.getD k noTh).there then 1 else 0) := by
  unfold thereTo
  rw [List.take_add_one, List.filter_append, List.length_append, List.getD_eq_getElem?_getD, List.getElem?_eq_getElem hk]
  simp only [Option.toList_some, Option.getD_some]
  by_cases h : S[k].there = true
  · simp [h]
  · simp [h]
theorem thereTo_le (S : List Th) (k : Nat) : thereTo S k ≤ k := Nat.le_trans (List.length_filter_le _ _) (by simp; omega)
def endTo (S : List Th) : Nat → Nat
  | 0 => 0
  | k + 1 => if (S.getD k noTh).there ∧ endTo S k < (S.getD k noTh).place + lenN (S.getD k noTh).slots.length (S.getD k noTh).fmt then (S.getD k noTh).place + lenN (S.getD k noTh).slots.length (S.getD k noTh).fmt else endTo S k
theorem endTo_succ (S : List Th) (k : Nat) : endTo S (k + 1) = if (S.getD k noTh).there ∧ endTo S k < (S.getD k noTh).place + lenN (S.getD k noTh).slots.length (S.getD k noTh).fmt then (S.getD k noTh).place + lenN (S.getD k noTh).slots.length (S.getD k noTh).fmt else endTo S k := rfl
theorem endTo_le (S : List Th) (B : Nat) (k : Nat) (h : ∀ j, j < k → (S.getD j noTh).place + lenN (S.getD j noTh).slots.length (S.getD j noTh).fmt ≤ B) : endTo S k ≤ B := by
  induction k with
  | zero => exact Nat.zero_le _
  | succ k ih =>
    have := h k (by omega)
    have := ih fun j hj => h j (by omega)
    rw [endTo_succ]
    split <;> omega
theorem lenN_le (n f : Nat) : lenN n f ≤ 2 + n := by unfold lenN; split <;> omega
/-- bounds of the model's numbers -/
structure MOk (M : MS) : Prop where
  len : (M.things.length : Int) ≤ 65538
  slots : ∀ k, k < M.things.length → ((M.things.getD k noTh).slots.length : Int) ≤ 8192
  place : ∀ k, k < M.things.length → ((M.things.getD k noTh).place : Int) ≤ 1048576
end Go.Proofs.YtpaekbghnejhoaaDoor


namespace Go.Proofs.YtpaekbghnejhoaaDoor
open Go.RowKit
set_option linter.unusedVariables false
attribute [local go_sem ↓] Go.wp_at_zero Go.wp_at_succ
/-- the lowest oop that is free -/
def lowTo (S : List Th) : Nat := (S.takeWhile (·.there)).length + 1
theorem lowTo_at (S : List Th) (k : Nat) (hk : k < S.length) (h1 : ∀ j, j < k → (S.getD j noTh).there = true) (h2 : (S.getD k noTh).there = false) : lowTo S = k + 1 := by
  unfold lowTo
  congr 1
  induction S generalizing k with
  | nil => simp at hk
  | cons s S ih =>
    cases k with
    | zero => simp only [List.getD_cons_zero] at h2; rw [List.takeWhile_cons_of_neg (by simpa using h2)]; rfl
    | succ k =>
      have h0 := h1 0 (by omega)
      simp only [List.getD_cons_zero] at h0
      rw [List.takeWhile_cons_of_pos h0, List.length_cons]
      congr 1
      exact ih k (by simpa using hk) (fun j hj => by simpa using h1 (j + 1) (by omega)) (by simpa using h2)
theorem lowTo_full (S : List Th) (h1 : ∀ j, j < S.length → (S.getD j noTh).there = true) : lowTo S = S.length + 1 := by
  unfold lowTo
  congr 1
  induction S with
  | nil => rfl
  | cons s S ih =>
    have h0 := h1 0 (by simp)
    simp only [List.getD_cons_zero] at h0
    rw [List.takeWhile_cons_of_pos h0, List.length_cons, List.length_cons]
    congr 1
    exact ih fun j hj => by simpa using h1 (j + 1) (by simpa using hj)
def mhas (M : MS) (oop : Int) : Bool := decide (1 ≤ oop ∧ oop ≤ M.things.length ∧ (M.things.getD (oop.toNat - 1) noTh).there = true)
theorem mhas_yes {M : MS} {oop : Int} (h : mhas M oop = true) : ∃ k : Nat, oop = (k : Int) + 1 ∧ k < M.things.length ∧ (M.things.getD k noTh).there = true := by
  have h1 := of_decide_eq_true h
  exact ⟨oop.toNat - 1, by omega, by omega, h1.2.2⟩
theorem mhas_of {M : MS} (k : Nat) (hk : k < M.things.length) (h : (M.things.getD k noTh).there = true) : mhas M ((k : Int) + 1) = true :=
  decide_eq_true ⟨by omega, by omega, by rw [show ((k : Int) + 1).toNat - 1 = k from by omega]; exact h⟩
end Go.Proofs.YtpaekbghnejhoaaDoor


