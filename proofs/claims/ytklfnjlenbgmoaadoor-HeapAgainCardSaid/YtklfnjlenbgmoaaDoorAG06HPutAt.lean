import Derived.Test.YtklfnjlenbgmoaaDoorAG05HSeat
namespace Go.Proofs.YtklfnjlenbgmoaaDoor
open Go.RowKit
set_option linter.unusedVariables false
attribute [local go_sem ↓] Go.wp_at_zero Go.wp_at_succ
set_option maxRecDepth 20000 in
set_option maxHeartbeats 1000000 in
theorem setSlot_w (s : Nat × Nat × Nat) (i : Nat) (v : Int) (a : Nat) (l : Lay) (H : HS) (w : World) (h : Rep w a l H) (h1 : s.1 + 2 + i < H.mem.length) (hb : (H.mem.length : Int) ≤ 1048576) :
    Calls Tryd.prog 73 #[.pointer (some ⟨a, 0, none⟩), sv s, .int .i64 0, .int .i64 i, .int .i64 v] w fun e w' => e = .returned (.tuple #[]) ∧ Rep w' a l { H with mem := H.mem.set (s.1 + 2 + i) v } ∧ Nx a l l w w' := by
  obtain ⟨g, hg, hcg, hfg, hga, hgl⟩ := h.memBlock (by omega)
  have q := hcg (s.1 + 2 + i) h1
  have fq := hfg (s.1 + 2 + i)
  have c4 := h.c4
  rw [hg] at c4
  have hal := h.lt a (by simp [foot])
  have HE : Hid (∀ o W, Eqw ((w.setCell ⟨g, s.1 + 2 + i, none⟩ (.int .i64 v)).alloc o) W → Rep W a l { H with mem := H.mem.set (s.1 + 2 + i) v } ∧ Nx a l l w W) := by
    intro o W he
    have K := h.setMem hg (s.1 + 2 + i) h1 v _ ⟨rfl, rfl, rfl, rfl⟩
    exact ⟨(K.1.alloc o).eqw he, (K.2.trans (Nx.frw (Fr.alloc _ _ _))).eqw he⟩
  have k1 : (s.1 : Int) + 2 + (i : Int) < (H.mem.length : Int) := by omega
  have k2 : (0 : Int) ≤ (s.1 : Int) + 2 + (i : Int) := by omega
  have k3 : IntKind.i64.wrap ((s.1 : Int) + 2) = (s.1 : Int) + 2 := by rw [iwrap]; unfold wrap64; omega
  have k4 : IntKind.i64.wrap ((s.1 : Int) + 2 + (i : Int)) = (s.1 : Int) + 2 + (i : Int) := by rw [iwrap]; unfold wrap64; omega
  clear h hcg hfg
  obtain ⟨p, L, t⟩ := s
  dsimp only [sv, I] at *
  generalize H.mem.getD (p + 2 + i) 0 = old at *
  generalize hm : H.mem.length = m at *
  have HMM := mkHid hm
  clear hm
  go_enter Tryd.func73, Tryd.ntmps73
  go_wp2
  go_region
  all_goals go_wp2
  all_goals
    refine bodyPost_ret (results_none rfl _ _ _) rfl ?_
    exact ⟨rfl, HE.out _ _ ⟨rfl, rfl, rfl, rfl⟩⟩
theorem andNot_i64 (a b : Nat) (ha : a < 9223372036854775808) (hb : b < 9223372036854775808) : Go.bits .andNot .i64 (a : Int) (b : Int) = ((a &&& (18446744073709551615 - b) : Nat) : Int) := by
  show IntKind.i64.wrap ((BitVec.ofInt 64 (a : Int) &&& ~~~ BitVec.ofInt 64 (b : Int)).toNat : Int) = _
  rw [BitVec.toNat_and, BitVec.toNat_not, ofInt_u64 a (by omega), ofInt_u64 b (by omega), iwrap]
  have hl : a &&& (2 ^ 64 - 1 - b) ≤ a := Nat.and_le_left
  unfold wrap64
  rw [show (18446744073709551615 : Nat) = 2 ^ 64 - 1 from rfl]
  omega
theorem and_hi (m : Nat) (hm : m < 4294967296) : m &&& (18446744073709551615 - 255) = m / 256 * 256 := by
  apply Nat.eq_of_testBit_eq
  intro i
  rw [Nat.testBit_and, show 18446744073709551615 - 255 = 2 ^ 64 - (255 + 1) from rfl, Nat.testBit_two_pow_sub_succ (by omega), show (255 : Nat) = 2 ^ 8 - 1 from rfl, Nat.testBit_two_pow_sub_one, show m / 256 * 256 = m / 2 ^ 8 * 2 ^ 8 from rfl, Nat.testBit_mul_two_pow, Nat.testBit_div_two_pow]
  by_cases h8 : i < 8
  · have : ¬ 8 ≤ i := by omega
    simp [h8, this]
  · have h8' : 8 ≤ i := by omega
    rw [show i - 8 + 8 = i from by omega]
    by_cases h64 : i < 64
    · simp [h8, h8', h64]
    · have : m.testBit i = false := Nat.testBit_lt_two_pow (Nat.lt_of_lt_of_le (m := 2 ^ 32) hm (Nat.pow_le_pow_right (n := 2) (by omega) (by omega)))
      simp [this]
theorem put_0 (m v : Nat) (hm : m < 4294967296) (hv : v < 256) : Go.bits .or .i64 (Go.bits .andNot .i64 (m : Int) 255) (v : Int) = ((m / 256 * 256 + v : Nat) : Int) := by
  have h1 : Go.bits .andNot .i64 (m : Int) 255 = ((m / 256 * 256 : Nat) : Int) := by
    have hx := andNot_i64 m 255 (by omega) (by omega)
    rw [show ((255 : Nat) : Int) = 255 from rfl] at hx
    rw [hx]
    congr 1
    exact and_hi m (by omega)
  rw [h1, or_i64 _ _ (by omega) (by omega)]
  congr 1
  have h2 := Nat.shiftLeft_add_eq_or_of_lt (i := 8) (b := v) (by omega) (m / 256)
  rw [Nat.shiftLeft_eq] at h2
  rw [show m / 256 * 256 = m / 256 * 2 ^ 8 from rfl, ← h2]
set_option maxRecDepth 20000 in
set_option maxHeartbeats 1000000 in
theorem setSlot_b0 (s : Nat × Nat × Nat) (i : Nat) (v : Nat) (old : Nat) (a : Nat) (l : Lay) (H : HS) (w : World) (h : Rep w a l H) (h1 : s.1 + 2 + i / 4 < H.mem.length) (hb : (H.mem.length : Int) ≤ 1048576) (hr : i % 4 = 0) (hold : H.mem.getD (s.1 + 2 + i / 4) 0 = (old : Int)) (hi : (i : Int) ≤ 1048576) (hv : (v : Int) ≤ 255) (ho : (old : Int) ≤ 4294967295) :
    Calls Tryd.prog 73 #[.pointer (some ⟨a, 0, none⟩), sv s, .int .i64 1, .int .i64 i, .int .i64 v] w fun e w' => e = .returned (.tuple #[]) ∧ Rep w' a l { H with mem := H.mem.set (s.1 + 2 + i / 4) ((old / 256 * 256 + v : Nat) : Int) } ∧ Nx a l l w w' := by
  obtain ⟨g, hg, hcg, hfg, hga, hgl⟩ := h.memBlock (by omega)
  have q := hcg (s.1 + 2 + i / 4) h1
  have fq := hfg (s.1 + 2 + i / 4)
  rw [hold] at q
  have c4 := h.c4
  rw [hg] at c4
  have hal := h.lt a (by simp [foot])
  obtain ⟨p0, L, t⟩ := s
  dsimp only at *
  have hba : ∀ W : World, Calls Tryd.prog 107 #[.agg #[.int .i64 (p0 : Int), .int .i64 (L : Int), .int .i64 (t : Int)], .int .i64 i] W fun e w' => e = .returned (.tuple #[.int .i64 ((p0 + 2 + i / 4 : Nat) : Int), .int .i64 0]) ∧ Fr [] W w' := by
    intro W
    have := byteAt_any (p0, L, t) i W (by dsimp only; omega) hi
    rw [hr] at this
    exact this
  have HB := mkHid hba
  have HE : Hid (∀ W W', Fr [] w W → Eqw (W.setCell ⟨g, p0 + 2 + i / 4, none⟩ (.int .i64 ((old / 256 * 256 + v : Nat) : Int))) W' → Rep W' a l { H with mem := H.mem.set (p0 + 2 + i / 4) ((old / 256 * 256 + v : Nat) : Int) } ∧ Nx a l l w W') := by
    intro W W' hW he
    have K := (h.keep hW (by simp)).setMem hg (p0 + 2 + i / 4) h1 _ W' he
    exact ⟨K.1, (Nx.frw (hW.mono (by simp))).trans K.2⟩
  have hor : Go.bits .or .i64 (Go.bits .andNot .i64 (old : Int) 255) (v : Int) = ((old / 256 * 256 + v : Nat) : Int) := put_0 old v (by omega) (by omega)
  have k1 : ((p0 + 2 + i / 4 : Nat) : Int) < (H.mem.length : Int) := by omega
  have k2 : (0 : Int) ≤ ((p0 + 2 + i / 4 : Nat) : Int) := by omega
  clear h hcg hfg hba hold
  unfold sv
  dsimp only [I]
  generalize hp : p0 + 2 + i / 4 = p at *
  clear hp
  generalize hm : H.mem.length = m at *
  clear hm
  go_enter Tryd.func73, Tryd.ntmps73
  go_wp2_with fail
  refine (HB.out _).mono ?_
  rintro e w1 ⟨rfl, hf1⟩
  have d4 := (hf1.cell (p := ⟨a, 4, none⟩) (by simp; omega) (by simp)).trans ((World.cell?_alloc_lt w _ ⟨a, 4, none⟩ hal).trans c4)
  have dq := (hf1.cell (p := ⟨g, p, none⟩) (by simp; omega) (by simp)).trans ((World.cell?_alloc_lt w _ ⟨g, p, none⟩ hgl).trans q)
  have df := (hf1.frozen (p := ⟨g, p, none⟩) (by simp; omega) (by simp)).trans ((World.frozen?_alloc_old w _ ⟨g, p, none⟩ (by show g ≠ _; omega)).trans fq)
  have HF1 := mkHid ((Fr.alloc [] w _).trans hf1 (by simp))
  clear hf1 HB
  go_wp2
  go_region
  all_goals go_wp2
  all_goals
    go_end0
    exact ⟨rfl, HE.out _ _ HF1.out ⟨rfl, rfl, rfl, rfl⟩⟩
theorem and255 (n : Int) : Go.bits .and .i64 n 255 = n % 256 := by
  unfold Go.bits
  simp only [BitVec.toNat_and, BitVec.toNat_ofInt]
  rw [iwrap]
  have e : ((255 : Int) % ((2 ^ IntKind.i64.bits : Nat) : Int)).toNat = 2 ^ 8 - 1 := by decide
  rw [e, Nat.and_two_pow_sub_one_eq_mod]
  have e2 : ((2 ^ IntKind.i64.bits : Nat) : Int) = 18446744073709551616 := by decide
  rw [e2]
  unfold wrap64
  omega
set_option maxRecDepth 20000 in
set_option maxHeartbeats 1000000 in
theorem slot_b0 (s : Nat × Nat × Nat) (i : Nat) (old : Nat) (a : Nat) (l : Lay) (H : HS) (w : World) (h : Rep w a l H) (h1 : s.1 + 2 + i / 4 < H.mem.length) (hb : (H.mem.length : Int) ≤ 1048576) (hr : i % 4 = 0) (hold : H.mem.getD (s.1 + 2 + i / 4) 0 = (old : Int)) (hi : (i : Int) ≤ 1048576) :
    Calls Tryd.prog 98 #[.pointer (some ⟨a, 0, none⟩), sv s, .int .i64 1, .int .i64 i] w fun e w' => e = .returned (.int .i64 ((old % 256 : Nat) : Int)) ∧ Fr [] w w' := by
  obtain ⟨g, hg, hcg, hfg, hga, hgl⟩ := h.memBlock (by omega)
  have q := hcg (s.1 + 2 + i / 4) h1
  rw [hold] at q
  have c4 := h.c4
  rw [hg] at c4
  have hal := h.lt a (by simp [foot])
  obtain ⟨p0, L, t⟩ := s
  dsimp only at *
  have hba : ∀ W : World, Calls Tryd.prog 107 #[.agg #[.int .i64 (p0 : Int), .int .i64 (L : Int), .int .i64 (t : Int)], .int .i64 i] W fun e w' => e = .returned (.tuple #[.int .i64 ((p0 + 2 + i / 4 : Nat) : Int), .int .i64 0]) ∧ Fr [] W w' := by
    intro W
    have := byteAt_any (p0, L, t) i W (by dsimp only; omega) hi
    rw [hr] at this
    exact this
  have HB := mkHid hba
  have ha := and255 (old : Int)
  have k1 : ((p0 + 2 + i / 4 : Nat) : Int) < (H.mem.length : Int) := by omega
  have k2 : (0 : Int) ≤ ((p0 + 2 + i / 4 : Nat) : Int) := by omega
  clear h hcg hfg hba hold
  unfold sv
  dsimp only [I]
  generalize hp : p0 + 2 + i / 4 = p at *
  clear hp
  generalize hm : H.mem.length = m at *
  clear hm
  go_enter Tryd.func98, Tryd.ntmps98
  go_wp2_with fail
  refine (HB.out _).mono ?_
  rintro e w1 ⟨rfl, hf1⟩
  have d4 := (hf1.cell (p := ⟨a, 4, none⟩) (by simp; omega) (by simp)).trans ((World.cell?_alloc_lt w _ ⟨a, 4, none⟩ hal).trans c4)
  have dq := (hf1.cell (p := ⟨g, p, none⟩) (by simp; omega) (by simp)).trans ((World.cell?_alloc_lt w _ ⟨g, p, none⟩ hgl).trans q)
  have HF1 := mkHid ((Fr.alloc [] w _).trans hf1 (by simp))
  clear hf1 HB
  go_wp2
  go_ret
  exact ⟨ret_int (by omega), HF1.out⟩
set_option maxRecDepth 20000 in
set_option maxHeartbeats 1000000 in
theorem slot_w (s : Nat × Nat × Nat) (i : Nat) (a : Nat) (l : Lay) (H : HS) (w : World) (h : Rep w a l H) (h1 : s.1 + 2 + i < H.mem.length) (hb : (H.mem.length : Int) ≤ 1048576) :
    Calls Tryd.prog 98 #[.pointer (some ⟨a, 0, none⟩), sv s, .int .i64 0, .int .i64 i] w fun e w' => e = .returned (.int .i64 (H.mem.getD (s.1 + 2 + i) 0)) ∧ Fr [] w w' := by
  obtain ⟨g, hg, hcg, hfg, hga, hgl⟩ := h.memBlock (by omega)
  have q := hcg (s.1 + 2 + i) h1
  have c4 := h.c4
  rw [hg] at c4
  have hal := h.lt a (by simp [foot])
  have k1 : (s.1 : Int) + 2 + (i : Int) < (H.mem.length : Int) := by omega
  have k2 : (0 : Int) ≤ (s.1 : Int) + 2 + (i : Int) := by omega
  have k3 : IntKind.i64.wrap ((s.1 : Int) + 2) = (s.1 : Int) + 2 := by rw [iwrap]; unfold wrap64; omega
  have k4 : IntKind.i64.wrap ((s.1 : Int) + 2 + (i : Int)) = (s.1 : Int) + 2 + (i : Int) := by rw [iwrap]; unfold wrap64; omega
  clear h hcg hfg
  obtain ⟨p, L, t⟩ := s
  dsimp only [sv, I] at *
  generalize H.mem.getD (p + 2 + i) 0 = old at *
  generalize hm : H.mem.length = m at *
  clear hm
  go_enter Tryd.func98, Tryd.ntmps98
  go_wp2
  go_quiet (fail)
  go_wp2
  go_ret
  exact ⟨rfl, (Fr.alloc [] w _).trans (Fr.drewN [] _ _) (by simp)⟩
end Go.Proofs.YtklfnjlenbgmoaaDoor
namespace Go.Proofs.YtklfnjlenbgmoaaDoor
open Go.RowKit
set_option linter.unusedVariables false
attribute [local go_sem ↓] Go.wp_at_zero Go.wp_at_succ
theorem Tab.fr {w w' : World} (h : Tab w) (hf : Fr [] w w') (h1 : 0 < w.heap.size) : Tab w' := h.keep hf h1 (by simp)
set_option maxRecDepth 20000 in
set_option maxHeartbeats 2000000 in
theorem Put_ok (oop i n f : Nat) (v : Int) (a : Nat) (l : Lay) (H H' : HS) (w : World) (h : Rep w a l H) (hb : (H.mem.length : Int) ≤ 1048576) (h1 : (1 : Int) ≤ oop) (h2 : (oop : Int) < H.seats.length)
    (h3 : (H.seats.getD oop (0, 0, 0)).2.1 ≠ 0) (h4 : (H.seats.getD oop (0, 0, 0)).1 + 1 < H.mem.length) (h5 : H.mem.getD ((H.seats.getD oop (0, 0, 0)).1 + 1) 0 = ((2 * n + f : Nat) : Int)) (hf : (f : Int) ≤ 1) (hi : (i : Int) < n) (hn : (n : Int) ≤ 8192) (hm : mayB v f = true) (hT : Tab w)
    (hset : ∀ W, Rep W a l H → Calls Tryd.prog 73 #[.pointer (some ⟨a, 0, none⟩), sv (H.seats.getD oop (0, 0, 0)), .int .i64 f, .int .i64 i, .int .i64 v] W fun e w' => e = .returned (.tuple #[]) ∧ Rep w' a l H' ∧ Nx a l l W w') :
    Calls Tryd.prog 29 #[.pointer (some ⟨a, 0, none⟩), .int .i64 oop, .int .i64 i, .int .i64 v] w fun e w' => e = .returned (.int .i64 0) ∧ Rep w' a l H' ∧ Nx a l l w w' := by
  have hal := h.lt a (by simp [foot])
  have HSO := mkHid (seatOf_yes oop a l H w h h1 h2 h3)
  obtain ⟨⟨p, L, t⟩, hs⟩ : ∃ s, s = H.seats.getD oop (0, 0, 0) := ⟨_, rfl⟩
  rw [← hs] at HSO h4 h5
  have HSET := mkHid hset
  rw [← hs] at HSET
  have HSH : Hid (∀ W, Rep W a l H → Calls Tryd.prog 71 #[.pointer (some ⟨a, 0, none⟩), .agg #[.int .i64 (p : Int), .int .i64 (L : Int), .int .i64 (t : Int)]] W fun e w' => e = .returned (.tuple #[.int .i64 (n : Int), .int .i64 (f : Int)]) ∧ Fr [] W w') := by
    intro W hW
    have := shape_of (p, L, t) (2 * n + f) a l H W hW h4 h5 hb
    rw [show (2 * n + f) / 2 = n from by omega, show (2 * n + f) % 2 = f from by omega] at this
    exact this
  have HMS : Hid (∀ W, Tab W → Calls Tryd.prog 72 #[.int .i64 v, .int .i64 f] W fun e w' => e = .returned (.bool true) ∧ w' = W) := by
    intro W hW
    have := mayStand_any v f W hW
    rw [hm] at this
    exact this
  have HR := mkHid h
  have HT := mkHid hT
  clear h hs hset hT hm h3 h5 h4 h2
  dsimp only [sv, I] at HSO HSET
  go_enter Tryd.func29, Tryd.ntmps29
  go_wp2_with fail
  refine Calls.mono HSO.out ?_
  rintro e w1 ⟨rfl, hf1⟩
  have hz1 := hf1.size
  have HF1 := mkHid hf1
  clear hf1 HSO
  go_wp2_with fail
  have F2 : Fr [] w (w1.alloc (.cells #[.int .i64 (p : Int), .int .i64 (L : Int), .int .i64 (t : Int)] 103)) := HF1.out.trans (Fr.alloc [] _ _) (by simp)
  refine Calls.mono (HSH.out _ (HR.out.keep F2 (by simp))) ?_
  rintro e w2 ⟨rfl, hf2⟩
  have HF2 := mkHid (F2.trans hf2 (by simp))
  have z2 := hf2.size
  have s0 := hf2.cell (p := ⟨w1.heap.size, 0, none⟩) (by simp) (by simp)
  have s1 := hf2.cell (p := ⟨w1.heap.size, 1, none⟩) (by simp) (by simp)
  have s2 := hf2.cell (p := ⟨w1.heap.size, 2, none⟩) (by simp) (by simp)
  simp only [World.cell?_alloc_new, List.getElem?_toArray, List.getElem?_cons_succ, List.getElem?_cons_zero] at s0 s1 s2
  clear hf2 F2 HSH
  go_wp2_with fail
  refine Calls.mono (HMS.out _ (HT.out.fr HF2.out (by omega))) ?_
  rintro e w3 ⟨rfl, rfl⟩
  clear HMS
  go_wp2_with fail
  refine Calls.mono (HSET.out _ (HR.out.keep HF2.out (by simp))) ?_
  rintro e w4 ⟨rfl, hr4, hx4⟩
  have HR4 := mkHid hr4
  have HX4 := mkHid ((Nx.frw (HF2.out.mono (by simp)) : Nx a l l w w3).trans hx4)
  clear hr4 hx4 HSET
  go_wp2
  go_ret
  exact ⟨rfl, HR4.out, HX4.out⟩
set_option maxRecDepth 20000 in
set_option maxHeartbeats 2000000 in
theorem At_ok (oop i n f : Nat) (v : Int) (a : Nat) (l : Lay) (H : HS) (w : World) (h : Rep w a l H) (hb : (H.mem.length : Int) ≤ 1048576) (h1 : (1 : Int) ≤ oop) (h2 : (oop : Int) < H.seats.length)
    (h3 : (H.seats.getD oop (0, 0, 0)).2.1 ≠ 0) (h4 : (H.seats.getD oop (0, 0, 0)).1 + 1 < H.mem.length) (h5 : H.mem.getD ((H.seats.getD oop (0, 0, 0)).1 + 1) 0 = ((2 * n + f : Nat) : Int)) (hf : (f : Int) ≤ 1) (hi : (i : Int) < n) (hn : (n : Int) ≤ 8192)
    (hget : ∀ W, Rep W a l H → Calls Tryd.prog 98 #[.pointer (some ⟨a, 0, none⟩), sv (H.seats.getD oop (0, 0, 0)), .int .i64 f, .int .i64 i] W fun e w' => e = .returned (.int .i64 v) ∧ Fr [] W w') :
    Calls Tryd.prog 47 #[.pointer (some ⟨a, 0, none⟩), .int .i64 oop, .int .i64 i] w fun e w' => e = .returned (.tuple #[.int .i64 v, .int .i64 0]) ∧ Fr [] w w' := by
  have hal := h.lt a (by simp [foot])
  have HSO := mkHid (seatOf_yes oop a l H w h h1 h2 h3)
  obtain ⟨⟨p, L, t⟩, hs⟩ : ∃ s, s = H.seats.getD oop (0, 0, 0) := ⟨_, rfl⟩
  rw [← hs] at HSO h4 h5
  have HSET := mkHid hget
  rw [← hs] at HSET
  have HSH : Hid (∀ W, Rep W a l H → Calls Tryd.prog 71 #[.pointer (some ⟨a, 0, none⟩), .agg #[.int .i64 (p : Int), .int .i64 (L : Int), .int .i64 (t : Int)]] W fun e w' => e = .returned (.tuple #[.int .i64 (n : Int), .int .i64 (f : Int)]) ∧ Fr [] W w') := by
    intro W hW
    have := shape_of (p, L, t) (2 * n + f) a l H W hW h4 h5 hb
    rw [show (2 * n + f) / 2 = n from by omega, show (2 * n + f) % 2 = f from by omega] at this
    exact this
  have HR := mkHid h
  clear h hs hget h3 h5 h4 h2
  dsimp only [sv, I] at HSO HSET
  go_enter Tryd.func47, Tryd.ntmps47
  go_wp2_with fail
  refine Calls.mono HSO.out ?_
  rintro e w1 ⟨rfl, hf1⟩
  have hz1 := hf1.size
  have HF1 := mkHid hf1
  clear hf1 HSO
  go_wp2_with fail
  have F2 : Fr [] w (w1.alloc (.cells #[.int .i64 (p : Int), .int .i64 (L : Int), .int .i64 (t : Int)] 103)) := HF1.out.trans (Fr.alloc [] _ _) (by simp)
  refine Calls.mono (HSH.out _ (HR.out.keep F2 (by simp))) ?_
  rintro e w2 ⟨rfl, hf2⟩
  have HF2 := mkHid (F2.trans hf2 (by simp))
  have z2 := hf2.size
  have s0 := hf2.cell (p := ⟨w1.heap.size, 0, none⟩) (by simp) (by simp)
  have s1 := hf2.cell (p := ⟨w1.heap.size, 1, none⟩) (by simp) (by simp)
  have s2 := hf2.cell (p := ⟨w1.heap.size, 2, none⟩) (by simp) (by simp)
  simp only [World.cell?_alloc_new, List.getElem?_toArray, List.getElem?_cons_succ, List.getElem?_cons_zero] at s0 s1 s2
  clear hf2 F2 HSH
  go_wp2_with fail
  refine Calls.mono (HSET.out _ (HR.out.keep HF2.out (by simp))) ?_
  rintro e w4 ⟨rfl, hf4⟩
  have HX4 := mkHid (HF2.out.trans hf4 (by simp))
  clear hf4 HSET
  go_wp2
  go_ret2
  exact ⟨rfl, HX4.out⟩
theorem Rep.orderAt {w : World} {a : Nat} {l : Lay} {H : HS} (h : Rep w a l H) (k : Nat) (hk : k < H.order.length) :
    ∃ g, l.po = some ⟨g, 0, none⟩ ∧ (∀ i, i < H.order.length → w.cell? ⟨g, i, none⟩ = some (.int .i64 (H.order.getD i 0 : Nat))) ∧ (∀ i, w.frozen? ⟨g, i, none⟩ = false) ∧ g ≠ a ∧ g < w.heap.size := by
  obtain ⟨g, hg, hc, hf, _, cur, hcur, _⟩ := own_at h.order k hk
  refine ⟨g, hg, fun i hi => ?_, hf, h.top_ne g (by simp [Lay.blocks, blk, hg]), lt_of_heap hcur⟩
  rw [hc i hi]; simp [I, hi]
theorem Rep.setOrder {w : World} {a : Nat} {l : Lay} {H : HS} {g : Nat} (h : Rep w a l H) (hg : l.po = some ⟨g, 0, none⟩) (i v : Nat) (w2 : World) (he : Eqw (w.setCell ⟨g, i, none⟩ (.int .i64 (v : Int))) w2) :
    Rep w2 a l { H with order := H.order.set i v } ∧ Nx a l l w w2 := by
  have hgb : g ∈ blk l.po := by rw [hg]; simp [blk]
  have hap := (h.apart g).2.2.1 hgb
  have hb := h.order
  rw [hg] at hb
  have hb1 := own_stored hb i (.int .i64 (v : Int))
  have e : (H.order.map I).set i (.int .i64 (v : Int)) = (H.order.set i v).map I := by rw [List.map_set]; rfl
  rw [e, ← hg] at hb1
  have h2 : Rep (w.setCell ⟨g, i, none⟩ (.int .i64 (v : Int))) a l { H with order := H.order.set i v } := by
    refine h.turnOrder (by simp) (fun k hk => set_else (fun e => ?_)) (by simpa using hb1)
    subst e
    rcases hk with h1 | h1 | h1 | h1
    · exact hap.1 h1
    · exact hap.2.1 h1
    · exact hap.2.2.1 h1
    · exact hap.2.2.2 h1
  have f1 : Fr (foot a l) w (w.setCell ⟨g, i, none⟩ (.int .i64 (v : Int))) := Fr.setCell _ _ _ (by simp [foot, Lay.blocks, hgb])
  exact ⟨h2.eqw he, (Nx.frw f1).eqw he⟩
end Go.Proofs.YtklfnjlenbgmoaaDoor
