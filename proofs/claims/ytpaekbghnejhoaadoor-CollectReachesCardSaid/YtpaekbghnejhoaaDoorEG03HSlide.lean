import Derived.Test.YtpaekbghnejhoaaDoorEG02HKey
import Derived.Laws.CopyOwn
import Derived.Deep.MidRow
namespace Go.Proofs.YtpaekbghnejhoaaDoor
open Go.RowKit
set_option linter.unusedVariables false
attribute [local go_sem ↓] Go.wp_at_zero Go.wp_at_succ
set_option maxRecDepth 20000 in
set_option maxHeartbeats 1000000 in
theorem setSlot_w (s : Nat × Nat × Nat) (i : Nat) (v : Int) (a : Nat) (l : Lay) (H : HS) (w : World) (h : Rep w a l H) (h1 : s.1 + 2 + i < H.mem.length) (hb : (H.mem.length : Int) ≤ 1048576) :
    Calls Tryd.prog 51 #[.pointer (some ⟨a, 0, none⟩), sv s, .int .i64 0, .int .i64 i, .int .i64 v] w fun e w' => e = .returned (.tuple #[]) ∧ Rep w' a l { H with mem := H.mem.set (s.1 + 2 + i) v } ∧ Nx a l l w w' := by
  obtain ⟨g, hg, hcg, hfg, hga, hgl⟩ := h.memBlock (by omega)
  have q := hcg (s.1 + 2 + i) h1
  have fq := hfg (s.1 + 2 + i)
  have c4 := h.c4
  rw [hg] at c4
  have hal := h.lt a (by simp [foot])
  have HE : Hid (∀ o W, Eqw ((w.setCell ⟨g, s.1 + 2 + i, none⟩ (.int .i64 v)).alloc o) W → Rep W a l { H with mem := H.mem.set (s.1 + 2 + i) v } ∧ Nx a l l w W) := by
    intro o W he
    have K := h.setMem hg (s.1 + 2 + i) h1 v _ ⟨rfl, rfl, rfl, rfl⟩
    exact ⟨(K.1.alloc o).eqw he, (K.2.trans (Nx.frw (Fr.alloc _ _ _))).eqw he⟩
  have k1 : (s.1 : Int) + 2 + (i : Int) < (H.mem.length : Int) := by omega
  have k2 : (0 : Int) ≤ (s.1 : Int) + 2 + (i : Int) := by omega
  have k3 : IntKind.i64.wrap ((s.1 : Int) + 2) = (s.1 : Int) + 2 := by rw [iwrap]; unfold wrap64; omega
  have k4 : IntKind.i64.wrap ((s.1 : Int) + 2 + (i : Int)) = (s.1 : Int) + 2 + (i : Int) := by rw [iwrap]; unfold wrap64; omega
  clear h hcg hfg
  obtain ⟨p, L, t⟩ := s
  dsimp only [sv, I] at *
  generalize H.mem.getD (p + 2 + i) 0 = old at *
  generalize hm : H.mem.length = m at *
  have HMM := mkHid hm
  clear hm
  go_enter Tryd.func51, Tryd.ntmps51
  go_wp2
  go_region
  all_goals go_wp2
  all_goals
    refine bodyPost_ret (results_none rfl _ _ _) rfl ?_
    exact ⟨rfl, HE.out _ _ ⟨rfl, rfl, rfl, rfl⟩⟩
theorem andNot_i64 (a b : Nat) (ha : a < 9223372036854775808) (hb : b < 9223372036854775808) : Go.bits .andNot .i64 (a : Int) (b : Int) = ((a &&& (18446744073709551615 - b) : Nat) : Int) := by
  show IntKind.i64.wrap ((BitVec.ofInt 64 (a : Int) &&& ~~~ BitVec.ofInt 64 (b : Int)).toNat : Int) = _
  rw [BitVec.toNat_and, BitVec.toNat_not, ofInt_u64 a (by omega), ofInt_u64 b (by omega), iwrap]
  have hl : a &&& (2 ^ 64 - 1 - b) ≤ a := Nat.and_le_left
  unfold wrap64
  rw [show (18446744073709551615 : Nat) = 2 ^ 64 - 1 from rfl]
  omega
theorem and_hi (m : Nat) (hm : m < 4294967296) : m &&& (18446744073709551615 - 255) = m / 256 * 256 := by
  apply Nat.eq_of_testBit_eq
  intro i
  rw [Nat.testBit_and, show 18446744073709551615 - 255 = 2 ^ 64 - (255 + 1) from rfl, Nat.testBit_two_pow_sub_succ (by omega), show (255 : Nat) = 2 ^ 8 - 1 from rfl, Nat.testBit_two_pow_sub_one, show m / 256 * 256 = m / 2 ^ 8 * 2 ^ 8 from rfl, Nat.testBit_mul_two_pow, Nat.testBit_div_two_pow]
  by_cases h8 : i < 8
  · have : ¬ 8 ≤ i := by omega
    simp [h8, this]
  · have h8' : 8 ≤ i := by omega
    rw [show i - 8 + 8 = i from by omega]
    by_cases h64 : i < 64
    · simp [h8, h8', h64]
    · have : m.testBit i = false := Nat.testBit_lt_two_pow (Nat.lt_of_lt_of_le (m := 2 ^ 32) hm (Nat.pow_le_pow_right (n := 2) (by omega) (by omega)))
      simp [this]
theorem put_0 (m v : Nat) (hm : m < 4294967296) (hv : v < 256) : Go.bits .or .i64 (Go.bits .andNot .i64 (m : Int) 255) (v : Int) = ((m / 256 * 256 + v : Nat) : Int) := by
  have h1 : Go.bits .andNot .i64 (m : Int) 255 = ((m / 256 * 256 : Nat) : Int) := by
    have hx := andNot_i64 m 255 (by omega) (by omega)
    rw [show ((255 : Nat) : Int) = 255 from rfl] at hx
    rw [hx]
    congr 1
    exact and_hi m (by omega)
  rw [h1, or_i64 _ _ (by omega) (by omega)]
  congr 1
  have h2 := Nat.shiftLeft_add_eq_or_of_lt (i := 8) (b := v) (by omega) (m / 256)
  rw [Nat.shiftLeft_eq] at h2
  rw [show m / 256 * 256 = m / 256 * 2 ^ 8 from rfl, ← h2]
set_option maxRecDepth 20000 in
set_option maxHeartbeats 1000000 in
theorem setSlot_b0 (s : Nat × Nat × Nat) (i : Nat) (v : Nat) (old : Nat) (a : Nat) (l : Lay) (H : HS) (w : World) (h : Rep w a l H) (h1 : s.1 + 2 + i / 4 < H.mem.length) (hb : (H.mem.length : Int) ≤ 1048576) (hr : i % 4 = 0) (hold : H.mem.getD (s.1 + 2 + i / 4) 0 = (old : Int)) (hi : (i : Int) ≤ 1048576) (hv : (v : Int) ≤ 255) (ho : (old : Int) ≤ 4294967295) :
    Calls Tryd.prog 51 #[.pointer (some ⟨a, 0, none⟩), sv s, .int .i64 1, .int .i64 i, .int .i64 v] w fun e w' => e = .returned (.tuple #[]) ∧ Rep w' a l { H with mem := H.mem.set (s.1 + 2 + i / 4) ((old / 256 * 256 + v : Nat) : Int) } ∧ Nx a l l w w' := by
  obtain ⟨g, hg, hcg, hfg, hga, hgl⟩ := h.memBlock (by omega)
  have q := hcg (s.1 + 2 + i / 4) h1
  have fq := hfg (s.1 + 2 + i / 4)
  rw [hold] at q
  have c4 := h.c4
  rw [hg] at c4
  have hal := h.lt a (by simp [foot])
  obtain ⟨p0, L, t⟩ := s
  dsimp only at *
  have hba : ∀ W : World, Calls Tryd.prog 83 #[.agg #[.int .i64 (p0 : Int), .int .i64 (L : Int), .int .i64 (t : Int)], .int .i64 i] W fun e w' => e = .returned (.tuple #[.int .i64 ((p0 + 2 + i / 4 : Nat) : Int), .int .i64 0]) ∧ Fr [] W w' := by
    intro W
    have := byteAt_any (p0, L, t) i W (by dsimp only; omega) hi
    rw [hr] at this
    exact this
  have HB := mkHid hba
  have HE : Hid (∀ W W', Fr [] w W → Eqw (W.setCell ⟨g, p0 + 2 + i / 4, none⟩ (.int .i64 ((old / 256 * 256 + v : Nat) : Int))) W' → Rep W' a l { H with mem := H.mem.set (p0 + 2 + i / 4) ((old / 256 * 256 + v : Nat) : Int) } ∧ Nx a l l w W') := by
    intro W W' hW he
    have K := (h.keep hW (by simp)).setMem hg (p0 + 2 + i / 4) h1 _ W' he
    exact ⟨K.1, (Nx.frw (hW.mono (by simp))).trans K.2⟩
  have hor : Go.bits .or .i64 (Go.bits .andNot .i64 (old : Int) 255) (v : Int) = ((old / 256 * 256 + v : Nat) : Int) := put_0 old v (by omega) (by omega)
  have k1 : ((p0 + 2 + i / 4 : Nat) : Int) < (H.mem.length : Int) := by omega
  have k2 : (0 : Int) ≤ ((p0 + 2 + i / 4 : Nat) : Int) := by omega
  clear h hcg hfg hba hold
  unfold sv
  dsimp only [I]
  generalize hp : p0 + 2 + i / 4 = p at *
  clear hp
  generalize hm : H.mem.length = m at *
  clear hm
  go_enter Tryd.func51, Tryd.ntmps51
  go_wp2_with fail
  refine (HB.out _).mono ?_
  rintro e w1 ⟨rfl, hf1⟩
  have d4 := (hf1.cell (p := ⟨a, 4, none⟩) (by simp; omega) (by simp)).trans ((World.cell?_alloc_lt w _ ⟨a, 4, none⟩ hal).trans c4)
  have dq := (hf1.cell (p := ⟨g, p, none⟩) (by simp; omega) (by simp)).trans ((World.cell?_alloc_lt w _ ⟨g, p, none⟩ hgl).trans q)
  have df := (hf1.frozen (p := ⟨g, p, none⟩) (by simp; omega) (by simp)).trans ((World.frozen?_alloc_old w _ ⟨g, p, none⟩ (by show g ≠ _; omega)).trans fq)
  have HF1 := mkHid ((Fr.alloc [] w _).trans hf1 (by simp))
  clear hf1 HB
  go_wp2
  go_region
  all_goals go_wp2
  all_goals
    go_end0
    exact ⟨rfl, HE.out _ _ HF1.out ⟨rfl, rfl, rfl, rfl⟩⟩
theorem and255 (n : Int) : Go.bits .and .i64 n 255 = n % 256 := by
  unfold Go.bits
  simp only [BitVec.toNat_and, BitVec.toNat_ofInt]
  rw [iwrap]
  have e : ((255 : Int) % ((2 ^ IntKind.i64.bits : Nat) : Int)).toNat = 2 ^ 8 - 1 := by decide
  rw [e, Nat.and_two_pow_sub_one_eq_mod]
  have e2 : ((2 ^ IntKind.i64.bits : Nat) : Int) = 18446744073709551616 := by decide
  rw [e2]
  unfold wrap64
  omega
set_option maxRecDepth 20000 in
set_option maxHeartbeats 1000000 in
theorem slot_b0 (s : Nat × Nat × Nat) (i : Nat) (old : Nat) (a : Nat) (l : Lay) (H : HS) (w : World) (h : Rep w a l H) (h1 : s.1 + 2 + i / 4 < H.mem.length) (hb : (H.mem.length : Int) ≤ 1048576) (hr : i % 4 = 0) (hold : H.mem.getD (s.1 + 2 + i / 4) 0 = (old : Int)) (hi : (i : Int) ≤ 1048576) :
    Calls Tryd.prog 52 #[.pointer (some ⟨a, 0, none⟩), sv s, .int .i64 1, .int .i64 i] w fun e w' => e = .returned (.int .i64 ((old % 256 : Nat) : Int)) ∧ Fr [] w w' := by
  obtain ⟨g, hg, hcg, hfg, hga, hgl⟩ := h.memBlock (by omega)
  have q := hcg (s.1 + 2 + i / 4) h1
  rw [hold] at q
  have c4 := h.c4
  rw [hg] at c4
  have hal := h.lt a (by simp [foot])
  obtain ⟨p0, L, t⟩ := s
  dsimp only at *
  have hba : ∀ W : World, Calls Tryd.prog 83 #[.agg #[.int .i64 (p0 : Int), .int .i64 (L : Int), .int .i64 (t : Int)], .int .i64 i] W fun e w' => e = .returned (.tuple #[.int .i64 ((p0 + 2 + i / 4 : Nat) : Int), .int .i64 0]) ∧ Fr [] W w' := by
    intro W
    have := byteAt_any (p0, L, t) i W (by dsimp only; omega) hi
    rw [hr] at this
    exact this
  have HB := mkHid hba
  have ha := and255 (old : Int)
  have k1 : ((p0 + 2 + i / 4 : Nat) : Int) < (H.mem.length : Int) := by omega
  have k2 : (0 : Int) ≤ ((p0 + 2 + i / 4 : Nat) : Int) := by omega
  clear h hcg hfg hba hold
  unfold sv
  dsimp only [I]
  generalize hp : p0 + 2 + i / 4 = p at *
  clear hp
  generalize hm : H.mem.length = m at *
  clear hm
  go_enter Tryd.func52, Tryd.ntmps52
  go_wp2_with fail
  refine (HB.out _).mono ?_
  rintro e w1 ⟨rfl, hf1⟩
  have d4 := (hf1.cell (p := ⟨a, 4, none⟩) (by simp; omega) (by simp)).trans ((World.cell?_alloc_lt w _ ⟨a, 4, none⟩ hal).trans c4)
  have dq := (hf1.cell (p := ⟨g, p, none⟩) (by simp; omega) (by simp)).trans ((World.cell?_alloc_lt w _ ⟨g, p, none⟩ hgl).trans q)
  have HF1 := mkHid ((Fr.alloc [] w _).trans hf1 (by simp))
  clear hf1 HB
  go_wp2
  go_ret
  exact ⟨ret_int (by omega), HF1.out⟩
set_option maxRecDepth 20000 in
set_option maxHeartbeats 1000000 in
theorem slot_w (s : Nat × Nat × Nat) (i : Nat) (a : Nat) (l : Lay) (H : HS) (w : World) (h : Rep w a l H) (h1 : s.1 + 2 + i < H.mem.length) (hb : (H.mem.length : Int) ≤ 1048576) :
    Calls Tryd.prog 52 #[.pointer (some ⟨a, 0, none⟩), sv s, .int .i64 0, .int .i64 i] w fun e w' => e = .returned (.int .i64 (H.mem.getD (s.1 + 2 + i) 0)) ∧ Fr [] w w' := by
  obtain ⟨g, hg, hcg, hfg, hga, hgl⟩ := h.memBlock (by omega)
  have q := hcg (s.1 + 2 + i) h1
  have c4 := h.c4
  rw [hg] at c4
  have hal := h.lt a (by simp [foot])
  have k1 : (s.1 : Int) + 2 + (i : Int) < (H.mem.length : Int) := by omega
  have k2 : (0 : Int) ≤ (s.1 : Int) + 2 + (i : Int) := by omega
  have k3 : IntKind.i64.wrap ((s.1 : Int) + 2) = (s.1 : Int) + 2 := by rw [iwrap]; unfold wrap64; omega
  have k4 : IntKind.i64.wrap ((s.1 : Int) + 2 + (i : Int)) = (s.1 : Int) + 2 + (i : Int) := by rw [iwrap]; unfold wrap64; omega
  clear h hcg hfg
  obtain ⟨p, L, t⟩ := s
  dsimp only [sv, I] at *
  generalize H.mem.getD (p + 2 + i) 0 = old at *
  generalize hm : H.mem.length = m at *
  clear hm
  go_enter Tryd.func52, Tryd.ntmps52
  go_wp2
  go_quiet (fail)
  go_wp2
  go_ret
  exact ⟨rfl, (Fr.alloc [] w _).trans (Fr.drewN [] _ _) (by simp)⟩
end Go.Proofs.YtpaekbghnejhoaaDoor


namespace Go.Proofs.YtpaekbghnejhoaaDoor
open Go.RowKit
set_option linter.unusedVariables false
attribute [local go_sem ↓] Go.wp_at_zero Go.wp_at_succ
theorem Tab.fr {w w' : World} (h : Tab w) (hf : Fr [] w w') (h1 : 0 < w.heap.size) : Tab w' := h.keep hf h1 (by simp)
set_option maxRecDepth 20000 in
set_option maxHeartbeats 2000000 in
theorem Put_ok (oop i n f : Nat) (v : Int) (a : Nat) (l : Lay) (H H' : HS) (w : World) (h : Rep w a l H) (hb : (H.mem.length : Int) ≤ 1048576) (h1 : (1 : Int) ≤ oop) (h2 : (oop : Int) < H.seats.length)
    (h3 : (H.seats.getD oop (0, 0, 0)).2.1 ≠ 0) (h4 : (H.seats.getD oop (0, 0, 0)).1 + 1 < H.mem.length) (h5 : H.mem.getD ((H.seats.getD oop (0, 0, 0)).1 + 1) 0 = ((2 * n + f : Nat) : Int)) (hf : (f : Int) ≤ 1) (hi : (i : Int) < n) (hn : (n : Int) ≤ 8192) (hm : mayB v f = true) (hT : Tab w)
    (hset : ∀ W, Rep W a l H → Calls Tryd.prog 51 #[.pointer (some ⟨a, 0, none⟩), sv (H.seats.getD oop (0, 0, 0)), .int .i64 f, .int .i64 i, .int .i64 v] W fun e w' => e = .returned (.tuple #[]) ∧ Rep w' a l H' ∧ Nx a l l W w') :
    Calls Tryd.prog 16 #[.pointer (some ⟨a, 0, none⟩), .int .i64 oop, .int .i64 i, .int .i64 v] w fun e w' => e = .returned (.int .i64 0) ∧ Rep w' a l H' ∧ Nx a l l w w' := by
  have hal := h.lt a (by simp [foot])
  have HSO := mkHid (seatOf_yes oop a l H w h h1 h2 h3)
  obtain ⟨⟨p, L, t⟩, hs⟩ : ∃ s, s = H.seats.getD oop (0, 0, 0) := ⟨_, rfl⟩
  rw [← hs] at HSO h4 h5
  have HSET := mkHid hset
  rw [← hs] at HSET
  have HSH : Hid (∀ W, Rep W a l H → Calls Tryd.prog 49 #[.pointer (some ⟨a, 0, none⟩), .agg #[.int .i64 (p : Int), .int .i64 (L : Int), .int .i64 (t : Int)]] W fun e w' => e = .returned (.tuple #[.int .i64 (n : Int), .int .i64 (f : Int)]) ∧ Fr [] W w') := by
    intro W hW
    have := shape_of (p, L, t) (2 * n + f) a l H W hW h4 h5 hb
    rw [show (2 * n + f) / 2 = n from by omega, show (2 * n + f) % 2 = f from by omega] at this
    exact this
  have HMS : Hid (∀ W, Tab W → Calls Tryd.prog 50 #[.int .i64 v, .int .i64 f] W fun e w' => e = .returned (.bool true) ∧ w' = W) := by
    intro W hW
    have := mayStand_any v f W hW
    rw [hm] at this
    exact this
  have HR := mkHid h
  have HT := mkHid hT
  clear h hs hset hT hm h3 h5 h4 h2
  dsimp only [sv, I] at HSO HSET
  go_enter Tryd.func16, Tryd.ntmps16
  go_wp2_with fail
  refine Calls.mono HSO.out ?_
  rintro e w1 ⟨rfl, hf1⟩
  have hz1 := hf1.size
  have HF1 := mkHid hf1
  clear hf1 HSO
  go_wp2_with fail
  have F2 : Fr [] w (w1.alloc (.cells #[.int .i64 (p : Int), .int .i64 (L : Int), .int .i64 (t : Int)] 86)) := HF1.out.trans (Fr.alloc [] _ _) (by simp)
  refine Calls.mono (HSH.out _ (HR.out.keep F2 (by simp))) ?_
  rintro e w2 ⟨rfl, hf2⟩
  have HF2 := mkHid (F2.trans hf2 (by simp))
  have z2 := hf2.size
  have s0 := hf2.cell (p := ⟨w1.heap.size, 0, none⟩) (by simp) (by simp)
  have s1 := hf2.cell (p := ⟨w1.heap.size, 1, none⟩) (by simp) (by simp)
  have s2 := hf2.cell (p := ⟨w1.heap.size, 2, none⟩) (by simp) (by simp)
  simp only [World.cell?_alloc_new, List.getElem?_toArray, List.getElem?_cons_succ, List.getElem?_cons_zero] at s0 s1 s2
  clear hf2 F2 HSH
  go_wp2_with fail
  refine Calls.mono (HMS.out _ (HT.out.fr HF2.out (by omega))) ?_
  rintro e w3 ⟨rfl, rfl⟩
  clear HMS
  go_wp2_with fail
  refine Calls.mono (HSET.out _ (HR.out.keep HF2.out (by simp))) ?_
  rintro e w4 ⟨rfl, hr4, hx4⟩
  have HR4 := mkHid hr4
  have HX4 := mkHid ((Nx.frw (HF2.out.mono (by simp)) : Nx a l l w w3).trans hx4)
  clear hr4 hx4 HSET
  go_wp2
  go_ret
  exact ⟨rfl, HR4.out, HX4.out⟩
set_option maxRecDepth 20000 in
set_option maxHeartbeats 2000000 in
theorem At_ok (oop i n f : Nat) (v : Int) (a : Nat) (l : Lay) (H : HS) (w : World) (h : Rep w a l H) (hb : (H.mem.length : Int) ≤ 1048576) (h1 : (1 : Int) ≤ oop) (h2 : (oop : Int) < H.seats.length)
    (h3 : (H.seats.getD oop (0, 0, 0)).2.1 ≠ 0) (h4 : (H.seats.getD oop (0, 0, 0)).1 + 1 < H.mem.length) (h5 : H.mem.getD ((H.seats.getD oop (0, 0, 0)).1 + 1) 0 = ((2 * n + f : Nat) : Int)) (hf : (f : Int) ≤ 1) (hi : (i : Int) < n) (hn : (n : Int) ≤ 8192)
    (hget : ∀ W, Rep W a l H → Calls Tryd.prog 52 #[.pointer (some ⟨a, 0, none⟩), sv (H.seats.getD oop (0, 0, 0)), .int .i64 f, .int .i64 i] W fun e w' => e = .returned (.int .i64 v) ∧ Fr [] W w') :
    Calls Tryd.prog 17 #[.pointer (some ⟨a, 0, none⟩), .int .i64 oop, .int .i64 i] w fun e w' => e = .returned (.tuple #[.int .i64 v, .int .i64 0]) ∧ Fr [] w w' := by
  have hal := h.lt a (by simp [foot])
  have HSO := mkHid (seatOf_yes oop a l H w h h1 h2 h3)
  obtain ⟨⟨p, L, t⟩, hs⟩ : ∃ s, s = H.seats.getD oop (0, 0, 0) := ⟨_, rfl⟩
  rw [← hs] at HSO h4 h5
  have HSET := mkHid hget
  rw [← hs] at HSET
  have HSH : Hid (∀ W, Rep W a l H → Calls Tryd.prog 49 #[.pointer (some ⟨a, 0, none⟩), .agg #[.int .i64 (p : Int), .int .i64 (L : Int), .int .i64 (t : Int)]] W fun e w' => e = .returned (.tuple #[.int .i64 (n : Int), .int .i64 (f : Int)]) ∧ Fr [] W w') := by
    intro W hW
    have := shape_of (p, L, t) (2 * n + f) a l H W hW h4 h5 hb
    rw [show (2 * n + f) / 2 = n from by omega, show (2 * n + f) % 2 = f from by omega] at this
    exact this
  have HR := mkHid h
  clear h hs hget h3 h5 h4 h2
  dsimp only [sv, I] at HSO HSET
  go_enter Tryd.func17, Tryd.ntmps17
  go_wp2_with fail
  refine Calls.mono HSO.out ?_
  rintro e w1 ⟨rfl, hf1⟩
  have hz1 := hf1.size
  have HF1 := mkHid hf1
  clear hf1 HSO
  go_wp2_with fail
  have F2 : Fr [] w (w1.alloc (.cells #[.int .i64 (p : Int), .int .i64 (L : Int), .int .i64 (t : Int)] 86)) := HF1.out.trans (Fr.alloc [] _ _) (by simp)
  refine Calls.mono (HSH.out _ (HR.out.keep F2 (by simp))) ?_
  rintro e w2 ⟨rfl, hf2⟩
  have HF2 := mkHid (F2.trans hf2 (by simp))
  have z2 := hf2.size
  have s0 := hf2.cell (p := ⟨w1.heap.size, 0, none⟩) (by simp) (by simp)
  have s1 := hf2.cell (p := ⟨w1.heap.size, 1, none⟩) (by simp) (by simp)
  have s2 := hf2.cell (p := ⟨w1.heap.size, 2, none⟩) (by simp) (by simp)
  simp only [World.cell?_alloc_new, List.getElem?_toArray, List.getElem?_cons_succ, List.getElem?_cons_zero] at s0 s1 s2
  clear hf2 F2 HSH
  go_wp2_with fail
  refine Calls.mono (HSET.out _ (HR.out.keep HF2.out (by simp))) ?_
  rintro e w4 ⟨rfl, hf4⟩
  have HX4 := mkHid (HF2.out.trans hf4 (by simp))
  clear hf4 HSET
  go_wp2
  go_ret2
  exact ⟨rfl, HX4.out⟩
theorem Rep.orderAt {w : World} {a : Nat} {l : Lay} {H : HS} (h : Rep w a l H) (k : Nat) (hk : k < H.order.length) :
    ∃ g, l.po = some ⟨g, 0, none⟩ ∧ (∀ i, i < H.order.length → w.cell? ⟨g, i, none⟩ = some (.int .i64 (H.order.getD i 0 : Nat))) ∧ (∀ i, w.frozen? ⟨g, i, none⟩ = false) ∧ g ≠ a ∧ g < w.heap.size := by
  obtain ⟨g, hg, hc, hf, _, cur, hcur, _⟩ := own_at h.order k hk
  refine ⟨g, hg, fun i hi => ?_, hf, h.top_ne g (by simp [Lay.blocks, blk, hg]), lt_of_heap hcur⟩
  rw [hc i hi]; simp [I, hi]
theorem Rep.setOrder {w : World} {a : Nat} {l : Lay} {H : HS} {g : Nat} (h : Rep w a l H) (hg : l.po = some ⟨g, 0, none⟩) (i v : Nat) (w2 : World) (he : Eqw (w.setCell ⟨g, i, none⟩ (.int .i64 (v : Int))) w2) :
    Rep w2 a l { H with order := H.order.set i v } ∧ Nx a l l w w2 := by
  have hgb : g ∈ blk l.po := by rw [hg]; simp [blk]
  have hap := (h.apart g).2.2.1 hgb
  have hb := h.order
  rw [hg] at hb
  have hb1 := own_stored hb i (.int .i64 (v : Int))
  have e : (H.order.map I).set i (.int .i64 (v : Int)) = (H.order.set i v).map I := by rw [List.map_set]; rfl
  rw [e, ← hg] at hb1
  have h2 : Rep (w.setCell ⟨g, i, none⟩ (.int .i64 (v : Int))) a l { H with order := H.order.set i v } := by
    refine h.turnOrder (by simp) (fun k hk => set_else (fun e => ?_)) (by simpa using hb1)
    subst e
    rcases hk with h1 | h1 | h1 | h1
    · exact hap.1 h1
    · exact hap.2.1 h1
    · exact hap.2.2.1 h1
    · exact hap.2.2.2 h1
  have f1 : Fr (foot a l) w (w.setCell ⟨g, i, none⟩ (.int .i64 (v : Int))) := Fr.setCell _ _ _ (by simp [foot, Lay.blocks, hgb])
  exact ⟨h2.eqw he, (Nx.frw f1).eqw he⟩
end Go.Proofs.YtpaekbghnejhoaaDoor


namespace Go.Proofs.YtpaekbghnejhoaaDoor
open Go.RowKit
set_option linter.unusedVariables false
attribute [local go_sem ↓] Go.wp_at_zero Go.wp_at_succ
def exchH (H : HS) (i j : Nat) : HS :=
  { H with seats := (H.seats.set i (H.seats.getD j (0, 0, 0))).set j (H.seats.getD i (0, 0, 0)), order := (H.order.set (H.seats.getD j (0, 0, 0)).2.2 i).set (H.seats.getD i (0, 0, 0)).2.2 j, age := H.age + 1 }
theorem eqw_drew (X : World) : Eqw X X.drew := ⟨rfl, rfl, rfl, rfl⟩
theorem exch_seats {w : World} {a : Nat} {l : Lay} {H : HS} {gs : Nat} (h : Rep w a l H) (hgs : l.ps = some ⟨gs, 0, none⟩) (i j : Nat) (hi : i < H.seats.length) (hj : j < H.seats.length) (x y : Nat × Nat × Nat) (W : World)
    (he : Eqw ((((((w.setCell ⟨gs, i * 3, none⟩ (I y.1)).setCell ⟨gs, i * 3 + 1, none⟩ (I y.2.1)).setCell ⟨gs, i * 3 + 2, none⟩ (I y.2.2)).setCell ⟨gs, j * 3, none⟩ (I x.1)).setCell ⟨gs, j * 3 + 1, none⟩ (I x.2.1)).setCell ⟨gs, j * 3 + 2, none⟩ (I x.2.2)) W) :
    Rep W a l { H with seats := (H.seats.set i y).set j x } ∧ Nx a l l w W ∧ ∀ k, k ≠ gs → W.heap[k]? = w.heap[k]? := by
  have K1 := h.setSeat hgs i hi y (((w.setCell ⟨gs, i * 3, none⟩ (I y.1)).setCell ⟨gs, i * 3 + 1, none⟩ (I y.2.1)).setCell ⟨gs, i * 3 + 2, none⟩ (I y.2.2)) ⟨rfl, rfl, rfl, rfl⟩
  have K2 := K1.1.setSeat hgs j (by simp; omega) x W he
  refine ⟨K2.1, K1.2.trans K2.2, fun k hk => ?_⟩
  rw [he.2.2.2, set_else hk, set_else hk, set_else hk, set_else hk, set_else hk, set_else hk]
theorem exch_order {w : World} {a : Nat} {l : Lay} {H H' : HS} {go : Nat} (h : Rep w a l H) (hgo : l.po = some ⟨go, 0, none⟩) (p q i j : Nat) (hH : H' = { H with order := (H.order.set p i).set q j, age := H.age + 1 }) (W : World)
    (he : Eqw (((w.setCell ⟨go, p, none⟩ (.int .i64 (i : Int))).setCell ⟨go, q, none⟩ (.int .i64 (j : Int))).setCell ⟨a, 10, none⟩ (.int .i64 ((H.age : Int) + 1))) W) : Rep W a l H' ∧ Nx a l l w W := by
  subst hH
  have K1 := h.setOrder hgo p i (w.setCell ⟨go, p, none⟩ (.int .i64 (i : Int))) ⟨rfl, rfl, rfl, rfl⟩
  have K2 := K1.1.setOrder hgo q j ((w.setCell ⟨go, p, none⟩ (.int .i64 (i : Int))).setCell ⟨go, q, none⟩ (.int .i64 (j : Int))) ⟨rfl, rfl, rfl, rfl⟩
  have K3 := K2.1.set (H' := { H with order := (H.order.set p i).set q j, age := H.age + 1 }) 10 (.int .i64 ((H.age : Int) + 1)) (by simp [hcells]) rfl rfl rfl rfl
  exact ⟨K3.eqw he, ((K1.2.trans K2.2).trans (Nx.fr (Fr.setCell (S := [a]) _ _ _ (by simp)))).eqw he⟩
end Go.Proofs.YtpaekbghnejhoaaDoor


namespace Go.Proofs.YtpaekbghnejhoaaDoor
open Go.RowKit
set_option linter.unusedVariables false
attribute [local go_sem ↓] Go.wp_at_zero Go.wp_at_succ
def remBits (bits : List Nat) (k : Nat) : List Nat := bits.set ((k - 1) / 64) (bits.getD ((k - 1) / 64) 0 &&& (full - 2 ^ ((k - 1) % 64)))
def remH (H : HS) (k : Nat) : HS := { H with bits := remBits H.bits k, low := min H.low ((k - 1) / 64), count := H.count - 1 }
theorem andNot_u64 (b j : Nat) (hb : b ≤ full) : Go.bits .andNot .u64 (b : Int) ((2 ^ (j % 64) : Nat) : Int) = ((b &&& (full - 2 ^ (j % 64)) : Nat) : Int) := by
  have h : 2 ^ (j % 64) < 2 ^ 64 := Nat.pow_lt_pow_right (by omega) (Nat.mod_lt _ (by omega))
  exact u64_andNot_nat b _ (by unfold full at hb; omega) (by omega)
theorem rem_done {w : World} {a : Nat} {l : Lay} {H : HS} {g i z lw : Nat} (h : Rep w a l H) (hg : l.pb = some ⟨g, 0, none⟩) (hc : 1 ≤ H.count) (W : World)
    (he : Eqw (((w.setCell ⟨g, i, none⟩ (.int .u64 (z : Int))).setCell ⟨a, 8, none⟩ (.int .i64 (lw : Int))).setCell ⟨a, 9, none⟩ (.int .i64 ((H.count : Int) - 1))) W) :
    Rep W a l { H with bits := H.bits.set i z, low := lw, count := H.count - 1 } ∧ Nx a l l w W := by
  have hgb : g ∈ blk l.pb := by rw [hg]; simp [blk]
  have hap := (h.apart g).2.2.2 hgb
  have hb := h.bits
  rw [hg] at hb
  have hb1 := own_stored hb i (.int .u64 (z : Int))
  rw [map_set_U, ← hg] at hb1
  have h2 : Rep (w.setCell ⟨g, i, none⟩ (.int .u64 (z : Int))) a l { H with bits := H.bits.set i z } := by
    refine h.turnBits (by simp) (fun k hk => set_else (fun e => ?_)) (by simpa using hb1)
    subst e
    rcases hk with h1 | h1 | h1 | h1
    · exact hap.1 h1
    · exact hap.2.1 h1
    · exact hap.2.2.1 h1
    · exact hap.2.2.2 h1
  have f1 : Fr (foot a l) w (w.setCell ⟨g, i, none⟩ (.int .u64 (z : Int))) := Fr.setCell _ _ _ (by simp [foot, Lay.blocks, hgb])
  have h3 := h2.set (H' := { H with bits := H.bits.set i z, low := lw }) 8 (.int .i64 (lw : Int)) rfl rfl rfl rfl rfl
  have h4 := h3.set (H' := { H with bits := H.bits.set i z, low := lw, count := H.count - 1 }) 9 (.int .i64 ((H.count : Int) - 1)) (by simp [hcells]; omega) rfl rfl rfl rfl
  exact ⟨h4.eqw he, (Nx.frw ((f1.trans (Fr.setCell (S := foot a l) _ _ _ (by simp [foot])) (fun b hb => .inl hb)).trans (Fr.setCell (S := foot a l) _ _ _ (by simp [foot])) (fun b hb => .inl hb))).eqw he⟩
set_option maxRecDepth 20000 in
set_option maxHeartbeats 1000000 in
theorem remove_any (k : Nat) (a : Nat) (l : Lay) (H : HS) (w : World) (h : Rep w a l H) (hk0 : (1 : Int) ≤ k) (hk1 : (k : Int) ≤ 65537) (hi : (k - 1) / 64 < H.bits.length) (hb : ∀ k, H.bits.getD k 0 ≤ full) (hc0 : 1 ≤ H.count) (hc : (H.count : Int) ≤ 100000) (hlw : (H.low : Int) ≤ 100000) :
    Calls Tryd.prog 98 #[.pointer (some ⟨a, 7, none⟩), .int .i64 k] w fun e w' => e = .returned (.tuple #[]) ∧ Rep w' a l (remH H k) ∧ Nx a l l w w' := by
  have hd : ((k : Int) - 1) / 64 = (((k - 1) / 64 : Nat) : Int) := by omega
  have hd2 : (((k - 1) / 64 : Nat) : Int) ≤ 1024 := by omega
  obtain ⟨g, hg, cg, fg, hga⟩ := h.bitAt _ hi
  have c7 := h.c7
  have c8 := h.c8
  have c9 := h.c9
  have f8 := h.frozen 8
  have f9 := h.frozen 9
  rw [hg] at c7
  have hou := andNot_u64 (H.bits.getD ((k - 1) / 64) 0) (k - 1) (hb _)
  obtain ⟨lw, hlw1, hlw2⟩ : ∃ lw, lw = min H.low ((k - 1) / 64) ∧ (if (((k - 1) / 64 : Nat) : Int) < (H.low : Int) then (((k - 1) / 64 : Nat) : Int) else (H.low : Int)) = (lw : Int) := by
    refine ⟨_, rfl, ?_⟩
    split <;> omega
  have HR : Hid (∀ W, Eqw (((w.setCell ⟨g, (k - 1) / 64, none⟩ (.int .u64 ((H.bits.getD ((k - 1) / 64) 0 &&& (full - 2 ^ ((k - 1) % 64)) : Nat) : Int))).setCell ⟨a, 8, none⟩ (.int .i64 (lw : Int))).setCell ⟨a, 9, none⟩ (.int .i64 ((H.count : Int) - 1))) W → Rep W a l (remH H k) ∧ Nx a l l w W) := by
    intro W he
    have K := rem_done h hg hc0 W he
    unfold remH remBits
    rw [← hlw1]
    exact K
  have i1 : (0 : Int) ≤ (((k - 1) / 64 : Nat) : Int) := by omega
  have i2 : (((k - 1) / 64 : Nat) : Int) < (H.bits.length : Int) := by omega
  have hl0 : (0 : Int) ≤ (H.low : Int) := by omega
  have HLW := mkHid hlw2
  clear h hb hg hi hlw1 hlw2
  generalize H.bits.getD ((k - 1) / 64) 0 &&& (full - 2 ^ ((k - 1) % 64)) = z at *
  generalize H.bits.getD ((k - 1) / 64) 0 = b at *
  have Hbit := bit_any k
  generalize 2 ^ ((k - 1) % 64) = y at *
  have HB := mkHid Hbit
  clear Hbit
  generalize (k - 1) / 64 = i at *
  generalize H.bits.length = n at *
  generalize remH H k = HX at *
  generalize H.count = cnt at *
  generalize H.low = low at *
  go_enter Tryd.func98, Tryd.ntmps98
  go_wp2
  simp only [hd]
  clear hd
  go_region_with (go_at_call 100; refine (HB.out _ hk0 (by omega)).mono ?_; rintro e w' ⟨rfl, rfl⟩)
  all_goals go_wp2
  all_goals
    go_end0
    have hh := HLW.out
    first
    | (rw [if_pos (by omega)] at hh; rw [← hh] at HR; exact ⟨rfl, HR.out _ (eqw_drew _)⟩)
    | (rw [if_neg (by omega)] at hh; rw [← hh] at HR; exact ⟨rfl, HR.out _ (eqw_drew _)⟩)
end Go.Proofs.YtpaekbghnejhoaaDoor


namespace Go.Proofs.YtpaekbghnejhoaaDoor
open Go.RowKit
set_option linter.unusedVariables false
theorem zv33 (w : World) : (zeroValue 40).run Tryd.prog w = .ok (.int .i64 0) w := by
  obtain ⟨i0, hi, hz0, hz1, hz2⟩ := info_parts info33
  simp [zeroValue, typeInfo, hi, hz0]
theorem run_clear80 (w : World) (ty : TypeId) (g o n c : Nat) (C : Array Value) (hn : 0 < n) (hg : w.heap[g]? = some (.cells C 40 (0, 0))) (hfit : o + n ≤ C.size) :
    (Builtin.clear_ #[25] ty #[.slice (some ⟨g, o, none⟩) n c]).run Tryd.prog w = .ok (.tuple #[]) (w.setRow g (splice C.toList o (zeros n)).toArray) := by
  have hzc : (Builtin.zeroCells (Value.int .i64 0).cells n).toList = zeros n := by
    show (Builtin.zeroCells #[.int .i64 0] n).toList = List.replicate n (.int .i64 0)
    simp [Builtin.zeroCells]
    apply List.ext_getElem
    · simp
    · intro i h1 h2
      simp [Nat.mod_one]
  have hst := run_storeCells_at Tryd.prog g o 40 (zeros n) 0 C w hg (by rw [zeros_len]; omega) (by intro v hv; rw [List.eq_of_mem_replicate hv]; rfl)
  obtain ⟨m, rfl⟩ : ∃ m, n = m + 1 := ⟨n - 1, by omega⟩
  simp only [Nat.add_zero, List.append_assoc] at hst
  simp [Builtin.clear_, run_underlying Tryd.underlying25, hzc, hst, splice]
theorem step_clear {ops : Array Oper} {o : Oper} {a : Act} {w : World} {K : Act → World → Prop} {Q : Exit → Act → World → Prop} {E : Prop} (hgd : o.guard = none) (d : Operand)
    (ho : o.op = .call { callee := .builtin .clear, args := #[d], argTypes := #[25] }) (g off n c : Nat) (hd : a.eval d = .slice (some ⟨g, off, none⟩) n c) (hn : 0 < n) (C : Array Value) (hg : w.heap[g]? = some (.cells C 40 (0, 0))) (hfit : off + n ≤ C.size)
    (h : ∀ w', w'.heap[g]? = some (.cells (splice C.toList off (zeros n)).toArray 40 (0, 0)) → Fr [g] w w' → w'.heap.size = w.heap.size → K (a.put o.dst (.tuple #[])) w') :
    if Region.wanted o (yielded ops a.tmps) = true then Oper.wp Tryd.prog o a w K Q else E := by
  have hw : Region.wanted o (yielded ops a.tmps) = true := by simp [Region.wanted, hgd]
  rw [if_pos hw]
  have hrun := run_clear80 w o.type g off n c C hn hg hfit
  unfold Oper.wp
  simp [execOp, ho, resolve, invoke, builtin, hd, hrun, Result.andThen]
  exact h _ (setRow_heap w g C _ 40 _ hg) (Fr.setRow w g _ (by simp)) (by simp)
theorem wpList_clear {ops : Array Oper} {rest : List Oper} {o : Oper} {a : Act} {w : World} {Q : Exit → Act → World → Prop} (hgd : o.guard = none) (d : Operand)
    (ho : o.op = .call { callee := .builtin .clear, args := #[d], argTypes := #[25] }) (g off n c : Nat) (hd : a.eval d = .slice (some ⟨g, off, none⟩) n c) (hn : 0 < n) (C : Array Value) (hg : w.heap[g]? = some (.cells C 40 (0, 0))) (hfit : off + n ≤ C.size)
    (h : ∀ w', w'.heap[g]? = some (.cells (splice C.toList off (zeros n)).toArray 40 (0, 0)) → Fr [g] w w' → w'.heap.size = w.heap.size → wpList Tryd.prog ops Q rest (a.put o.dst (.tuple #[])) w') : wpList Tryd.prog ops Q (o :: rest) a w := by
  refine wpList_plain hgd fun K hK => ?_
  have hrun := run_clear80 w o.type g off n c C hn hg hfit
  unfold Oper.wp
  simp [execOp, ho, resolve, invoke, builtin, hd, hrun, Result.andThen]
  exact hK _ _ (h _ (setRow_heap w g C _ 40 _ hg) (Fr.setRow w g _ (by simp)) (by simp))
/-- the memory's cells, whole -/
theorem Rep.memCells {w : World} {a : Nat} {l : Lay} {H : HS} {g : Nat} (h : Rep w a l H) (hg : l.pm = some ⟨g, 0, none⟩) :
    ∃ C, w.heap[g]? = some (.cells C 40 (0, 0)) ∧ C.toList = (H.mem ++ List.replicate (l.cm - H.mem.length) 0).map (Value.int .i64) ∧ C.size = l.cm ∧ l.cm ≤ maxLen := by
  have hb := h.mem
  rw [hg] at hb
  rcases hb.2 with ⟨q, _⟩ | ⟨g', cap, cur, q1, q2, q3, q4, q5, q6, q7⟩
  · cases q
  · injection q1 with q1a q1b q1c
    injection q1a with q1a
    injection q1a with q1a
    subst q1a
    rw [List.take_of_length_le (by rw [Array.length_toList, q6, q1c]; exact Nat.le_refl _)] at q7
    exact ⟨cur, q3, q7, by omega, by omega⟩
/-- other words stand in the memory now -/
theorem Rep.newMem {w w2 : World} {a : Nat} {l : Lay} {H : HS} {g : Nat} {ms : List Int} (h : Rep w a l H) (hg : l.pm = some ⟨g, 0, none⟩) (hl : ms.length = H.mem.length)
    (h2 : w2.heap[g]? = some (.cells ((ms ++ List.replicate (l.cm - H.mem.length) 0).map (Value.int .i64)).toArray 40 (0, 0))) (hf : Fr [g] w w2) : Rep w2 a l { H with mem := ms } ∧ Nx a l l w w2 := by
  have hgb : g ∈ blk l.pm := by rw [hg]; simp [blk]
  have hap := (h.apart g).1 hgb
  obtain ⟨C, hC, hCl, hCs, hcm⟩ := h.memCells hg
  have hml := h.ml
  have hlen : ((ms ++ List.replicate (l.cm - ms.length) (0 : Int)).map (Value.int .i64)).length = l.cm := by simp; omega
  have ho : w2.ownsRow 0 40 1 (.slice l.pm l.cm l.cm) l.cm ((ms ++ List.replicate (l.cm - ms.length) 0).map (Value.int .i64)) := by
    rw [← hl] at h2
    rw [hg]
    refine ⟨by rw [hlen]; omega, .inr ⟨g, l.cm, _, rfl, Nat.zero_le _, h2, Nat.le_refl _, hcm, by simpa using hlen, ?_⟩⟩
    rw [List.take_of_length_le (by rw [Nat.mul_one]; exact Nat.le_of_eq hlen)]
  have hf' : ∀ k, k = a ∨ k ∈ blk l.ps ∨ k ∈ blk l.po ∨ k ∈ blk l.pb → w2.heap[k]? = w.heap[k]? := fun k hk => by
    have hlt : k < w.heap.size := h.lt k (by simp only [foot, Lay.blocks, List.mem_cons, List.mem_append]; rcases hk with h1 | h1 | h1 | h1 <;> simp [h1])
    refine hf.block k hlt (fun hm => ?_)
    simp at hm
    subst hm
    rcases hk with h1 | h1 | h1 | h1
    · exact hap.1 h1
    · exact hap.2.1 h1
    · exact hap.2.2.1 h1
    · exact hap.2.2.2 h1
  exact ⟨h.turnMem hl hf' ho, Nx.frw (hf.mono (fun b hb => by simp at hb; subst hb; simp [foot, Lay.blocks, hgb]))⟩
theorem splice_map (M Z : List Int) (off : Nat) (vs : List Int) (h : off + vs.length ≤ M.length) : splice ((M ++ Z).map (Value.int .i64)) off (vs.map (Value.int .i64)) = (splice M off vs ++ Z).map (Value.int .i64) := by
  unfold splice
  rw [List.map_append, List.map_append, List.map_append, List.map_append, List.map_take, List.map_drop, List.length_map]
  rw [List.take_append_of_le_length (by simp; omega), List.drop_append_of_le_length (by simp; omega)]
  simp
theorem zeros_map (n : Nat) : zeros n = (List.replicate n (0 : Int)).map (Value.int .i64) := by simp [zeros]
/-- a stretch of memory is overlaid -/
theorem Rep.spliced {w w2 : World} {a : Nat} {l : Lay} {H : HS} {g off : Nat} {vs : List Int} {C : Array Value} (h : Rep w a l H) (hg : l.pm = some ⟨g, 0, none⟩) (hC : w.heap[g]? = some (.cells C 40 (0, 0))) (ho : off + vs.length ≤ H.mem.length)
    (h2 : w2.heap[g]? = some (.cells (splice C.toList off (vs.map (Value.int .i64))).toArray 40 (0, 0))) (hf : Fr [g] w w2) : Rep w2 a l { H with mem := splice H.mem off vs } ∧ Nx a l l w w2 := by
  obtain ⟨C', hC', hCl, hCs, hcm⟩ := h.memCells hg
  rw [hC] at hC'
  injection hC' with hC'
  injection hC' with hC'
  subst hC'
  rw [hCl, splice_map _ _ _ _ ho] at h2
  exact h.newMem hg (length_splice _ _ _ ho) h2 hf
end Go.Proofs.YtpaekbghnejhoaaDoor


namespace Go.Proofs.YtpaekbghnejhoaaDoor
open Go.RowKit
set_option linter.unusedVariables false
attribute [local go_sem ↓] Go.wp_at_zero Go.wp_at_succ
def wipeH (H : HS) (oop : Nat) : HS :=
  { H with mem := splice H.mem (H.seats.getD oop (0, 0, 0)).1 (List.replicate (H.seats.getD oop (0, 0, 0)).2.1 0), order := H.order.set (H.seats.getD oop (0, 0, 0)).2.2 0, seats := H.seats.set oop (0, 0, 0) }
def vacH (H : HS) (oop : Nat) : HS := remH (wipeH H oop) oop
structure VacOk (H : HS) (oop : Nat) : Prop where
  o1 : 1 ≤ oop
  o2 : oop < H.seats.length
  o3 : oop ≤ 65537
  s1 : 1 ≤ (H.seats.getD oop (0, 0, 0)).2.1
  s2 : (H.seats.getD oop (0, 0, 0)).1 + (H.seats.getD oop (0, 0, 0)).2.1 ≤ H.mem.length
  s3 : (H.seats.getD oop (0, 0, 0)).2.2 < H.order.length
  b1 : (oop - 1) / 64 < H.bits.length
  b2 : ∀ k, H.bits.getD k 0 ≤ full
  c1 : 1 ≤ H.count
  c2 : H.count ≤ 65536
  c3 : H.low ≤ 65536
  m1 : H.mem.length ≤ 1048576
  r1 : H.order.length ≤ 1048576
  t1 : H.seats.length ≤ 65538
set_option maxRecDepth 20000 in
set_option maxHeartbeats 1000000 in
theorem vacate_ok (oop : Nat) (a : Nat) (l : Lay) (H : HS) (w : World) (h : Rep w a l H) (hv : VacOk H oop) :
    Calls Tryd.prog 74 #[.pointer (some ⟨a, 0, none⟩), .int .i64 oop] w fun e w' => e = .returned (.tuple #[]) ∧ Rep w' a l (vacH H oop) ∧ Nx a l l w w' := by
  obtain ⟨v1, v2, v3, v4, v5, v6, v7, v8, v9, v10, v11, v12, v13, v14⟩ := hv
  have hal := h.lt a (by simp [foot])
  obtain ⟨gs, hgs, hcs, hfs, hgsa, hgsl⟩ := h.seatAt oop v2
  obtain ⟨q0, q1, q2⟩ := hcs oop v2
  have c5 := h.c5
  rw [hgs] at c5
  simp only [I] at q0 q1 q2
  obtain ⟨⟨p, L, t⟩, hs⟩ : ∃ s, s = H.seats.getD oop (0, 0, 0) := ⟨_, rfl⟩
  have HV : Hid (vacH H oop = remH { H with mem := splice H.mem p (List.replicate L 0), order := H.order.set t 0, seats := H.seats.set oop (0, 0, 0) } oop) := by
    unfold vacH wipeH Hid
    rw [← hs]
  rw [← hs] at v4 v5 v6 q0 q1 q2
  dsimp only at v4 v5 v6 q0 q1 q2
  have HR := mkHid h
  have o1 : (0 : Int) ≤ (oop : Int) := by omega
  have o2 : (oop : Int) < (H.seats.length : Int) := by omega
  clear h hcs hfs hs
  generalize vacH H oop = HX at *
  go_enter Tryd.func74, Tryd.ntmps74
  go_wp2
  go_cut [] (fun W => Hid (Rep W a l { H with mem := splice H.mem p (List.replicate L 0) } ∧ Nx a l l w W ∧ W.heap[w.heap.size]? = some (.cells #[.int .i64 (p : Int), .int .i64 (L : Int), .int .i64 (t : Int)] 86 (0, 0))))
  case first =>
    obtain ⟨g, hg, _, _, hga, hgl⟩ := HR.out.memBlock (by omega)
    obtain ⟨C, hC, hCl, hCs, hcm⟩ := HR.out.memCells hg
    have hml := HR.out.ml
    have c4 := HR.out.c4
    rw [hg] at c4
    obtain ⟨o3, ho3⟩ : ∃ o3, o3 = Obj.cells #[.int .i64 (p : Int), .int .i64 (L : Int), .int .i64 (t : Int)] 86 := ⟨_, rfl⟩
    have C4 := (World.cell?_alloc_lt w o3 ⟨a, 4, none⟩ (by show a < _; omega)).trans c4
    have hn3 := heap_alloc_new w o3
    rw [ho3] at hn3
    have T0 := cell_in hn3 0
    have T1 := cell_in hn3 1
    rw [← ho3] at T0 T1
    simp only [List.getElem?_toArray, List.getElem?_cons_succ, List.getElem?_cons_zero] at T0 T1
    have hC3 : Hid ((w.alloc o3).heap[g]? = some (.cells C 40 (0, 0)) ∧ Rep (w.alloc o3) a l H ∧ Nx a l l w (w.alloc o3) ∧ (w.alloc o3).heap[w.heap.size]? = some (.cells #[.int .i64 (p : Int), .int .i64 (L : Int), .int .i64 (t : Int)] 86 (0, 0)) ∧ w.heap.size ≠ g ∧ w.heap.size < (w.alloc o3).heap.size) :=
      ⟨(Below.heap_alloc _ _ _ hgl).trans hC, HR.out.alloc _, Nx.frw (Fr.alloc _ _ _), by rw [ho3]; exact heap_alloc_new _ _, by omega, by simp⟩
    rw [← ho3]
    clear ho3 hn3 hC hCl c4 q0 q1 q2 c5
    generalize w.alloc o3 = w3 at *
    have k1 : (0 : Int) ≤ (p : Int) := by omega
    have k2 : (p : Int) + (L : Int) ≤ (l.cm : Int) := by omega
    have k4 : (p : Int) ≤ (p : Int) + (L : Int) := by omega
    have k5 : IntKind.i64.wrap ((p : Int) + (L : Int)) = (p : Int) + (L : Int) := by rw [iwrap]; unfold wrap64; omega
    have e1 : ((p : Int) + (L : Int)).toNat = p + L := by omega
    have e2 : (if l.cm = p then some (⟨g, 0, none⟩ : Addr) else some ⟨g, p, none⟩) = some ⟨g, p, none⟩ := by rw [if_neg (by omega)]
    have hcp : ¬ l.cm = p := by omega
    generalize hmm : H.mem.length = m at *
    have HMM := mkHid hmm
    clear hmm
    go_region_held3 (fun w' => w'.cell? ⟨a, 4, none⟩ = some (.slice (some ⟨g, 0, none⟩) m l.cm) ∧ w'.cell? ⟨w.heap.size, 0, none⟩ = some (.int .i64 (p : Int)) ∧ w'.cell? ⟨w.heap.size, 1, none⟩ = some (.int .i64 (L : Int))) (go_keep)
      ((refine step_clear rfl (.tmp 23) rfl g p L (l.cm - p) (by simp [Act.eval]) (by omega) C (by exact hC3.out.1) (by omega) ?_; intro w4 hh1 hh2 hh3; have y4 := hh2.cell (p := ⟨a, 4, none⟩) (by exact (by have := hC3.out.2.1.lt a (by simp [foot]); exact this)) (by simp; omega); have z0 := hh2.cell (p := ⟨w.heap.size, 0, none⟩) (by exact hC3.out.2.2.2.2.2) (by simp; exact hC3.out.2.2.2.2.1); have z1 := hh2.cell (p := ⟨w.heap.size, 1, none⟩) (by exact hC3.out.2.2.2.2.2) (by simp; exact hC3.out.2.2.2.2.1)))
    all_goals go_wp2
    all_goals
      go_meet
      case rel =>
        have hfr : Fr [g] w3 w4 := Fr.trans (S' := [g]) (Fr.drew [g] w3) hh2 (fun b hb => .inl hb)
        rw [zeros_map] at hh1
        have K := hC3.out.2.1.spliced hg hC3.out.1 (by rw [HMM.out]; simpa using v5) hh1 hfr
        refine mkHid ⟨K.1, hC3.out.2.2.1.trans K.2, ?_⟩
        rw [hfr.block _ hC3.out.2.2.2.2.2 (by simp; exact hC3.out.2.2.2.2.1)]
        exact hC3.out.2.2.2.1
  case rest =>
    obtain ⟨w2, hw2⟩ : ∃ w2, w2 = wc := ⟨_, rfl⟩
    subst hw2
    clear q0 q1 q2 c5 HR
    obtain ⟨hr, hx, hsb⟩ := hcut.out
    clear hcut
    obtain ⟨go, hgo, hco, hfo, hgoa, hgol⟩ := hr.orderAt t v6
    have c6 := hr.c6
    rw [hgo] at c6
    have o3 := hco t v6
    have f3 := hfo t
    have T2 := cell_in hsb 2
    simp only [List.getElem?_toArray, List.getElem?_cons_succ, List.getElem?_cons_zero] at T2
    dsimp only at c6 o3
    have HE : Hid (∀ W, Eqw (w2.setCell ⟨go, t, none⟩ (.int .i64 0)) W → Rep W a l { H with mem := splice H.mem p (List.replicate L 0), order := H.order.set t 0 } ∧ Nx a l l w W) := by
      intro W he
      have K := hr.setOrder hgo t 0 W he
      exact ⟨K.1, hx.trans K.2⟩
    have a1 : (0 : Int) ≤ (t : Int) := by omega
    have a2 : (t : Int) < (H.order.length : Int) := by omega
    generalize H.order.getD t 0 = ov at *
    clear hr hx hsb hco hfo hgo
    go_wp2
    go_cut [] (fun W => Hid (Rep W a l { H with mem := splice H.mem p (List.replicate L 0), order := H.order.set t 0 } ∧ Nx a l l w W))
    case first =>
      go_region
      all_goals go_wp2
      all_goals
        go_meet
        case rel =>
          refine mkHid (HE.out _ ?_)
          exact eqw_drew _
    case rest =>
      obtain ⟨w3, hw3⟩ : ∃ w3, w3 = wc := ⟨_, rfl⟩
      subst hw3
      clear c6 o3 f3 T2 HE
      obtain ⟨hr, hx⟩ := hcut.out
      clear hcut
      obtain ⟨g2, hg2, hc2, hf2, _, _⟩ := hr.seatAt oop v2
      obtain ⟨q0, q1, q2⟩ := hc2 oop v2
      have c5 := hr.c5
      rw [hg2] at c5
      have p0 := hf2 (oop * 3)
      have p1 := hf2 (oop * 3 + 1)
      have p2 := hf2 (oop * 3 + 2)
      simp only [I] at q0 q1 q2
      dsimp only at c5 q0 q1 q2
      generalize (H.seats.getD oop (0, 0, 0)).1 = y0 at *
      generalize (H.seats.getD oop (0, 0, 0)).2.1 = y1 at *
      generalize (H.seats.getD oop (0, 0, 0)).2.2 = y2 at *
      have HE : Hid (∀ W, Eqw (((w3.setCell ⟨g2, oop * 3, none⟩ (.int .i64 0)).setCell ⟨g2, oop * 3 + 1, none⟩ (.int .i64 0)).setCell ⟨g2, oop * 3 + 2, none⟩ (.int .i64 0)) W → Calls Tryd.prog 98 #[.pointer (some ⟨a, 7, none⟩), .int .i64 oop] W fun e w' => e = .returned (.tuple #[]) ∧ Rep w' a l HX ∧ Nx a l l w w') := by
        intro W he
        have K := hr.setSeat hg2 oop v2 (0, 0, 0) W he
        rw [HV.out]
        refine (remove_any oop a l _ W K.1 (by omega) (by omega) v7 v8 v9 (by dsimp only; omega) (by dsimp only; omega)).mono ?_
        rintro e w' ⟨rfl, k1, k2⟩
        exact ⟨rfl, k1, (hx.trans K.2).trans k2⟩
      clear hr hx hg2 hc2 hf2
      go_wp2_with fail
      refine Calls.mono (HE.out _ ?_) ?_
      · exact ⟨rfl, rfl, rfl, rfl⟩
      · rintro e w5 ⟨rfl, hr5, hx5⟩
        have HR5 := mkHid hr5
        have HX5 := mkHid hx5
        clear hr5 hx5 HE
        go_wp2
        go_end0
        exact ⟨rfl, HR5.out, HX5.out⟩
end Go.Proofs.YtpaekbghnejhoaaDoor


namespace Go.Proofs.YtpaekbghnejhoaaDoor
open Go.RowKit
set_option linter.unusedVariables false
attribute [local go_sem ↓] Go.wp_at_zero Go.wp_at_succ
theorem step_copy {ops : Array Oper} {o : Oper} {a : Act} {w : World} {K : Act → World → Prop} {Q : Exit → Act → World → Prop} {E : Prop} (hgd : o.guard = none) (d s : Operand)
    (ho : o.op = .call { callee := .builtin .copy, args := #[d, s], argTypes := #[25, 25] }) (g off p dLen dCap L sCap : Nat) (hd : a.eval d = .slice (some ⟨g, off, none⟩) dLen dCap) (hs : a.eval s = .slice (some ⟨g, p, none⟩) L sCap)
    (C : Array Value) (hg : w.heap[g]? = some (.cells C 40 (0, 0))) (hL : L ≤ dLen) (hp : p + L ≤ C.size) (ho2 : off + L ≤ C.size) (h1 : ∀ v ∈ C.toList, v.oneCell' = true)
    (h : ∀ w', w'.heap[g]? = some (.cells (splice C.toList off ((C.toList.drop p).take L)).toArray 40 (0, 0)) → Fr [g] w w' → w'.heap.size = w.heap.size → K (a.put o.dst (goInt L)) w') :
    if Region.wanted o (yielded ops a.tmps) = true then Oper.wp Tryd.prog o a w K Q else E := by
  have hw : Region.wanted o (yielded ops a.tmps) = true := by simp [Region.wanted, hgd]
  rw [if_pos hw]
  have hcl : ((C.toList.drop p).take L).length = L := by simp; omega
  have hsz : (Tryd.prog.info? 40).map (·.size) = some 1 := by
    obtain ⟨i0, hi, hz0, hz1, hz2⟩ := info_parts info33
    rw [hi]; simp [hz1]
  have hrun := run_copy_row (P := Tryd.prog) w 25 25 o.type 40 g off dLen dCap ⟨g, p, none⟩ L sCap C 40 ((C.toList.drop p).take L) Tryd.underlying25 hsz hg (by rw [hcl]; exact (Nat.min_eq_left hL).symm)
    (fun j v hv => by
      rw [Addr.add_mid, cell_in hg]
      rw [List.getElem?_take] at hv
      split at hv
      · simpa using hv
      · cases hv) (by rw [hcl]; exact ho2) (fun v hv => h1 v (List.mem_of_mem_drop (List.mem_of_mem_take hv)))
  unfold Oper.wp
  simp [execOp, ho, resolve, invoke, builtin, hd, hs, hrun, Result.andThen]
  have hh := h _ (setRow_heap w g C (splice C.toList off ((C.toList.drop p).take L)).toArray 40 _ hg) (Fr.setRow w g _ (by simp)) (by simp)
  simp only [splice, hcl] at hh
  have e1 : min L (C.size - p) = L := by omega
  rw [e1]
  exact hh
structure Sl where
  H : HS
  turns : Nat
  en : Nat
def slideStep (x : Sl) (k : Nat) : Sl :=
  if x.H.order.getD k 0 = 0 then x else
    { H := { x.H with mem := splice x.H.mem x.en ((x.H.mem.drop (x.H.seats.getD (x.H.order.getD k 0) (0, 0, 0)).1).take (x.H.seats.getD (x.H.order.getD k 0) (0, 0, 0)).2.1),
                      seats := x.H.seats.set (x.H.order.getD k 0) (x.en, (x.H.seats.getD (x.H.order.getD k 0) (0, 0, 0)).2.1, x.turns),
                      order := x.H.order.set x.turns (x.H.order.getD k 0) }
      turns := x.turns + 1
      en := x.en + (x.H.seats.getD (x.H.order.getD k 0) (0, 0, 0)).2.1 }
def slideTo (H : HS) : Nat → Sl
  | 0 => ⟨H, 0, 0⟩
  | k + 1 => slideStep (slideTo H k) k
structure StepOk (x : Sl) (oop : Nat) : Prop where
  o : oop < x.H.seats.length
  s1 : 1 ≤ (x.H.seats.getD oop (0, 0, 0)).2.1
  s2 : (x.H.seats.getD oop (0, 0, 0)).1 + (x.H.seats.getD oop (0, 0, 0)).2.1 ≤ x.H.mem.length
  s3 : x.en + (x.H.seats.getD oop (0, 0, 0)).2.1 ≤ x.H.mem.length
structure SlideOk (H : HS) : Prop where
  step : ∀ k, k < H.order.length → (slideTo H k).H.order.getD k 0 ≠ 0 → StepOk (slideTo H k) ((slideTo H k).H.order.getD k 0)
  m1 : H.mem.length ≤ 1048576
  r1 : H.order.length ≤ 1048576
  t1 : H.seats.length ≤ 65538
theorem slideTo_len (H : HS) (hk : SlideOk H) : ∀ k, k ≤ H.order.length → (slideTo H k).H.mem.length = H.mem.length ∧ (slideTo H k).H.order.length = H.order.length ∧ (slideTo H k).H.seats.length = H.seats.length ∧ (slideTo H k).turns ≤ k ∧ (slideTo H k).en ≤ H.mem.length := by
  intro k
  induction k with
  | zero => intro _; exact ⟨rfl, rfl, rfl, Nat.le_refl _, Nat.zero_le _⟩
  | succ k ih =>
    intro hle
    obtain ⟨h1, h2, h3, h4, h5⟩ := ih (by omega)
    have hs := hk.step k (by omega)
    show (slideStep (slideTo H k) k).H.mem.length = _ ∧ (slideStep (slideTo H k) k).H.order.length = _ ∧ (slideStep (slideTo H k) k).H.seats.length = _ ∧ (slideStep (slideTo H k) k).turns ≤ _ ∧ (slideStep (slideTo H k) k).en ≤ _
    unfold slideStep
    split
    · exact ⟨h1, h2, h3, by omega, h5⟩
    · rename_i hne
      have hq := hs hne
      have := hq.s2
      have := hq.s3
      refine ⟨?_, by simpa using h2, by simpa using h3, by dsimp only; omega, by dsimp only; omega⟩
      dsimp only
      rw [length_splice _ _ _ (by rw [List.length_take, List.length_drop]; omega)]
      exact h1
theorem own_prefix {w : World} {e : TypeId} {ao : Option Addr} {n c k : Nat} {xs : List Value} (h : w.ownsRow 0 e 1 (.slice ao n c) n xs) (hk : k ≤ n) : w.ownsRow 0 e 1 (.slice ao k c) k (xs.take k) := by
  have hl := h.1
  refine ⟨by simp; omega, ?_⟩
  rcases h.2 with ⟨h2, h3⟩ | ⟨g, cap, cur, h2, h3, h4, h5, h6, h7, h8⟩
  · injection h2 with q1 q2 q3
    subst q1
    subst q3
    exact .inl ⟨by rw [show k = 0 from by omega], by omega⟩
  · injection h2 with q1 q2 q3
    subst q1
    subst q3
    refine .inr ⟨g, c, cur, rfl, h3, h4, by omega, h6, h7, ?_⟩
    rw [← h8, List.take_take]
    congr 1
    omega
/-- both lists are cut -/
theorem Rep.cut {w : World} {a : Nat} {l : Lay} {H : HS} {tn en : Nat} (h : Rep w a l H) (ht : tn ≤ H.order.length) (hen : en ≤ H.mem.length) (hz : H.mem = H.mem.take en ++ List.replicate (H.mem.length - en) 0) (W : World)
    (he : Eqw ((w.setCell ⟨a, 6, none⟩ (.slice l.po tn l.co)).setCell ⟨a, 4, none⟩ (.slice l.pm en l.cm)) W) : Rep W a l { H with mem := H.mem.take en, order := H.order.take tn } ∧ Nx a l l w W := by
  have ho := own_prefix h.order ht
  rw [← List.map_take] at ho
  have hol : (H.order.take tn).length = tn := by simp; omega
  have K1 := h.putOrder (po := l.po) (co := l.co) (os := H.order.take tn) (fun _ _ => rfl) (by rw [hol]; exact ho)
  rw [hol] at K1
  have hml := h.ml
  have hmt : (H.mem.take en).length = en := by simp; omega
  have e : H.mem.take en ++ List.replicate (l.cm - (H.mem.take en).length) (0 : Int) = H.mem ++ List.replicate (l.cm - H.mem.length) 0 := by
    rw [hmt]
    conv => rhs; rw [hz]
    rw [List.append_assoc, List.replicate_append_replicate]
    congr 2
    simp
    omega
  have K2 := K1.putMem (pm := l.pm) (cm := l.cm) (ms := H.mem.take en) (by rw [hmt]; omega) (fun _ _ => rfl) (by rw [e]; exact K1.mem)
  rw [hmt] at K2
  exact ⟨K2.eqw he, (Nx.frw ((Fr.setCell (S := foot a l) _ _ _ (by simp [foot])).trans (Fr.setCell (S := foot a l) _ _ _ (by simp [foot])) (fun b hb => .inl hb))).eqw he⟩
theorem set_comm (w : World) (a i j : Nat) (u v : Value) (h : i ≠ j) : (w.setCell ⟨a, i, none⟩ u).setCell ⟨a, j, none⟩ v = (w.setCell ⟨a, j, none⟩ v).setCell ⟨a, i, none⟩ u := by
  simp only [World.setCell]
  congr 1
  apply Array.ext_getElem?
  intro k
  rw [Array.getElem?_modify, Array.getElem?_modify, Array.getElem?_modify, Array.getElem?_modify]
  by_cases hk : a = k
  · subst hk
    simp only [if_true]
    cases hq : w.heap[a]? with
    | none => rfl
    | some x =>
      cases x with
      | cells c t f =>
        simp
        apply Array.ext_getElem?
        intro q
        simp only [Array.getElem?_setIfInBounds]
        by_cases h1 : i = q <;> by_cases h2 : j = q <;> simp_all
      | _ => simp
  · simp [hk]
def slideH (H : HS) : HS := { (slideTo H H.order.length).H with mem := (slideTo H H.order.length).H.mem.take (slideTo H H.order.length).en, order := (slideTo H H.order.length).H.order.take (slideTo H H.order.length).turns }
end Go.Proofs.YtpaekbghnejhoaaDoor


