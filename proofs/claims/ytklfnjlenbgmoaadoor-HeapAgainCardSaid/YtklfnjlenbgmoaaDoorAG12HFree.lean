import Derived.Test.YtklfnjlenbgmoaaDoorAHByte
namespace Go.Proofs.YtklfnjlenbgmoaaDoor
open Go.RowKit
set_option linter.unusedVariables false
attribute [local go_sem ↓] Go.wp_at_zero Go.wp_at_succ
set_option maxHeartbeats 400000 in
theorem Mark_no (k : Int) (a : Nat) (l : Lay) (H : HS) (w : World) (h : Rep w a l H) (hk : isM k = false) :
    Calls Tryd.prog 12 #[.pointer (some ⟨a, 0, none⟩), .int .i64 k] w fun e w' => e = .returned (.int .i64 1) ∧ w' = w := by
  have hm := isMark_any k w
  rw [hk] at hm
  have c0 := h.c0
  have HM := mkHid hm
  clear h hm hk
  go_enter Tryd.func12, Tryd.ntmps12
  go_wp2_with (first | (go_at_call 44; refine (made_any _ _ c0).mono ?_; rintro e w' ⟨rfl, rfl⟩) | (go_at_call 45; refine Calls.mono HM.out ?_; rintro e w' ⟨rfl, rfl⟩))
  go_ret
  exact ⟨rfl, rfl⟩
set_option maxRecDepth 20000 in
set_option maxHeartbeats 2000000 in
theorem Put_slot (oop n f : Nat) (i v : Int) (a : Nat) (l : Lay) (H : HS) (w : World) (h : Rep w a l H) (hh : has H oop = true) (hb : (H.mem.length : Int) ≤ 1048576)
    (h4 : (H.seats.getD oop (0, 0, 0)).1 + 1 < H.mem.length) (h5 : H.mem.getD ((H.seats.getD oop (0, 0, 0)).1 + 1) 0 = ((2 * n + f : Nat) : Int)) (hf : (f : Int) ≤ 1) (hi : i < 0 ∨ (n : Int) ≤ i) :
    Calls Tryd.prog 29 #[.pointer (some ⟨a, 0, none⟩), .int .i64 oop, .int .i64 i, .int .i64 v] w fun e w' => e = .returned (.int .i64 21) ∧ Fr [] w w' := by
  obtain ⟨h1, h2, h3⟩ := has_yes hh
  have HSO := mkHid (seatOf_yes oop a l H w h h1 h2 h3)
  obtain ⟨⟨p, L, t⟩, hs⟩ : ∃ s, s = H.seats.getD oop (0, 0, 0) := ⟨_, rfl⟩
  rw [← hs] at HSO h4 h5
  have HSH : Hid (∀ W, Rep W a l H → Calls Tryd.prog 71 #[.pointer (some ⟨a, 0, none⟩), .agg #[.int .i64 (p : Int), .int .i64 (L : Int), .int .i64 (t : Int)]] W fun e w' => e = .returned (.tuple #[.int .i64 (n : Int), .int .i64 (f : Int)]) ∧ Fr [] W w') := by
    intro W hW
    have := shape_of (p, L, t) (2 * n + f) a l H W hW h4 h5 hb
    rw [show (2 * n + f) / 2 = n from by omega, show (2 * n + f) % 2 = f from by omega] at this
    exact this
  have HR := mkHid h
  clear h hs h3 h5 h4 h2 hh
  dsimp only [sv, I] at HSO
  rcases hi with hi | hi
  all_goals
    go_enter Tryd.func29, Tryd.ntmps29
    go_wp2_with fail
    refine Calls.mono HSO.out ?_
    rintro e w1 ⟨rfl, hf1⟩
    have F2 : Fr [] w (w1.alloc (.cells #[.int .i64 (p : Int), .int .i64 (L : Int), .int .i64 (t : Int)] 103)) := hf1.trans (Fr.alloc [] _ _) (by simp)
    have HF2 := mkHid F2
    clear hf1 F2
    go_wp2_with fail
    refine Calls.mono (HSH.out _ (HR.out.keep HF2.out (by simp))) ?_
    rintro e w2 ⟨rfl, hf2⟩
    have HF := mkHid (HF2.out.trans hf2 (by simp))
    clear hf2
    go_wp2
    go_ret
    exact ⟨rfl, HF.out⟩
set_option maxRecDepth 20000 in
set_option maxHeartbeats 2000000 in
theorem At_slot (oop n f : Nat) (i : Int) (a : Nat) (l : Lay) (H : HS) (w : World) (h : Rep w a l H) (hh : has H oop = true) (hb : (H.mem.length : Int) ≤ 1048576)
    (h4 : (H.seats.getD oop (0, 0, 0)).1 + 1 < H.mem.length) (h5 : H.mem.getD ((H.seats.getD oop (0, 0, 0)).1 + 1) 0 = ((2 * n + f : Nat) : Int)) (hf : (f : Int) ≤ 1) (hi : i < 0 ∨ (n : Int) ≤ i) :
    Calls Tryd.prog 47 #[.pointer (some ⟨a, 0, none⟩), .int .i64 oop, .int .i64 i] w fun e w' => e = .returned (.tuple #[.int .i64 0, .int .i64 21]) ∧ Fr [] w w' := by
  obtain ⟨h1, h2, h3⟩ := has_yes hh
  have HSO := mkHid (seatOf_yes oop a l H w h h1 h2 h3)
  obtain ⟨⟨p, L, t⟩, hs⟩ : ∃ s, s = H.seats.getD oop (0, 0, 0) := ⟨_, rfl⟩
  rw [← hs] at HSO h4 h5
  have HSH : Hid (∀ W, Rep W a l H → Calls Tryd.prog 71 #[.pointer (some ⟨a, 0, none⟩), .agg #[.int .i64 (p : Int), .int .i64 (L : Int), .int .i64 (t : Int)]] W fun e w' => e = .returned (.tuple #[.int .i64 (n : Int), .int .i64 (f : Int)]) ∧ Fr [] W w') := by
    intro W hW
    have := shape_of (p, L, t) (2 * n + f) a l H W hW h4 h5 hb
    rw [show (2 * n + f) / 2 = n from by omega, show (2 * n + f) % 2 = f from by omega] at this
    exact this
  have HR := mkHid h
  clear h hs h3 h5 h4 h2 hh
  dsimp only [sv, I] at HSO
  rcases hi with hi | hi
  all_goals
    go_enter Tryd.func47, Tryd.ntmps47
    go_wp2_with fail
    refine Calls.mono HSO.out ?_
    rintro e w1 ⟨rfl, hf1⟩
    have F2 : Fr [] w (w1.alloc (.cells #[.int .i64 (p : Int), .int .i64 (L : Int), .int .i64 (t : Int)] 103)) := hf1.trans (Fr.alloc [] _ _) (by simp)
    have HF2 := mkHid F2
    clear hf1 F2
    go_wp2_with fail
    refine Calls.mono (HSH.out _ (HR.out.keep HF2.out (by simp))) ?_
    rintro e w2 ⟨rfl, hf2⟩
    have HF := mkHid (HF2.out.trans hf2 (by simp))
    clear hf2
    go_wp2
    go_ret2
    exact ⟨rfl, HF.out⟩
set_option maxRecDepth 20000 in
set_option maxHeartbeats 2000000 in
theorem Put_word (oop i n f : Nat) (v : Int) (a : Nat) (l : Lay) (H : HS) (w : World) (h : Rep w a l H) (hh : has H oop = true) (hb : (H.mem.length : Int) ≤ 1048576)
    (h4 : (H.seats.getD oop (0, 0, 0)).1 + 1 < H.mem.length) (h5 : H.mem.getD ((H.seats.getD oop (0, 0, 0)).1 + 1) 0 = ((2 * n + f : Nat) : Int)) (hf : (f : Int) ≤ 1) (hi : (i : Int) < n) (hm : mayB v f = false) (hT : Tab w) :
    Calls Tryd.prog 29 #[.pointer (some ⟨a, 0, none⟩), .int .i64 oop, .int .i64 i, .int .i64 v] w fun e w' => e = .returned (.int .i64 10) ∧ Fr [] w w' := by
  obtain ⟨h1, h2, h3⟩ := has_yes hh
  have hal := h.lt a (by simp [foot])
  have HSO := mkHid (seatOf_yes oop a l H w h h1 h2 h3)
  obtain ⟨⟨p, L, t⟩, hs⟩ : ∃ s, s = H.seats.getD oop (0, 0, 0) := ⟨_, rfl⟩
  rw [← hs] at HSO h4 h5
  have HSH : Hid (∀ W, Rep W a l H → Calls Tryd.prog 71 #[.pointer (some ⟨a, 0, none⟩), .agg #[.int .i64 (p : Int), .int .i64 (L : Int), .int .i64 (t : Int)]] W fun e w' => e = .returned (.tuple #[.int .i64 (n : Int), .int .i64 (f : Int)]) ∧ Fr [] W w') := by
    intro W hW
    have := shape_of (p, L, t) (2 * n + f) a l H W hW h4 h5 hb
    rw [show (2 * n + f) / 2 = n from by omega, show (2 * n + f) % 2 = f from by omega] at this
    exact this
  have HMS : Hid (∀ W, Tab W → Calls Tryd.prog 72 #[.int .i64 v, .int .i64 f] W fun e w' => e = .returned (.bool false) ∧ w' = W) := by
    intro W hW
    have := mayStand_any v f W hW
    rw [hm] at this
    exact this
  have HR := mkHid h
  have HT := mkHid hT
  clear h hs h3 h5 h4 h2 hh hm hT
  dsimp only [sv, I] at HSO
  go_enter Tryd.func29, Tryd.ntmps29
  go_wp2_with fail
  refine Calls.mono HSO.out ?_
  rintro e w1 ⟨rfl, hf1⟩
  have F2 : Fr [] w (w1.alloc (.cells #[.int .i64 (p : Int), .int .i64 (L : Int), .int .i64 (t : Int)] 103)) := hf1.trans (Fr.alloc [] _ _) (by simp)
  have HF2 := mkHid F2
  clear hf1 F2
  go_wp2_with fail
  refine Calls.mono (HSH.out _ (HR.out.keep HF2.out (by simp))) ?_
  rintro e w2 ⟨rfl, hf2⟩
  have HF := mkHid (HF2.out.trans hf2 (by simp))
  clear hf2
  go_wp2_with fail
  refine Calls.mono (HMS.out _ (HT.out.fr HF.out (by omega))) ?_
  rintro e w3 ⟨rfl, hw3⟩
  rw [hw3]
  clear hw3 w3
  go_wp2
  go_ret
  exact ⟨rfl, HF.out⟩
set_option maxRecDepth 20000 in
set_option maxHeartbeats 2000000 in
theorem SetClass_word (oop : Nat) (v : Int) (a : Nat) (l : Lay) (H : HS) (w : World) (h : Rep w a l H) (hh : has H oop = true) (hm : isW v = false) (hT : Tab w) :
    Calls Tryd.prog 30 #[.pointer (some ⟨a, 0, none⟩), .int .i64 oop, .int .i64 v] w fun e w' => e = .returned (.int .i64 10) ∧ Fr [] w w' := by
  obtain ⟨h1, h2, h3⟩ := has_yes hh
  have hal := h.lt a (by simp [foot])
  have HSO := mkHid (seatOf_yes oop a l H w h h1 h2 h3)
  obtain ⟨⟨p, L, t⟩, hs⟩ : ∃ s, s = H.seats.getD oop (0, 0, 0) := ⟨_, rfl⟩
  rw [← hs] at HSO
  have HMS : Hid (∀ W, Tab W → Calls Tryd.prog 48 #[.int .i64 v] W fun e w' => e = .returned (.bool false) ∧ w' = W) := by
    intro W hW
    have := isWord_any v W hW
    rw [hm] at this
    exact this
  have HT := mkHid hT
  clear h hs h3 h2 hh hm hT
  dsimp only [sv, I] at HSO
  go_enter Tryd.func30, Tryd.ntmps30
  go_wp2_with fail
  refine Calls.mono HSO.out ?_
  rintro e w1 ⟨rfl, hf1⟩
  have F2 : Fr [] w (w1.alloc (.cells #[.int .i64 (p : Int), .int .i64 (L : Int), .int .i64 (t : Int)] 103)) := hf1.trans (Fr.alloc [] _ _) (by simp)
  have HF := mkHid F2
  clear hf1 F2
  go_wp2_with fail
  refine Calls.mono (HMS.out _ (HT.out.fr HF.out (by omega))) ?_
  rintro e w3 ⟨rfl, hw3⟩
  rw [hw3]
  clear hw3 w3
  go_wp2
  go_ret
  exact ⟨rfl, HF.out⟩
set_option maxRecDepth 20000 in
set_option maxHeartbeats 2000000 in
theorem SetClass_ok (oop : Nat) (v : Int) (a : Nat) (l : Lay) (H : HS) (w : World) (h : Rep w a l H) (hh : has H oop = true) (hv : isW v = true) (hT : Tab w) (hm : (H.seats.getD oop (0, 0, 0)).1 < H.mem.length) (hb : (H.mem.length : Int) ≤ 1048576) :
    Calls Tryd.prog 30 #[.pointer (some ⟨a, 0, none⟩), .int .i64 oop, .int .i64 v] w fun e w' => e = .returned (.int .i64 0) ∧ Rep w' a l { H with mem := H.mem.set (H.seats.getD oop (0, 0, 0)).1 v } ∧ Nx a l l w w' := by
  obtain ⟨h1, h2, h3⟩ := has_yes hh
  have hal := h.lt a (by simp [foot])
  have HSO := mkHid (seatOf_yes oop a l H w h h1 h2 h3)
  obtain ⟨g, hg, hcg, hfg, hga, hgl⟩ := h.memBlock (by omega)
  have q := hcg _ hm
  have fq := hfg (H.seats.getD oop (0, 0, 0)).1
  have c4 := h.c4
  rw [hg] at c4
  obtain ⟨⟨p, L, t⟩, hs⟩ : ∃ s, s = H.seats.getD oop (0, 0, 0) := ⟨_, rfl⟩
  rw [← hs] at HSO hm q fq
  rw [← hs]
  dsimp only [sv, I] at *
  have HMS : Hid (∀ W, Tab W → Calls Tryd.prog 48 #[.int .i64 v] W fun e w' => e = .returned (.bool true) ∧ w' = W) := by
    intro W hW
    have := isWord_any v W hW
    rw [hv] at this
    exact this
  have HE : Hid (∀ W W', Fr [] w W → Eqw (W.setCell ⟨g, p, none⟩ (.int .i64 v)) W' → Rep W' a l { H with mem := H.mem.set p v } ∧ Nx a l l w W') := by
    intro W W' hW he
    have K := (h.keep hW (by simp)).setMem hg p hm _ W' he
    exact ⟨K.1, (Nx.frw (hW.mono (by simp))).trans K.2⟩
  have HT := mkHid hT
  have k1 : (0 : Int) ≤ (p : Int) := by omega
  have k2 : (p : Int) < (H.mem.length : Int) := by omega
  clear h hs h3 h2 hh hv hT hcg hfg
  generalize H.mem.getD p 0 = old at *
  generalize hmm : H.mem.length = m at *
  clear hmm
  go_enter Tryd.func30, Tryd.ntmps30
  go_wp2_with fail
  refine Calls.mono HSO.out ?_
  rintro e w1 ⟨rfl, hf1⟩
  have z1 := hf1.size
  obtain ⟨o3, ho3⟩ : ∃ o3, o3 = Obj.cells #[.int .i64 (p : Int), .int .i64 (L : Int), .int .i64 (t : Int)] 103 := ⟨_, rfl⟩
  have D4 := (World.cell?_alloc_lt w1 o3 ⟨a, 4, none⟩ (by show a < _; omega)).trans ((hf1.cell (p := ⟨a, 4, none⟩) hal (by simp)).trans c4)
  have DQ := (World.cell?_alloc_lt w1 o3 ⟨g, p, none⟩ (by show g < _; omega)).trans ((hf1.cell (p := ⟨g, p, none⟩) hgl (by simp)).trans q)
  have DF := (World.frozen?_alloc_old w1 o3 ⟨g, p, none⟩ (by show g ≠ _; omega)).trans ((hf1.frozen (p := ⟨g, p, none⟩) hgl (by simp)).trans fq)
  have hn3 := heap_alloc_new w1 o3
  rw [ho3] at hn3
  have T0 := cell_in hn3 0
  rw [← ho3] at T0
  simp only [List.getElem?_toArray, List.getElem?_cons_zero] at T0
  have HF := mkHid (hf1.trans (Fr.alloc [] w1 o3) (by simp))
  have dg : g ≠ w1.heap.size := by omega
  clear hf1 hn3
  go_wp2_with fail
  rw [← ho3]
  clear ho3
  generalize w1.alloc o3 = w3 at *
  refine Calls.mono (HMS.out _ (HT.out.fr HF.out (by omega))) ?_
  rintro e w4 ⟨rfl, hw4⟩
  rw [hw4]
  clear hw4 w4
  go_wp2
  go_region
  all_goals go_wp2
  all_goals
    go_ret
    exact ⟨rfl, HE.out _ _ HF.out (eqw_drew _)⟩
end Go.Proofs.YtklfnjlenbgmoaaDoor
namespace Go.Proofs.YtklfnjlenbgmoaaDoor
open Go.RowKit
set_option linter.unusedVariables false
attribute [local go_sem ↓] Go.wp_at_zero Go.wp_at_succ
structure DrawOk (H : HS) (t e : Nat) : Prop where
  t1 : t ≤ H.order.length
  t2 : ∀ j, t ≤ j → j < H.order.length → H.order.getD j 0 = 0
  t3 : 0 < t → H.order.getD (t - 1) 0 ≠ 0 ∧ H.order.getD (t - 1) 0 < H.seats.length ∧ e = (H.seats.getD (H.order.getD (t - 1) 0) (0, 0, 0)).1 + (H.seats.getD (H.order.getD (t - 1) 0) (0, 0, 0)).2.1
  t4 : t = 0 → e = 0
  e1 : e ≤ H.mem.length
  e2 : H.mem = H.mem.take e ++ List.replicate (H.mem.length - e) 0
  m1 : H.mem.length ≤ 1048576
  r1 : H.order.length ≤ 1048576
  s1 : H.seats.length ≤ 65538
def drawH (H : HS) (t e : Nat) : HS := { H with mem := H.mem.take e, order := H.order.take t }
theorem drawn_t {H : HS} {t e k : Nat} (h : DrawOk H t e) (hk : k ≤ H.order.length) (hz : ∀ j, k ≤ j → j < H.order.length → H.order.getD j 0 = 0) (hs : 0 < k → H.order.getD (k - 1) 0 ≠ 0) : k = t := by
  rcases Nat.lt_trichotomy k t with h1 | h1 | h1
  · have h2 := (h.t3 (by omega)).1
    exact absurd (hz (t - 1) (by omega) (by have := h.t1; omega)) h2
  · exact h1
  · exact absurd (h.t2 (k - 1) (by omega) (by omega)) (hs (by omega))
set_option maxRecDepth 20000 in
set_option maxHeartbeats 2000000 in
theorem drawEnd_ok (t e : Nat) (a : Nat) (l : Lay) (H : HS) (w : World) (h : Rep w a l H) (hd : DrawOk H t e) :
    Calls Tryd.prog 75 #[.pointer (some ⟨a, 0, none⟩)] w fun x w' => x = .returned (.tuple #[]) ∧ Rep w' a l (drawH H t e) ∧ Nx a l l w w' := by
  have hal := h.lt a (by simp [foot])
  have c6 := h.c6
  have hr1 := hd.r1
  have HD := mkHid hd
  have HR := mkHid h
  clear hd h
  go_enter Tryd.func75, Tryd.ntmps75
  go_wp2
  go_loop [2] (fun q => ∃ k : Nat, k ≤ H.order.length ∧ q = .int .i64 k ∧ Hid (∀ j, k ≤ j → j < H.order.length → H.order.getD j 0 = 0)) (fun q => (intOf q).toNat)
  case atStart => exact ⟨H.order.length, Nat.le_refl _, rfl, fun j h1 h2 => by omega⟩
  case round =>
    obtain ⟨k, hkn, rfl, hz⟩ := hrel
    by_cases hcont : 0 < k ∧ H.order.getD (k - 1) 0 = 0
    · obtain ⟨hk0, hk1⟩ := hcont
      obtain ⟨go, hgo, hco, hfo, hgoa, hgol⟩ := HR.out.orderAt (k - 1) (by omega)
      have o1 := hco (k - 1) (by omega)
      rw [hk1] at o1
      rw [hgo] at c6
      have e1 : ((k : Int) - 1).toNat = k - 1 := by omega
      have e2 : (k : Int) - 1 = ((k - 1 : Nat) : Int) := by omega
      have k1 : (0 : Int) < (k : Int) := by omega
      have k2 : (0 : Int) ≤ (k : Int) - 1 := by omega
      have k3 : (k : Int) - 1 < (H.order.length : Int) := by omega
      have HN : Hid (∀ j, k - 1 ≤ j → j < H.order.length → H.order.getD j 0 = 0) := by
        intro j h1 h2
        by_cases hj : j = k - 1
        · rw [hj]; exact hk1
        · exact hz.out j (by omega) h2
      have HE2 := mkHid e2
      clear hco hfo hk1 e2
      go_wp2
      go_round
      case rel => exact ⟨k - 1, by omega, by rw [← HE2.out], HN⟩
      case measure => simp [intOf]; omega
    · have hkt : k = t := drawn_t HD.out hkn hz.out (fun hp hq => hcont ⟨hp, hq⟩)
      subst hkt
      have he1 := HD.out.e1
      have hm1 := HD.out.m1
      have ht1 := HD.out.t1
      have HRD : Hid (∀ W, Rep W a l H → ∀ W', Eqw ((W.setCell ⟨a, 6, none⟩ (.slice l.po k l.co)).setCell ⟨a, 4, none⟩ (.slice l.pm e l.cm)) W' → Rep W' a l (drawH H k e) ∧ Nx a l l W W') := fun W hW W' he => hW.cut HD.out.t1 HD.out.e1 HD.out.e2 W' he
      by_cases hk0 : 0 < k
      · obtain ⟨n1, n2, n3⟩ := HD.out.t3 hk0
        obtain ⟨go, hgo, hco, hfo, hgoa, hgol⟩ := HR.out.orderAt (k - 1) (by omega)
        have o1 := hco (k - 1) (by omega)
        have c6' := c6
        rw [hgo] at c6'
        have hb : ((H.order.getD (k - 1) 0 : Int) == 0) = false := by simpa using n1
        have e1 : ((k : Int) - 1).toNat = k - 1 := by omega
        have k1 : (0 : Int) < (k : Int) := by omega
        have k2 : (0 : Int) ≤ (k : Int) - 1 := by omega
        have k3 : (k : Int) - 1 < (H.order.length : Int) := by omega
        obtain ⟨gs, hgs, hcs, hfs, hgsa, hgsl⟩ := HR.out.seatAt _ n2
        obtain ⟨q0, q1, q2⟩ := hcs _ n2
        have c5 := HR.out.c5
        rw [hgs] at c5
        simp only [I] at q0 q1 q2
        clear hco hfo hcs hfs n1 hcont
        generalize H.order.getD (k - 1) 0 = o at *
        generalize (H.seats.getD o (0, 0, 0)).1 = y0 at *
        generalize (H.seats.getD o (0, 0, 0)).2.1 = y1 at *
        generalize (H.seats.getD o (0, 0, 0)).2.2 = y2 at *
        have m0 : (0 : Int) ≤ (o : Int) := by omega
        have m1 : (o : Int) < (H.seats.length : Int) := by omega
        have N3 := mkHid n3
        have hy : (y0 : Int) + (y1 : Int) ≤ 1048576 := by omega
        clear n3 c6
        have c6 := c6'
        clear c6'
        go_upto_if 26 with (fail)
        go_cut [3] (fun q W => q = .int .i64 (e : Int) ∧ Hid (Rep W a l H ∧ Nx a l l w W))
        case first =>
          go_wp2
          go_region
          all_goals go_wp2
          all_goals
            go_meet
            case rel => exact ⟨by rw [N3.out]; go_num, ((HR.out.alloc _).eqw (eqw_drew _)), (Nx.frw (Fr.alloc _ _ _)).eqw (eqw_drew _)⟩
        case rest =>
          obtain ⟨w2, hw2⟩ : ∃ w2, w2 = wc := ⟨_, rfl⟩
          subst hw2
          obtain ⟨rfl, hcut2⟩ := hcut
          clear q0 q1 q2 c5 c6 o1 hgo hgs
          have hr := hcut2.out.1
          have hx := hcut2.out.2
          have HE : Hid (∀ W', Eqw ((w2.setCell ⟨a, 6, none⟩ (.slice l.po k l.co)).setCell ⟨a, 4, none⟩ (.slice l.pm e l.cm)) W' → Rep W' a l (drawH H k e) ∧ Nx a l l w W') := by
            intro W' he
            have K := HRD.out _ hr W' he
            exact ⟨K.1, hx.trans K.2⟩
          have d4 := hr.c4
          have d6 := hr.c6
          have f4 := hr.frozen 4
          have f6 := hr.frozen 6
          have hcm := hr.ml
          have hco : k ≤ l.co ∧ (l.po = none → l.co = 0) ∧ (∀ ad, l.po = some ad → ∃ g, ad = ⟨g, 0, none⟩) := by
            have := hr.order
            rcases this.2 with ⟨q, q0⟩ | ⟨g, cap, cur, q1, q2, q3, q4, q5, q6, q7⟩
            · injection q with q1 q2 q3
              rw [q1, q3]
              exact ⟨by omega, (fun _ => rfl), (fun ad h => by cases h)⟩
            · injection q1 with q1 q1b q1c
              rw [q1, q1c]
              exact ⟨by omega, (fun h => by cases h), (fun ad h => ⟨g, by injection h with h; exact h.symm⟩)⟩
          have hpm : (l.pm = none → l.cm = 0) ∧ (∀ ad, l.pm = some ad → ∃ g, ad = ⟨g, 0, none⟩) := by
            have := hr.mem
            rcases this.2 with ⟨q, q0⟩ | ⟨g, cap, cur, q1, q2, q3, q4, q5, q6, q7⟩
            · injection q with q1 q2 q3
              rw [q1, q3]
              exact ⟨(fun _ => rfl), (fun ad h => by cases h)⟩
            · injection q1 with q1 q1b q1c
              rw [q1]
              exact ⟨(fun h => by cases h), (fun ad h => ⟨g, by injection h with h; exact h.symm⟩)⟩
          obtain ⟨hco1, hco2, hco3⟩ := hco
          obtain ⟨hpm1, hpm2⟩ := hpm
          have u1 : (0 : Int) ≤ (k : Int) := by omega
          have u2 : (k : Int) ≤ (l.co : Int) := by omega
          have u3 : (0 : Int) ≤ (e : Int) := by omega
          have u4 : (e : Int) ≤ (l.cm : Int) := by omega
          clear hr hx HRD HR HD hz
          obtain ⟨pm, cm, ps, cs, po, co, pb, cb⟩ := l
          dsimp only at *
          rcases po with _ | ado
          · have hc0 : co = 0 := hco2 rfl
            omega
          · obtain ⟨go2, rfl⟩ := hco3 ado rfl
            rcases pm with _ | adm
            · have e3 : cm = 0 := hpm1 rfl
              have e4 : e = 0 := by omega
              subst e3 e4
              clear hco2 hco3 hpm1 hpm2
              go_wp2
              go_region
              all_goals go_wp2
              all_goals
                go_end0
                refine ⟨rfl, HE.out _ ?_⟩
                exact eqw_drew _
            · obtain ⟨gm, rfl⟩ := hpm2 adm rfl
              clear hco2 hco3 hpm1 hpm2
              go_wp2
              go_region
              all_goals go_wp2
              all_goals
                go_end0
                refine ⟨rfl, HE.out _ ?_⟩
                exact eqw_drew _
      · have hk1 : k = 0 := by omega
        subst hk1
        have he0 : e = 0 := HD.out.t4 rfl
        subst he0
        clear c6
        have hr := HR.out
        have hx := Nx.refl a l w
        have HE : Hid (∀ W', Eqw ((w.setCell ⟨a, 6, none⟩ (.slice l.po 0 l.co)).setCell ⟨a, 4, none⟩ (.slice l.pm 0 l.cm)) W' → Rep W' a l (drawH H 0 0) ∧ Nx a l l w W') := by
          intro W' he
          have K := HRD.out _ hr W' he
          exact ⟨K.1, hx.trans K.2⟩
        have d4 := hr.c4
        have d6 := hr.c6
        have f4 := hr.frozen 4
        have f6 := hr.frozen 6
        have hcm := hr.ml
        have hco : 0 ≤ l.co ∧ (l.po = none → l.co = 0) ∧ (∀ ad, l.po = some ad → ∃ g, ad = ⟨g, 0, none⟩) := by
          have := hr.order
          rcases this.2 with ⟨q, q0⟩ | ⟨g, cap, cur, q1, q2, q3, q4, q5, q6, q7⟩
          · injection q with q1 q2 q3
            rw [q1, q3]
            exact ⟨by omega, (fun _ => rfl), (fun ad h => by cases h)⟩
          · injection q1 with q1 q1b q1c
            rw [q1, q1c]
            exact ⟨by omega, (fun h => by cases h), (fun ad h => ⟨g, by injection h with h; exact h.symm⟩)⟩
        have hpm : (l.pm = none → l.cm = 0) ∧ (∀ ad, l.pm = some ad → ∃ g, ad = ⟨g, 0, none⟩) := by
          have := hr.mem
          rcases this.2 with ⟨q, q0⟩ | ⟨g, cap, cur, q1, q2, q3, q4, q5, q6, q7⟩
          · injection q with q1 q2 q3
            rw [q1, q3]
            exact ⟨(fun _ => rfl), (fun ad h => by cases h)⟩
          · injection q1 with q1 q1b q1c
            rw [q1]
            exact ⟨(fun h => by cases h), (fun ad h => ⟨g, by injection h with h; exact h.symm⟩)⟩
        obtain ⟨hco1, hco2, hco3⟩ := hco
        obtain ⟨hpm1, hpm2⟩ := hpm
        have u1 : (0 : Int) ≤ (0 : Int) := by omega
        have u2 : (0 : Int) ≤ (l.co : Int) := by omega
        have u3 : (0 : Int) ≤ ((0 : Nat) : Int) := by omega
        have u4 : ((0 : Nat) : Int) ≤ (l.cm : Int) := by omega
        clear hr hx HRD HR HD hz
        obtain ⟨pm, cm, ps, cs, po, co, pb, cb⟩ := l
        dsimp only at *
        rcases po with _ | ado
        · have hc0 : co = 0 := hco2 rfl
          subst hc0
          rcases pm with _ | adm
          · have e3 : cm = 0 := hpm1 rfl
            subst e3
            clear hco2 hco3 hpm1 hpm2
            go_wp2
            go_region
            all_goals go_wp2
            all_goals
              go_end0
              refine ⟨rfl, HE.out _ ?_⟩
              exact eqw_drew _
          · obtain ⟨gm, rfl⟩ := hpm2 adm rfl
            clear hco2 hco3 hpm1 hpm2
            go_wp2
            go_region
            all_goals go_wp2
            all_goals
              go_end0
              refine ⟨rfl, HE.out _ ?_⟩
              exact eqw_drew _
        · obtain ⟨go2, rfl⟩ := hco3 ado rfl
          rcases pm with _ | adm
          · have e3 : cm = 0 := hpm1 rfl
            subst e3
            clear hco2 hco3 hpm1 hpm2
            go_wp2
            go_region
            all_goals go_wp2
            all_goals
              go_end0
              refine ⟨rfl, HE.out _ ?_⟩
              exact eqw_drew _
          · obtain ⟨gm, rfl⟩ := hpm2 adm rfl
            clear hco2 hco3 hpm1 hpm2
            go_wp2
            go_region
            all_goals go_wp2
            all_goals
              go_end0
              refine ⟨rfl, HE.out _ ?_⟩
              exact eqw_drew _
set_option maxRecDepth 20000 in
set_option maxHeartbeats 2000000 in
theorem Free_ok (oop t e : Nat) (a : Nat) (l : Lay) (H : HS) (w : World) (h : Rep w a l H) (hh : has H oop = true) (hv : VacOk H oop) (hd : DrawOk (vacH H oop) t e) (hage : (H.age : Int) ≤ 1000000000) :
    Calls Tryd.prog 64 #[.pointer (some ⟨a, 0, none⟩), .int .i64 oop] w fun x w' => x = .returned (.int .i64 0) ∧ Rep w' a l { drawH (vacH H oop) t e with age := H.age + 1 } ∧ Nx a l l w w' := by
  obtain ⟨h1, h2, h3⟩ := has_yes hh
  have HSO := mkHid (seatOf_yes oop a l H w h h1 h2 h3)
  obtain ⟨⟨p, L, t'⟩, hs⟩ : ∃ s, s = H.seats.getD oop (0, 0, 0) := ⟨_, rfl⟩
  rw [← hs] at HSO
  have HV := mkHid (fun W (hW : Rep W a l H) => vacate_ok oop a l H W hW hv)
  have HDR := mkHid (fun W (hW : Rep W a l (vacH H oop)) => drawEnd_ok t e a l (vacH H oop) W hW hd)
  have HAG : Hid ((drawH (vacH H oop) t e).age = H.age) := rfl
  have HR := mkHid h
  clear h hs h1 h2 h3 hh hv hd
  dsimp only [sv, I] at HSO
  generalize drawH (vacH H oop) t e = HX at *
  generalize vacH H oop = HV0 at *
  go_enter Tryd.func64, Tryd.ntmps64
  go_wp2_with fail
  refine Calls.mono HSO.out ?_
  rintro x w1 ⟨rfl, hf1⟩
  have F2 : Fr [] w (w1.alloc (.cells #[.int .i64 (p : Int), .int .i64 (L : Int), .int .i64 (t' : Int)] 103)) := hf1.trans (Fr.alloc [] _ _) (by simp)
  have HF2 := mkHid F2
  clear hf1 F2 HSO
  go_wp2_with fail
  refine Calls.mono (HV.out _ (HR.out.keep HF2.out (by simp))) ?_
  rintro x w2 ⟨rfl, hr2, hx2⟩
  have HR2 := mkHid hr2
  have HX2 := mkHid ((Nx.frw (HF2.out.mono (by simp)) : Nx a l l w _).trans hx2)
  clear hr2 hx2 HV HF2
  go_wp2_with fail
  refine Calls.mono (HDR.out _ HR2.out) ?_
  rintro x w3 ⟨rfl, hr3, hx3⟩
  have d10 := hr3.c10
  have f10 := hr3.frozen 10
  rw [HAG.out] at d10
  have HF : Hid (∀ W, Eqw (w3.setCell ⟨a, 10, none⟩ (.int .i64 ((H.age : Int) + 1))) W → Rep W a l { HX with age := H.age + 1 } ∧ Nx a l l w W) := by
    intro W he
    have K := hr3.set (H' := { HX with age := H.age + 1 }) 10 (.int .i64 ((H.age : Int) + 1)) rfl rfl rfl rfl rfl
    exact ⟨K.eqw he, ((HX2.out.trans hx3).trans (Nx.fr (Fr.setCell (S := [a]) _ _ _ (by simp)))).eqw he⟩
  clear hr3 hx3 HDR HR2
  go_wp2
  go_ret
  exact ⟨rfl, HF.out _ ⟨rfl, rfl, rfl, rfl⟩⟩
end Go.Proofs.YtklfnjlenbgmoaaDoor
