import Derived.Test.YtkmjimdaimbdfaaDoorSG05HByte
namespace Go.Proofs.YtkmjimdaimbdfaaDoor
open Go.RowKit
set_option linter.unusedVariables false
attribute [local go_sem ↓] Go.wp_at_zero Go.wp_at_succ
set_option maxHeartbeats 400000 in
theorem Mark_no (k : Int) (a : Nat) (l : Lay) (H : HS) (w : World) (h : Rep w a l H) (hk : isM k = false) :
    Calls Tryd.prog 13 #[.pointer (some ⟨a, 0, none⟩), .int .i64 k] w fun e w' => e = .returned (.int .i64 1) ∧ w' = w := by
  have hm := isMark_any k w
  rw [hk] at hm
  have c0 := h.c0
  have HM := mkHid hm
  clear h hm hk
  go_enter Tryd.func13, Tryd.ntmps13
  go_wp2_with (first | (go_at_call 43; refine (made_any _ _ c0).mono ?_; rintro e w' ⟨rfl, rfl⟩) | (go_at_call 44; refine Calls.mono HM.out ?_; rintro e w' ⟨rfl, rfl⟩))
  go_ret
  exact ⟨rfl, rfl⟩
set_option maxRecDepth 20000 in
set_option maxHeartbeats 2000000 in
theorem Put_slot (oop n f : Nat) (i v : Int) (a : Nat) (l : Lay) (H : HS) (w : World) (h : Rep w a l H) (hh : has H oop = true) (hb : (H.mem.length : Int) ≤ 1048576)
    (h4 : (H.seats.getD oop (0, 0, 0)).1 + 1 < H.mem.length) (h5 : H.mem.getD ((H.seats.getD oop (0, 0, 0)).1 + 1) 0 = ((2 * n + f : Nat) : Int)) (hf : (f : Int) ≤ 1) (hi : i < 0 ∨ (n : Int) ≤ i) :
    Calls Tryd.prog 40 #[.pointer (some ⟨a, 0, none⟩), .int .i64 oop, .int .i64 i, .int .i64 v] w fun e w' => e = .returned (.int .i64 21) ∧ Fr [] w w' := by
  obtain ⟨h1, h2, h3⟩ := has_yes hh
  have HSO := mkHid (seatOf_yes oop a l H w h h1 h2 h3)
  obtain ⟨⟨p, L, t⟩, hs⟩ : ∃ s, s = H.seats.getD oop (0, 0, 0) := ⟨_, rfl⟩
  rw [← hs] at HSO h4 h5
  have HSH : Hid (∀ W, Rep W a l H → Calls Tryd.prog 67 #[.pointer (some ⟨a, 0, none⟩), .agg #[.int .i64 (p : Int), .int .i64 (L : Int), .int .i64 (t : Int)]] W fun e w' => e = .returned (.tuple #[.int .i64 (n : Int), .int .i64 (f : Int)]) ∧ Fr [] W w') := by
    intro W hW
    have := shape_of (p, L, t) (2 * n + f) a l H W hW h4 h5 hb
    rw [show (2 * n + f) / 2 = n from by omega, show (2 * n + f) % 2 = f from by omega] at this
    exact this
  have HR := mkHid h
  clear h hs h3 h5 h4 h2 hh
  dsimp only [sv, I] at HSO
  rcases hi with hi | hi
  all_goals
    go_enter Tryd.func40, Tryd.ntmps40
    go_wp2_with fail
    refine Calls.mono HSO.out ?_
    rintro e w1 ⟨rfl, hf1⟩
    have F2 : Fr [] w (w1.alloc (.cells #[.int .i64 (p : Int), .int .i64 (L : Int), .int .i64 (t : Int)] 94)) := hf1.trans (Fr.alloc [] _ _) (by simp)
    have HF2 := mkHid F2
    clear hf1 F2
    go_wp2_with fail
    refine Calls.mono (HSH.out _ (HR.out.keep HF2.out (by simp))) ?_
    rintro e w2 ⟨rfl, hf2⟩
    have HF := mkHid (HF2.out.trans hf2 (by simp))
    clear hf2
    go_wp2
    go_ret
    exact ⟨rfl, HF.out⟩
set_option maxRecDepth 20000 in
set_option maxHeartbeats 2000000 in
theorem At_slot (oop n f : Nat) (i : Int) (a : Nat) (l : Lay) (H : HS) (w : World) (h : Rep w a l H) (hh : has H oop = true) (hb : (H.mem.length : Int) ≤ 1048576)
    (h4 : (H.seats.getD oop (0, 0, 0)).1 + 1 < H.mem.length) (h5 : H.mem.getD ((H.seats.getD oop (0, 0, 0)).1 + 1) 0 = ((2 * n + f : Nat) : Int)) (hf : (f : Int) ≤ 1) (hi : i < 0 ∨ (n : Int) ≤ i) :
    Calls Tryd.prog 103 #[.pointer (some ⟨a, 0, none⟩), .int .i64 oop, .int .i64 i] w fun e w' => e = .returned (.tuple #[.int .i64 0, .int .i64 21]) ∧ Fr [] w w' := by
  obtain ⟨h1, h2, h3⟩ := has_yes hh
  have HSO := mkHid (seatOf_yes oop a l H w h h1 h2 h3)
  obtain ⟨⟨p, L, t⟩, hs⟩ : ∃ s, s = H.seats.getD oop (0, 0, 0) := ⟨_, rfl⟩
  rw [← hs] at HSO h4 h5
  have HSH : Hid (∀ W, Rep W a l H → Calls Tryd.prog 67 #[.pointer (some ⟨a, 0, none⟩), .agg #[.int .i64 (p : Int), .int .i64 (L : Int), .int .i64 (t : Int)]] W fun e w' => e = .returned (.tuple #[.int .i64 (n : Int), .int .i64 (f : Int)]) ∧ Fr [] W w') := by
    intro W hW
    have := shape_of (p, L, t) (2 * n + f) a l H W hW h4 h5 hb
    rw [show (2 * n + f) / 2 = n from by omega, show (2 * n + f) % 2 = f from by omega] at this
    exact this
  have HR := mkHid h
  clear h hs h3 h5 h4 h2 hh
  dsimp only [sv, I] at HSO
  rcases hi with hi | hi
  all_goals
    go_enter Tryd.func103, Tryd.ntmps103
    go_wp2_with fail
    refine Calls.mono HSO.out ?_
    rintro e w1 ⟨rfl, hf1⟩
    have F2 : Fr [] w (w1.alloc (.cells #[.int .i64 (p : Int), .int .i64 (L : Int), .int .i64 (t : Int)] 94)) := hf1.trans (Fr.alloc [] _ _) (by simp)
    have HF2 := mkHid F2
    clear hf1 F2
    go_wp2_with fail
    refine Calls.mono (HSH.out _ (HR.out.keep HF2.out (by simp))) ?_
    rintro e w2 ⟨rfl, hf2⟩
    have HF := mkHid (HF2.out.trans hf2 (by simp))
    clear hf2
    go_wp2
    go_ret2
    exact ⟨rfl, HF.out⟩
set_option maxRecDepth 20000 in
set_option maxHeartbeats 2000000 in
theorem Put_word (oop i n f : Nat) (v : Int) (a : Nat) (l : Lay) (H : HS) (w : World) (h : Rep w a l H) (hh : has H oop = true) (hb : (H.mem.length : Int) ≤ 1048576)
    (h4 : (H.seats.getD oop (0, 0, 0)).1 + 1 < H.mem.length) (h5 : H.mem.getD ((H.seats.getD oop (0, 0, 0)).1 + 1) 0 = ((2 * n + f : Nat) : Int)) (hf : (f : Int) ≤ 1) (hi : (i : Int) < n) (hm : mayB v f = false) (hT : Tab w) :
    Calls Tryd.prog 40 #[.pointer (some ⟨a, 0, none⟩), .int .i64 oop, .int .i64 i, .int .i64 v] w fun e w' => e = .returned (.int .i64 10) ∧ Fr [] w w' := by
  obtain ⟨h1, h2, h3⟩ := has_yes hh
  have hal := h.lt a (by simp [foot])
  have HSO := mkHid (seatOf_yes oop a l H w h h1 h2 h3)
  obtain ⟨⟨p, L, t⟩, hs⟩ : ∃ s, s = H.seats.getD oop (0, 0, 0) := ⟨_, rfl⟩
  rw [← hs] at HSO h4 h5
  have HSH : Hid (∀ W, Rep W a l H → Calls Tryd.prog 67 #[.pointer (some ⟨a, 0, none⟩), .agg #[.int .i64 (p : Int), .int .i64 (L : Int), .int .i64 (t : Int)]] W fun e w' => e = .returned (.tuple #[.int .i64 (n : Int), .int .i64 (f : Int)]) ∧ Fr [] W w') := by
    intro W hW
    have := shape_of (p, L, t) (2 * n + f) a l H W hW h4 h5 hb
    rw [show (2 * n + f) / 2 = n from by omega, show (2 * n + f) % 2 = f from by omega] at this
    exact this
  have HMS : Hid (∀ W, Tab W → Calls Tryd.prog 68 #[.int .i64 v, .int .i64 f] W fun e w' => e = .returned (.bool false) ∧ w' = W) := by
    intro W hW
    have := mayStand_any v f W hW
    rw [hm] at this
    exact this
  have HR := mkHid h
  have HT := mkHid hT
  clear h hs h3 h5 h4 h2 hh hm hT
  dsimp only [sv, I] at HSO
  go_enter Tryd.func40, Tryd.ntmps40
  go_wp2_with fail
  refine Calls.mono HSO.out ?_
  rintro e w1 ⟨rfl, hf1⟩
  have F2 : Fr [] w (w1.alloc (.cells #[.int .i64 (p : Int), .int .i64 (L : Int), .int .i64 (t : Int)] 94)) := hf1.trans (Fr.alloc [] _ _) (by simp)
  have HF2 := mkHid F2
  clear hf1 F2
  go_wp2_with fail
  refine Calls.mono (HSH.out _ (HR.out.keep HF2.out (by simp))) ?_
  rintro e w2 ⟨rfl, hf2⟩
  have HF := mkHid (HF2.out.trans hf2 (by simp))
  clear hf2
  go_wp2_with fail
  refine Calls.mono (HMS.out _ (HT.out.fr HF.out (by omega))) ?_
  rintro e w3 ⟨rfl, hw3⟩
  rw [hw3]
  clear hw3 w3
  go_wp2
  go_ret
  exact ⟨rfl, HF.out⟩
end Go.Proofs.YtkmjimdaimbdfaaDoor



namespace Go.Proofs.YtkmjimdaimbdfaaDoor
open Go.RowKit
set_option linter.unusedVariables false
attribute [local go_sem ↓] Go.wp_at_zero Go.wp_at_succ
structure DrawOk (H : HS) (t e : Nat) : Prop where
  t1 : t ≤ H.order.length
  t2 : ∀ j, t ≤ j → j < H.order.length → H.order.getD j 0 = 0
  t3 : 0 < t → H.order.getD (t - 1) 0 ≠ 0 ∧ H.order.getD (t - 1) 0 < H.seats.length ∧ e = (H.seats.getD (H.order.getD (t - 1) 0) (0, 0, 0)).1 + (H.seats.getD (H.order.getD (t - 1) 0) (0, 0, 0)).2.1
  t4 : t = 0 → e = 0
  e1 : e ≤ H.mem.length
  e2 : H.mem = H.mem.take e ++ List.replicate (H.mem.length - e) 0
  m1 : H.mem.length ≤ 1048576
  r1 : H.order.length ≤ 1048576
  s1 : H.seats.length ≤ 65538
def drawH (H : HS) (t e : Nat) : HS := { H with mem := H.mem.take e, order := H.order.take t }
theorem drawn_t {H : HS} {t e k : Nat} (h : DrawOk H t e) (hk : k ≤ H.order.length) (hz : ∀ j, k ≤ j → j < H.order.length → H.order.getD j 0 = 0) (hs : 0 < k → H.order.getD (k - 1) 0 ≠ 0) : k = t := by
  rcases Nat.lt_trichotomy k t with h1 | h1 | h1
  · have h2 := (h.t3 (by omega)).1
    exact absurd (hz (t - 1) (by omega) (by have := h.t1; omega)) h2
  · exact h1
  · exact absurd (h.t2 (k - 1) (by omega) (by omega)) (hs (by omega))
set_option maxRecDepth 20000 in
set_option maxHeartbeats 2000000 in
theorem drawEnd_ok (t e : Nat) (a : Nat) (l : Lay) (H : HS) (w : World) (h : Rep w a l H) (hd : DrawOk H t e) :
    Calls Tryd.prog 82 #[.pointer (some ⟨a, 0, none⟩)] w fun x w' => x = .returned (.tuple #[]) ∧ Rep w' a l (drawH H t e) ∧ Nx a l l w w' := by
  have hal := h.lt a (by simp [foot])
  have c6 := h.c6
  have hr1 := hd.r1
  have HD := mkHid hd
  have HR := mkHid h
  clear hd h
  go_enter Tryd.func82, Tryd.ntmps82
  go_wp2
  go_loop [2] (fun q => ∃ k : Nat, k ≤ H.order.length ∧ q = .int .i64 k ∧ Hid (∀ j, k ≤ j → j < H.order.length → H.order.getD j 0 = 0)) (fun q => (intOf q).toNat)
  case atStart => exact ⟨H.order.length, Nat.le_refl _, rfl, fun j h1 h2 => by omega⟩
  case round =>
    obtain ⟨k, hkn, rfl, hz⟩ := hrel
    by_cases hcont : 0 < k ∧ H.order.getD (k - 1) 0 = 0
    · obtain ⟨hk0, hk1⟩ := hcont
      obtain ⟨go, hgo, hco, hfo, hgoa, hgol⟩ := HR.out.orderAt (k - 1) (by omega)
      have o1 := hco (k - 1) (by omega)
      rw [hk1] at o1
      rw [hgo] at c6
      have e1 : ((k : Int) - 1).toNat = k - 1 := by omega
      have e2 : (k : Int) - 1 = ((k - 1 : Nat) : Int) := by omega
      have k1 : (0 : Int) < (k : Int) := by omega
      have k2 : (0 : Int) ≤ (k : Int) - 1 := by omega
      have k3 : (k : Int) - 1 < (H.order.length : Int) := by omega
      have HN : Hid (∀ j, k - 1 ≤ j → j < H.order.length → H.order.getD j 0 = 0) := by
        intro j h1 h2
        by_cases hj : j = k - 1
        · rw [hj]; exact hk1
        · exact hz.out j (by omega) h2
      have HE2 := mkHid e2
      clear hco hfo hk1 e2
      go_wp2
      go_round
      case rel => exact ⟨k - 1, by omega, by rw [← HE2.out], HN⟩
      case measure => simp [intOf]; omega
    · have hkt : k = t := drawn_t HD.out hkn hz.out (fun hp hq => hcont ⟨hp, hq⟩)
      subst hkt
      have he1 := HD.out.e1
      have hm1 := HD.out.m1
      have ht1 := HD.out.t1
      have HRD : Hid (∀ W, Rep W a l H → ∀ W', Eqw ((W.setCell ⟨a, 6, none⟩ (.slice l.po k l.co)).setCell ⟨a, 4, none⟩ (.slice l.pm e l.cm)) W' → Rep W' a l (drawH H k e) ∧ Nx a l l W W') := fun W hW W' he => hW.cut HD.out.t1 HD.out.e1 HD.out.e2 W' he
      by_cases hk0 : 0 < k
      · obtain ⟨n1, n2, n3⟩ := HD.out.t3 hk0
        obtain ⟨go, hgo, hco, hfo, hgoa, hgol⟩ := HR.out.orderAt (k - 1) (by omega)
        have o1 := hco (k - 1) (by omega)
        have c6' := c6
        rw [hgo] at c6'
        have hb : ((H.order.getD (k - 1) 0 : Int) == 0) = false := by simpa using n1
        have e1 : ((k : Int) - 1).toNat = k - 1 := by omega
        have k1 : (0 : Int) < (k : Int) := by omega
        have k2 : (0 : Int) ≤ (k : Int) - 1 := by omega
        have k3 : (k : Int) - 1 < (H.order.length : Int) := by omega
        obtain ⟨gs, hgs, hcs, hfs, hgsa, hgsl⟩ := HR.out.seatAt _ n2
        obtain ⟨q0, q1, q2⟩ := hcs _ n2
        have c5 := HR.out.c5
        rw [hgs] at c5
        simp only [I] at q0 q1 q2
        clear hco hfo hcs hfs n1 hcont
        generalize H.order.getD (k - 1) 0 = o at *
        generalize (H.seats.getD o (0, 0, 0)).1 = y0 at *
        generalize (H.seats.getD o (0, 0, 0)).2.1 = y1 at *
        generalize (H.seats.getD o (0, 0, 0)).2.2 = y2 at *
        have m0 : (0 : Int) ≤ (o : Int) := by omega
        have m1 : (o : Int) < (H.seats.length : Int) := by omega
        have N3 := mkHid n3
        have hy : (y0 : Int) + (y1 : Int) ≤ 1048576 := by omega
        clear n3 c6
        have c6 := c6'
        clear c6'
        go_upto_if 26 with (fail)
        go_cut [3] (fun q W => q = .int .i64 (e : Int) ∧ Hid (Rep W a l H ∧ Nx a l l w W))
        case first =>
          go_wp2
          go_region
          all_goals go_wp2
          all_goals
            go_meet
            case rel => exact ⟨by rw [N3.out]; go_num, ((HR.out.alloc _).eqw (eqw_drew _)), (Nx.frw (Fr.alloc _ _ _)).eqw (eqw_drew _)⟩
        case rest =>
          obtain ⟨w2, hw2⟩ : ∃ w2, w2 = wc := ⟨_, rfl⟩
          subst hw2
          obtain ⟨rfl, hcut2⟩ := hcut
          clear q0 q1 q2 c5 c6 o1 hgo hgs
          have hr := hcut2.out.1
          have hx := hcut2.out.2
          have HE : Hid (∀ W', Eqw ((w2.setCell ⟨a, 6, none⟩ (.slice l.po k l.co)).setCell ⟨a, 4, none⟩ (.slice l.pm e l.cm)) W' → Rep W' a l (drawH H k e) ∧ Nx a l l w W') := by
            intro W' he
            have K := HRD.out _ hr W' he
            exact ⟨K.1, hx.trans K.2⟩
          have d4 := hr.c4
          have d6 := hr.c6
          have f4 := hr.frozen 4
          have f6 := hr.frozen 6
          have hcm := hr.ml
          have hco : k ≤ l.co ∧ (l.po = none → l.co = 0) ∧ (∀ ad, l.po = some ad → ∃ g, ad = ⟨g, 0, none⟩) := by
            have := hr.order
            rcases this.2 with ⟨q, q0⟩ | ⟨g, cap, cur, q1, q2, q3, q4, q5, q6, q7⟩
            · injection q with q1 q2 q3
              rw [q1, q3]
              exact ⟨by omega, (fun _ => rfl), (fun ad h => by cases h)⟩
            · injection q1 with q1 q1b q1c
              rw [q1, q1c]
              exact ⟨by omega, (fun h => by cases h), (fun ad h => ⟨g, by injection h with h; exact h.symm⟩)⟩
          have hpm : (l.pm = none → l.cm = 0) ∧ (∀ ad, l.pm = some ad → ∃ g, ad = ⟨g, 0, none⟩) := by
            have := hr.mem
            rcases this.2 with ⟨q, q0⟩ | ⟨g, cap, cur, q1, q2, q3, q4, q5, q6, q7⟩
            · injection q with q1 q2 q3
              rw [q1, q3]
              exact ⟨(fun _ => rfl), (fun ad h => by cases h)⟩
            · injection q1 with q1 q1b q1c
              rw [q1]
              exact ⟨(fun h => by cases h), (fun ad h => ⟨g, by injection h with h; exact h.symm⟩)⟩
          obtain ⟨hco1, hco2, hco3⟩ := hco
          obtain ⟨hpm1, hpm2⟩ := hpm
          have u1 : (0 : Int) ≤ (k : Int) := by omega
          have u2 : (k : Int) ≤ (l.co : Int) := by omega
          have u3 : (0 : Int) ≤ (e : Int) := by omega
          have u4 : (e : Int) ≤ (l.cm : Int) := by omega
          clear hr hx HRD HR HD hz
          obtain ⟨pm, cm, ps, cs, po, co, pb, cb⟩ := l
          dsimp only at *
          rcases po with _ | ado
          · have hc0 : co = 0 := hco2 rfl
            omega
          · obtain ⟨go2, rfl⟩ := hco3 ado rfl
            rcases pm with _ | adm
            · have e3 : cm = 0 := hpm1 rfl
              have e4 : e = 0 := by omega
              subst e3 e4
              clear hco2 hco3 hpm1 hpm2
              go_wp2
              go_region
              all_goals go_wp2
              all_goals
                go_end0
                refine ⟨rfl, HE.out _ ?_⟩
                exact eqw_drew _
            · obtain ⟨gm, rfl⟩ := hpm2 adm rfl
              clear hco2 hco3 hpm1 hpm2
              go_wp2
              go_region
              all_goals go_wp2
              all_goals
                go_end0
                refine ⟨rfl, HE.out _ ?_⟩
                exact eqw_drew _
      · have hk1 : k = 0 := by omega
        subst hk1
        have he0 : e = 0 := HD.out.t4 rfl
        subst he0
        clear c6
        have hr := HR.out
        have hx := Nx.refl a l w
        have HE : Hid (∀ W', Eqw ((w.setCell ⟨a, 6, none⟩ (.slice l.po 0 l.co)).setCell ⟨a, 4, none⟩ (.slice l.pm 0 l.cm)) W' → Rep W' a l (drawH H 0 0) ∧ Nx a l l w W') := by
          intro W' he
          have K := HRD.out _ hr W' he
          exact ⟨K.1, hx.trans K.2⟩
        have d4 := hr.c4
        have d6 := hr.c6
        have f4 := hr.frozen 4
        have f6 := hr.frozen 6
        have hcm := hr.ml
        have hco : 0 ≤ l.co ∧ (l.po = none → l.co = 0) ∧ (∀ ad, l.po = some ad → ∃ g, ad = ⟨g, 0, none⟩) := by
          have := hr.order
          rcases this.2 with ⟨q, q0⟩ | ⟨g, cap, cur, q1, q2, q3, q4, q5, q6, q7⟩
          · injection q with q1 q2 q3
            rw [q1, q3]
            exact ⟨by omega, (fun _ => rfl), (fun ad h => by cases h)⟩
          · injection q1 with q1 q1b q1c
            rw [q1, q1c]
            exact ⟨by omega, (fun h => by cases h), (fun ad h => ⟨g, by injection h with h; exact h.symm⟩)⟩
        have hpm : (l.pm = none → l.cm = 0) ∧ (∀ ad, l.pm = some ad → ∃ g, ad = ⟨g, 0, none⟩) := by
          have := hr.mem
          rcases this.2 with ⟨q, q0⟩ | ⟨g, cap, cur, q1, q2, q3, q4, q5, q6, q7⟩
          · injection q with q1 q2 q3
            rw [q1, q3]
            exact ⟨(fun _ => rfl), (fun ad h => by cases h)⟩
          · injection q1 with q1 q1b q1c
            rw [q1]
            exact ⟨(fun h => by cases h), (fun ad h => ⟨g, by injection h with h; exact h.symm⟩)⟩
        obtain ⟨hco1, hco2, hco3⟩ := hco
        obtain ⟨hpm1, hpm2⟩ := hpm
        have u1 : (0 : Int) ≤ (0 : Int) := by omega
        have u2 : (0 : Int) ≤ (l.co : Int) := by omega
        have u3 : (0 : Int) ≤ ((0 : Nat) : Int) := by omega
        have u4 : ((0 : Nat) : Int) ≤ (l.cm : Int) := by omega
        clear hr hx HRD HR HD hz
        obtain ⟨pm, cm, ps, cs, po, co, pb, cb⟩ := l
        dsimp only at *
        rcases po with _ | ado
        · have hc0 : co = 0 := hco2 rfl
          subst hc0
          rcases pm with _ | adm
          · have e3 : cm = 0 := hpm1 rfl
            subst e3
            clear hco2 hco3 hpm1 hpm2
            go_wp2
            go_region
            all_goals go_wp2
            all_goals
              go_end0
              refine ⟨rfl, HE.out _ ?_⟩
              exact eqw_drew _
          · obtain ⟨gm, rfl⟩ := hpm2 adm rfl
            clear hco2 hco3 hpm1 hpm2
            go_wp2
            go_region
            all_goals go_wp2
            all_goals
              go_end0
              refine ⟨rfl, HE.out _ ?_⟩
              exact eqw_drew _
        · obtain ⟨go2, rfl⟩ := hco3 ado rfl
          rcases pm with _ | adm
          · have e3 : cm = 0 := hpm1 rfl
            subst e3
            clear hco2 hco3 hpm1 hpm2
            go_wp2
            go_region
            all_goals go_wp2
            all_goals
              go_end0
              refine ⟨rfl, HE.out _ ?_⟩
              exact eqw_drew _
          · obtain ⟨gm, rfl⟩ := hpm2 adm rfl
            clear hco2 hco3 hpm1 hpm2
            go_wp2
            go_region
            all_goals go_wp2
            all_goals
              go_end0
              refine ⟨rfl, HE.out _ ?_⟩
              exact eqw_drew _
end Go.Proofs.YtkmjimdaimbdfaaDoor


namespace Go.Proofs.YtkmjimdaimbdfaaDoor
open Go.RowKit
set_option linter.unusedVariables false
attribute [local go_sem ↓] Go.wp_at_zero Go.wp_at_succ
def allTo (H : HS) (k : Nat) : List Nat := (List.range k).filter fun o => 0 < (H.seats.getD o (0, 0, 0)).2.1
theorem allTo_succ (H : HS) (k : Nat) : allTo H (k + 1) = allTo H k ++ (if 0 < (H.seats.getD k (0, 0, 0)).2.1 then [k] else []) := by
  unfold allTo
  rw [List.range_succ, List.filter_append]
  congr 1
  by_cases h : 0 < (H.seats.getD k (0, 0, 0)).2.1
  · rw [if_pos h, List.filter_cons_of_pos (by simpa using h)]; rfl
  · rw [if_neg h, List.filter_cons_of_neg (by simpa using h)]; rfl
theorem allTo_len (H : HS) (k : Nat) : (allTo H k).length ≤ k := by
  have := List.length_filter_le (fun o => decide (0 < (H.seats.getD o (0, 0, 0)).2.1)) (List.range k)
  unfold allTo
  rwa [List.length_range] at this
set_option maxRecDepth 20000 in
set_option maxHeartbeats 2000000 in
theorem All_ok (a : Nat) (l : Lay) (H : HS) (w : World) (h : Rep w a l H) (hs : (H.seats.length : Int) ≤ 65538) :
    Calls Tryd.prog 17 #[.pointer (some ⟨a, 0, none⟩)] w fun e w' => ∃ v, e = .returned v ∧ w'.ownsRow w.heap.size 3 1 v (allTo H H.seats.length).length ((allTo H H.seats.length).map I) ∧ Fr [] w w' := by
  have c0 := h.c0
  have c5 := h.c5
  have hal := h.lt a (by simp [foot])
  obtain ⟨j0, ji, jz0, jz1, jz2⟩ := info_parts info3
  have HR := mkHid h
  clear h
  go_enter Tryd.func17, Tryd.ntmps17
  go_wp2_with (go_at_call 43; refine (made_any _ _ c0).mono ?_; rintro e w1 ⟨rfl, hw1⟩; rw [hw1]; clear hw1 w1)
  go_loopw [3, 14] (fun v q wr => ∃ k : Nat, k ≤ H.seats.length ∧ q = .int .i64 k ∧ wr.ownsRow w.heap.size 3 1 v (allTo H k).length ((allTo H k).map I) ∧ Hid (Fr [] w wr)) (fun _ q _ => H.seats.length - (intOf q).toNat)
  case atStart => exact ⟨0, Nat.zero_le _, rfl, World.ownsRow_nil _ _ _ _, Fr.refl _ _⟩
  case round =>
    obtain ⟨k, hkn, rfl, hown, hfr⟩ := hrel
    by_cases hlt : k < H.seats.length
    · have hr := HR.out.keep hfr.out (by simp)
      obtain ⟨gs, hgs, hcs, hfs, hgsa, hgsl⟩ := hr.seatAt k hlt
      obtain ⟨q0, q1, q2⟩ := hcs k hlt
      simp only [I] at q0 q1 q2
      have hsu := allTo_succ H k
      have hle := allTo_len H k
      rw [hgs]
      have k1 : (0 : Int) ≤ (k : Int) := by omega
      have k2 : (k : Int) < (H.seats.length : Int) := by omega
      have hz := hfr.out.size
      clear hr hcs hfs c5 c0 hgs
      generalize (H.seats.getD k (0, 0, 0)).1 = y0 at *
      generalize (H.seats.getD k (0, 0, 0)).2.1 = y1 at *
      generalize (H.seats.getD k (0, 0, 0)).2.2 = y2 at *
      have HSU := mkHid hsu
      clear hsu
      generalize hX : allTo H k = X at *
      clear hX
      by_cases hy : 0 < y1
      · have hy' : (0 : Int) < (y1 : Int) := by omega
        have HS2 := HSU.out
        rw [if_pos hy] at HS2
        have HS3 := mkHid HS2
        clear HS2 HSU hy
        have hown2 := (hown.alloc (.cells #[.int .i64 (y0 : Int), .int .i64 (y1 : Int), .int .i64 (y2 : Int)] 94)).alloc (.cells #[.int .i64 (k : Int)] 3)
        have HFA : Hid (Fr [] w ((wr.alloc (.cells #[.int .i64 (y0 : Int), .int .i64 (y1 : Int), .int .i64 (y2 : Int)] 94)).alloc (.cells #[.int .i64 (k : Int)] 3))) := (hfr.out.trans (Fr.alloc [] _ _) (by simp)).trans (Fr.alloc [] _ _) (by simp)
        clear hown
        go_wp2_with (first
          | (at_builtin; refine wpList_append_own _ rfl (.tmp 22) (.tmp 24) 47 rfl w.heap.size 3 j0 (.int .i64 0) 1 8 Tryd.underlying47 ji jz0 jz1 jz2 rfl (by decide) _ _ _ rfl hown2 ⟨wr.heap.size + 1, 0, none⟩ 1 1 [.int .i64 (k : Int)] rfl rfl ?c1 ?c2 ?c3 ?c4 ?c5 ?_)
          | go_in)
        case c1 =>
          have := World.news_of_block (heap_alloc_new (wr.alloc (.cells #[.int .i64 (y0 : Int), .int .i64 (y1 : Int), .int .i64 (y2 : Int)] 94)) (.cells #[.int .i64 (k : Int)] 3))
          simpa using this
        case c2 => intro u hu; simp at hu; subst hu; rfl
        case c3 => unfold maxLen; omega
        case c4 => omega
        case c5 => simp; omega
        intro v' w1 hown' hgrow _
        have HG : Hid (Fr [] w w1) := by
          refine ⟨hgrow.os.trans HFA.out.os, hgrow.tape.trans HFA.out.tape, hgrow.output.trans HFA.out.output, Nat.le_trans HFA.out.size hgrow.size, fun i hi hn => ?_⟩
          rw [hgrow.block i (Nat.lt_of_lt_of_le hi HFA.out.size) (fun e => ?_)]
          · exact HFA.out.block i hi hn
          · have := (hown2.lt i e.symm).1
            omega
        have HO := mkHid hown'
        clear hown' hgrow hown2 HFA
        go_wp2
        go_roundw
        case rel => exact ⟨k + 1, by omega, by go_num, by rw [HS3.out]; simpa [I] using HO.out, HG⟩
        case measure => simp [intOf]; omega
      · have hy' : (y1 : Int) ≤ 0 := by omega
        have HS2 := HSU.out
        rw [if_neg hy, List.append_nil] at HS2
        have HS3 := mkHid HS2
        have HO := mkHid (hown.alloc (.cells #[.int .i64 (y0 : Int), .int .i64 (y1 : Int), .int .i64 (y2 : Int)] 94))
        have HFA : Hid (Fr [] w (wr.alloc (.cells #[.int .i64 (y0 : Int), .int .i64 (y1 : Int), .int .i64 (y2 : Int)] 94))) := hfr.out.trans (Fr.alloc [] _ _) (by simp)
        clear HS2 HSU hy hown
        go_wp2
        go_roundw
        case rel => exact ⟨k + 1, by omega, by go_num, by rw [HS3.out]; exact HO.out, HFA⟩
        case measure => simp [intOf]; omega
    · have hke : k = H.seats.length := by omega
      subst hke
      have HO := mkHid hown
      clear hown c5 c0
      go_wp2
      go_ret
      exact ⟨_, rfl, HO.out, hfr.out⟩
end Go.Proofs.YtkmjimdaimbdfaaDoor



namespace Go.Proofs.YtkmjimdaimbdfaaDoor
open Go.RowKit
set_option linter.unusedVariables false
attribute [local go_sem ↓] Go.wp_at_zero Go.wp_at_succ
end Go.Proofs.YtkmjimdaimbdfaaDoor



namespace Go.Proofs.YtkmjimdaimbdfaaDoor
open Go.RowKit
set_option linter.unusedVariables false
attribute [local go_sem ↓] Go.wp_at_zero Go.wp_at_succ
set_option maxRecDepth 20000 in
set_option maxHeartbeats 2000000 in
theorem Keep_no (zs : List Int) (j0 : Nat) (b off c : Nat) (a : Nat) (l : Lay) (H : HS) (w : World) (h : Rep w a l H) (hj0 : j0 < zs.length) (hpre : ∀ j, j < j0 → has H (zs.getD j 0) = true) (hbad : has H (zs.getD j0 0) = false)
    (ht1 : H.seats.length ≤ 65538) (hb : b < w.heap.size) (hbn : b ∉ foot a l) (hin : ∀ j, j < zs.length → w.cell? ⟨b, off + j, none⟩ = some (.int .i64 (zs.getD j 0))) (hkl : (zs.length : Int) ≤ 9223372036854775807) :
    Calls Tryd.prog 80 #[.pointer (some ⟨a, 0, none⟩), .slice (some ⟨b, off, none⟩) zs.length c] w fun e w' => e = .returned (.tuple #[.int .i64 0, .int .i64 0, .int .i64 20]) ∧ Rep w' a l H ∧ Nx a l l w w' := by
  have hal := h.lt a (by simp [foot])
  have c0 := h.c0
  have c5 := h.c5
  have hmk := make_bools H.seats.length (by omega)
  have HR := mkHid h
  have HIN := mkHid hin
  have HP := mkHid hpre
  have HBad := mkHid hbad
  clear h hin hpre hbad
  go_enter Tryd.func80, Tryd.ntmps80
  go_wp2_with (go_at_call 43; refine (made_any _ _ c0).mono ?_; rintro e w1 ⟨rfl, hw1⟩; rw [hw1]; clear hw1 w1)
  go_loopw [27] (fun q wr => ∃ k : Nat, k ≤ j0 ∧ q = .int .i64 k ∧ Hid (Rep wr a l H ∧ Nx a l l w wr ∧ ∃ C, C.size = H.seats.length ∧ wr.heap[w.heap.size]? = some (.cells C 4 (0, 0)))) (fun q _ => zs.length - (intOf q).toNat)
  case atStart => exact ⟨0, Nat.zero_le _, rfl, HR.out.alloc _, Nx.frw (Fr.alloc _ _ _), _, by simp [keptL_len], heap_alloc_new _ _⟩
  case round =>
    obtain ⟨k, hkn, rfl, hq⟩ := hrel
    obtain ⟨hr, hx, C, hCs, hkb⟩ := hq.out
    clear hq
    have hin := (hx.1.cell (p := ⟨b, off + k, none⟩) hb hbn).trans (HIN.out k (by omega))
    have k1 : (0 : Int) ≤ (k : Int) := by omega
    have k2 : (k : Int) < (zs.length : Int) := by omega
    by_cases hlt : k < j0
    · have hp := HP.out k hlt
      obtain ⟨j, hj⟩ : ∃ j : Nat, zs.getD k 0 = (j : Int) := by
        have h1 := of_decide_eq_true hp
        exact ⟨(zs.getD k 0).toNat, by omega⟩
      rw [hj] at hin hp
      obtain ⟨j1, j2, j3⟩ := has_yes hp
      have HSO := mkHid (seatOf_yes j a l H wr hr j1 j2 j3)
      obtain ⟨⟨p, L, t⟩, hs⟩ : ∃ s, s = H.seats.getD j (0, 0, 0) := ⟨_, rfl⟩
      rw [← hs] at HSO
      dsimp only [sv, I] at HSO
      have k3 : (0 : Int) ≤ (j : Int) := by omega
      have k4 : (j : Int) < (H.seats.length : Int) := by omega
      have hkl2 := lt_of_heap hkb
      have HRr := mkHid hr
      have HXr := mkHid hx
      have HKB := mkHid hkb
      have HCs := mkHid hCs
      clear hr hx hkb hs j3 hj hp hCs
      go_wp2_with fail
      refine Calls.mono HSO.out ?_
      rintro e w1 ⟨rfl, hf1⟩
      have z1 := hf1.size
      have hkb2 := (Below.heap_alloc w1 (.cells #[.int .i64 (p : Int), .int .i64 (L : Int), .int .i64 (t : Int)] 94) w.heap.size (by omega)).trans ((hf1.block _ hkl2 (by simp)).trans HKB.out)
      have cl := cell_in hkb2 j
      have fl := frozen_in hkb2 j
      rw [Array.getElem?_eq_getElem (by rw [HCs.out]; omega)] at cl
      have HE : Hid (∀ W, Eqw ((w1.alloc (.cells #[.int .i64 (p : Int), .int .i64 (L : Int), .int .i64 (t : Int)] 94)).setCell ⟨w.heap.size, j, none⟩ (.bool true)) W → Rep W a l H ∧ Nx a l l w W ∧ ∃ C, C.size = H.seats.length ∧ W.heap[w.heap.size]? = some (.cells C 4 (0, 0))) := by
        intro W he
        have F1 : Fr [] wr (w1.alloc (.cells #[.int .i64 (p : Int), .int .i64 (L : Int), .int .i64 (t : Int)] 94)) := hf1.trans (Fr.alloc [] _ _) (by simp)
        have hr1 := HRr.out.keep F1 (by simp)
        have hnf : w.heap.size ∉ foot a l := fun hm => by have := HR.out.lt _ hm; omega
        refine ⟨(hr1.congr fun g hg => set_else (fun e => hnf (by rw [← e]; exact hg))).eqw he, Nx.eqw ⟨?_, fun b hb => .inl hb⟩ he, C.setIfInBounds j (.bool true), by simpa using HCs.out, ?_⟩
        · refine (HXr.out.1.trans (F1.mono (S' := foot a l) (by simp)) (fun b hb => .inl hb)).trans (Fr.setCell (S := [w.heap.size]) _ _ _ (by simp)) (fun b hb => by simp at hb; subst hb; right; exact Nat.le_refl _)
        · rw [he.2.2.2, set_in hkb2 j (.bool true)]
      have HF1 := mkHid hf1
      generalize C[j]'(by rw [HCs.out]; omega) = old at cl
      clear hf1 hkb2 HSO
      go_wp2
      go_roundw
      case rel => exact ⟨k + 1, by omega, by go_num, HE.out _ ⟨rfl, rfl, rfl, rfl⟩⟩
      case measure => simp [intOf]; omega
    · have hke : k = j0 := by omega
      subst hke
      have HSO := mkHid (seatOf_none _ a l H wr hr HBad.out)
      have HRr := mkHid hr
      have HXr := mkHid hx
      generalize zs.getD k 0 = zv at *
      clear hr hx hkb hCs
      go_wp2_with fail
      refine Calls.mono HSO.out ?_
      rintro e w1 ⟨rfl, hf1⟩
      have F2 : Fr [] wr (w1.alloc (.cells #[.int .i64 0, .int .i64 0, .int .i64 0] 94)) := hf1.trans (Fr.alloc [] _ _) (by simp)
      have HF := mkHid F2
      clear hf1 F2 HSO
      go_wp2
      go_ret3
      exact ⟨rfl, HRr.out.keep HF.out (by simp), HXr.out.trans (Nx.frw (HF.out.mono (by simp)))⟩
end Go.Proofs.YtkmjimdaimbdfaaDoor



namespace Go.Proofs.YtkmjimdaimbdfaaDoor
open Go.RowKit
set_option linter.unusedVariables false
attribute [local go_sem ↓] Go.wp_at_zero Go.wp_at_succ
/-- a thing of the model: what it must be, and where its slots lie -/
structure Th where
  there : Bool
  cls : Int
  fmt : Nat
  place : Nat
  slots : List Int
  p : Option Addr
  c : Nat
/-- the model, and where its things lie -/
structure MS where
  words : Nat
  oops : Nat
  mark : Nat
  things : List Th
  pt : Option Addr
  ct : Nat
def noTh : Th := ⟨false, 0, 0, 0, [], none, 0⟩
def thCells (l : List Th) : List Value := l.flatMap fun t => [.bool t.there, .int .i64 t.cls, I t.fmt, I t.place, .slice t.p t.slots.length t.c]
def mcells (M : MS) : Array Value := #[I M.words, I M.oops, I M.mark, .slice M.pt M.things.length M.ct]
def mslots (M : MS) : List Nat := M.things.flatMap fun t => blk t.p
def mfoot (m : Nat) (M : MS) : List Nat := m :: (blk M.pt ++ mslots M)
theorem mslots_mem {M : MS} {t : Th} (ht : t ∈ M.things) {g : Nat} (hg : g ∈ blk t.p) : g ∈ mslots M := List.mem_flatMap.2 ⟨t, ht, hg⟩
theorem thCells_len (S : List Th) : (thCells S).length = S.length * 5 := by
  induction S with
  | nil => rfl
  | cons s S ih =>
    have e : thCells (s :: S) = [.bool s.there, .int .i64 s.cls, I s.fmt, I s.place, .slice s.p s.slots.length s.c] ++ thCells S := by simp [thCells]
    rw [e, List.length_append, ih]; simp; omega
theorem thCells_at (S : List Th) : ∀ k, k < S.length → (thCells S)[k * 5]? = some (.bool (S.getD k noTh).there) ∧ (thCells S)[k * 5 + 1]? = some (.int .i64 (S.getD k noTh).cls) ∧ (thCells S)[k * 5 + 2]? = some (I (S.getD k noTh).fmt) ∧
    (thCells S)[k * 5 + 3]? = some (I (S.getD k noTh).place) ∧ (thCells S)[k * 5 + 4]? = some (.slice (S.getD k noTh).p (S.getD k noTh).slots.length (S.getD k noTh).c) := by
  induction S with
  | nil => intro k hk; simp at hk
  | cons s S ih =>
    intro k hk
    have e : thCells (s :: S) = [.bool s.there, .int .i64 s.cls, I s.fmt, I s.place, .slice s.p s.slots.length s.c] ++ thCells S := by simp [thCells]
    cases k with
    | zero => rw [e]; exact ⟨rfl, rfl, rfl, rfl, rfl⟩
    | succ k =>
      have := ih k (by simpa using hk)
      have ea : ∀ j, ([Value.bool s.there, .int .i64 s.cls, I s.fmt, I s.place, .slice s.p s.slots.length s.c] ++ thCells S)[(k + 1) * 5 + j]? = (thCells S)[k * 5 + j]? := fun j => by
        rw [List.getElem?_append_right (by simp; omega)]
        congr 1
        simp
        omega
      rw [e]
      exact ⟨(ea 0).trans this.1, (ea 1).trans this.2.1, (ea 2).trans this.2.2.1, (ea 3).trans this.2.2.2.1, (ea 4).trans this.2.2.2.2⟩
set_option maxHeartbeats 400000 in
theorem refLen_any (n f : Nat) (w : World) (hn : (n : Int) ≤ 1048576) :
    Calls Tryd.prog 63 #[.int .i64 n, .int .i64 f] w fun e w' => e = .returned (.int .i64 (lenN n f : Nat)) ∧ w' = w := by
  by_cases hf : f = 1
  · subst hf
    go_enter Tryd.func63, Tryd.ntmps63
    go_wp2
    go_ret
    refine ⟨ret_int ?_, rfl⟩
    simp only [lenN, if_true]
    push_cast
    first | rfl | omega | (simp; omega)
  · have hf' : ((f : Int) == 1) = false := by simpa using (by omega : ¬ (f : Int) = 1)
    go_enter Tryd.func63, Tryd.ntmps63
    go_wp2
    go_ret
    refine ⟨ret_int ?_, rfl⟩
    simp only [lenN, if_neg hf]
    push_cast
    first | rfl | omega | (simp; omega)
def thereTo (S : List Th) (k : Nat) : Nat := ((S.take k).filter (·.there)).length
theorem thereTo_succ (S : List Th) (k : Nat) (hk : k < S.length) : thereTo S (k + 1) = thereTo S k + (if (S.getD k noTh).there then 1 else 0) := by
  unfold thereTo
  rw [List.take_add_one, List.filter_append, List.length_append, List.getD_eq_getElem?_getD, List.getElem?_eq_getElem hk]
  simp only [Option.toList_some, Option.getD_some]
  by_cases h : S[k].there = true
  · simp [h]
  · simp [h]
theorem thereTo_le (S : List Th) (k : Nat) : thereTo S k ≤ k := Nat.le_trans (List.length_filter_le _ _) (by simp; omega)
def endTo (S : List Th) : Nat → Nat
  | 0 => 0
  | k + 1 => if (S.getD k noTh).there ∧ endTo S k < (S.getD k noTh).place + lenN (S.getD k noTh).slots.length (S.getD k noTh).fmt then (S.getD k noTh).place + lenN (S.getD k noTh).slots.length (S.getD k noTh).fmt else endTo S k
theorem endTo_succ (S : List Th) (k : Nat) : endTo S (k + 1) = if (S.getD k noTh).there ∧ endTo S k < (S.getD k noTh).place + lenN (S.getD k noTh).slots.length (S.getD k noTh).fmt then (S.getD k noTh).place + lenN (S.getD k noTh).slots.length (S.getD k noTh).fmt else endTo S k := rfl
theorem endTo_le (S : List Th) (B : Nat) (k : Nat) (h : ∀ j, j < k → (S.getD j noTh).place + lenN (S.getD j noTh).slots.length (S.getD j noTh).fmt ≤ B) : endTo S k ≤ B := by
  induction k with
  | zero => exact Nat.zero_le _
  | succ k ih =>
    have := h k (by omega)
    have := ih fun j hj => h j (by omega)
    rw [endTo_succ]
    split <;> omega
theorem lenN_le (n f : Nat) : lenN n f ≤ 2 + n := by unfold lenN; split <;> omega
/-- bounds of the model's numbers -/
structure MOk (M : MS) : Prop where
  len : (M.things.length : Int) ≤ 65538
  slots : ∀ k, k < M.things.length → ((M.things.getD k noTh).slots.length : Int) ≤ 8192
  place : ∀ k, k < M.things.length → ((M.things.getD k noTh).place : Int) ≤ 1048576
end Go.Proofs.YtkmjimdaimbdfaaDoor



namespace Go.Proofs.YtkmjimdaimbdfaaDoor
open Go.RowKit
set_option linter.unusedVariables false
attribute [local go_sem ↓] Go.wp_at_zero Go.wp_at_succ
/-- the lowest oop that is free -/
def lowTo (S : List Th) : Nat := (S.takeWhile (·.there)).length + 1
theorem lowTo_at (S : List Th) (k : Nat) (hk : k < S.length) (h1 : ∀ j, j < k → (S.getD j noTh).there = true) (h2 : (S.getD k noTh).there = false) : lowTo S = k + 1 := by
  unfold lowTo
  congr 1
  induction S generalizing k with
  | nil => simp at hk
  | cons s S ih =>
    cases k with
    | zero => simp only [List.getD_cons_zero] at h2; rw [List.takeWhile_cons_of_neg (by simpa using h2)]; rfl
    | succ k =>
      have h0 := h1 0 (by omega)
      simp only [List.getD_cons_zero] at h0
      rw [List.takeWhile_cons_of_pos h0, List.length_cons]
      congr 1
      exact ih k (by simpa using hk) (fun j hj => by simpa using h1 (j + 1) (by omega)) (by simpa using h2)
theorem lowTo_full (S : List Th) (h1 : ∀ j, j < S.length → (S.getD j noTh).there = true) : lowTo S = S.length + 1 := by
  unfold lowTo
  congr 1
  induction S with
  | nil => rfl
  | cons s S ih =>
    have h0 := h1 0 (by simp)
    simp only [List.getD_cons_zero] at h0
    rw [List.takeWhile_cons_of_pos h0, List.length_cons, List.length_cons]
    congr 1
    exact ih fun j hj => by simpa using h1 (j + 1) (by simpa using hj)
def mhas (M : MS) (oop : Int) : Bool := decide (1 ≤ oop ∧ oop ≤ M.things.length ∧ (M.things.getD (oop.toNat - 1) noTh).there = true)
theorem mhas_yes {M : MS} {oop : Int} (h : mhas M oop = true) : ∃ k : Nat, oop = (k : Int) + 1 ∧ k < M.things.length ∧ (M.things.getD k noTh).there = true := by
  have h1 := of_decide_eq_true h
  exact ⟨oop.toNat - 1, by omega, by omega, h1.2.2⟩
theorem mhas_of {M : MS} (k : Nat) (hk : k < M.things.length) (h : (M.things.getD k noTh).there = true) : mhas M ((k : Int) + 1) = true :=
  decide_eq_true ⟨by omega, by omega, by rw [show ((k : Int) + 1).toNat - 1 = k from by omega]; exact h⟩
end Go.Proofs.YtkmjimdaimbdfaaDoor



namespace Go.Proofs.YtkmjimdaimbdfaaDoor
open Go.RowKit
set_option linter.unusedVariables false
theorem tm2 (n : Int) (h : n < 0) : n.tmod 2 = if n % 2 = 0 then 0 else -1 := by
  rw [Int.tmod_eq_emod]; split <;> split <;> omega
theorem tm4 (n : Int) (h : n < 0) : n.tmod 4 = if n % 4 = 0 then 0 else n % 4 - 4 := by
  rw [Int.tmod_eq_emod]; split <;> split <;> omega
set_option maxHeartbeats 400000 in
theorem rKind_0_p_in (n : Int) (w : World) (hr : n % 4 = 0) (hs : 0 ≤ n) (h0 : 4 ≤ n) (h1 : n ≤ 262144) :
    Calls Tryd.prog 33 #[.int .i64 n] w fun e w' => e = .returned (.int .i64 (3)) ∧ w' = w := by
  have h2 : n % 2 = 0 := by omega
  go_enter Tryd.func33, Tryd.ntmps33
  go_wp2
  go_ret
  exact ⟨rfl, rfl⟩
set_option maxHeartbeats 400000 in
theorem rKind_0_p_out (n : Int) (w : World) (hr : n % 4 = 0) (hs : 0 ≤ n) (h : n < 4 ∨ 262144 < n) :
    Calls Tryd.prog 33 #[.int .i64 n] w fun e w' => e = .returned (.int .i64 (0)) ∧ w' = w := by
  have h2 : n % 2 = 0 := by omega
  rcases h with h | h
  all_goals
    go_enter Tryd.func33, Tryd.ntmps33
    go_wp2
    go_ret
    exact ⟨rfl, rfl⟩
set_option maxHeartbeats 400000 in
theorem rKind_0_n_out (n : Int) (w : World) (hr : n % 4 = 0) (hs : n < 0) (h : n < 4) :
    Calls Tryd.prog 33 #[.int .i64 n] w fun e w' => e = .returned (.int .i64 (0)) ∧ w' = w := by
  have e2 : n.tmod 2 = 0 := by rw [tm2 n hs]; split <;> omega
  have e4 : n.tmod 4 = 0 := by rw [tm4 n hs, hr]; rfl
  clear hr
  go_enter Tryd.func33, Tryd.ntmps33
  go_wp2
  go_ret
  exact ⟨rfl, rfl⟩
set_option maxHeartbeats 400000 in
theorem rKind_1_p_in (n : Int) (w : World) (hr : n % 4 = 1) (hs : 0 ≤ n) (h0 : -2147483647 ≤ n) (h1 : n ≤ 2147483647) :
    Calls Tryd.prog 33 #[.int .i64 n] w fun e w' => e = .returned (.int .i64 (1)) ∧ w' = w := by
  have h2 : n % 2 = 1 := by omega
  go_enter Tryd.func33, Tryd.ntmps33
  go_wp2
  go_ret
  exact ⟨rfl, rfl⟩
set_option maxHeartbeats 400000 in
theorem rKind_1_p_out (n : Int) (w : World) (hr : n % 4 = 1) (hs : 0 ≤ n) (h : 2147483647 < n) :
    Calls Tryd.prog 33 #[.int .i64 n] w fun e w' => e = .returned (.int .i64 (0)) ∧ w' = w := by
  have h2 : n % 2 = 1 := by omega
  go_enter Tryd.func33, Tryd.ntmps33
  go_wp2
  go_ret
  exact ⟨rfl, rfl⟩
set_option maxHeartbeats 400000 in
theorem rKind_1_n_in (n : Int) (w : World) (hr : n % 4 = 1) (hs : n < 0) (h0 : -2147483647 ≤ n) (h1 : n ≤ 2147483647) :
    Calls Tryd.prog 33 #[.int .i64 n] w fun e w' => e = .returned (.int .i64 (1)) ∧ w' = w := by
  have e2 : n.tmod 2 = -1 := by rw [tm2 n hs]; split <;> omega
  have e4 : n.tmod 4 = -3 := by rw [tm4 n hs, hr]; rfl
  clear hr
  go_enter Tryd.func33, Tryd.ntmps33
  go_wp2
  go_ret
  exact ⟨rfl, rfl⟩
set_option maxHeartbeats 400000 in
theorem rKind_1_n_out (n : Int) (w : World) (hr : n % 4 = 1) (hs : n < 0) (h : n < -2147483647) :
    Calls Tryd.prog 33 #[.int .i64 n] w fun e w' => e = .returned (.int .i64 (0)) ∧ w' = w := by
  have e2 : n.tmod 2 = -1 := by rw [tm2 n hs]; split <;> omega
  have e4 : n.tmod 4 = -3 := by rw [tm4 n hs, hr]; rfl
  clear hr
  go_enter Tryd.func33, Tryd.ntmps33
  go_wp2
  go_ret
  exact ⟨rfl, rfl⟩
set_option maxHeartbeats 400000 in
theorem rKind_2_p_in (n : Int) (w : World) (hr : n % 4 = 2) (hs : 0 ≤ n) (h0 : 2 ≤ n) (h1 : n ≤ 16382) :
    Calls Tryd.prog 33 #[.int .i64 n] w fun e w' => e = .returned (.int .i64 (2)) ∧ w' = w := by
  have h2 : n % 2 = 0 := by omega
  go_enter Tryd.func33, Tryd.ntmps33
  go_wp2
  go_ret
  exact ⟨rfl, rfl⟩
set_option maxHeartbeats 400000 in
theorem rKind_2_p_out (n : Int) (w : World) (hr : n % 4 = 2) (hs : 0 ≤ n) (h : 16382 < n) :
    Calls Tryd.prog 33 #[.int .i64 n] w fun e w' => e = .returned (.int .i64 (0)) ∧ w' = w := by
  have h2 : n % 2 = 0 := by omega
  go_enter Tryd.func33, Tryd.ntmps33
  go_wp2
  go_ret
  exact ⟨rfl, rfl⟩
set_option maxHeartbeats 400000 in
theorem rKind_2_n_out (n : Int) (w : World) (hr : n % 4 = 2) (hs : n < 0) (h : n < 2) :
    Calls Tryd.prog 33 #[.int .i64 n] w fun e w' => e = .returned (.int .i64 (0)) ∧ w' = w := by
  have e2 : n.tmod 2 = 0 := by rw [tm2 n hs]; split <;> omega
  have e4 : n.tmod 4 = -2 := by rw [tm4 n hs, hr]; rfl
  clear hr
  go_enter Tryd.func33, Tryd.ntmps33
  go_wp2
  go_ret
  exact ⟨rfl, rfl⟩
set_option maxHeartbeats 400000 in
theorem rKind_3_p_in (n : Int) (w : World) (hr : n % 4 = 3) (hs : 0 ≤ n) (h0 : -2147483647 ≤ n) (h1 : n ≤ 2147483647) :
    Calls Tryd.prog 33 #[.int .i64 n] w fun e w' => e = .returned (.int .i64 (1)) ∧ w' = w := by
  have h2 : n % 2 = 1 := by omega
  go_enter Tryd.func33, Tryd.ntmps33
  go_wp2
  go_ret
  exact ⟨rfl, rfl⟩
set_option maxHeartbeats 400000 in
theorem rKind_3_p_out (n : Int) (w : World) (hr : n % 4 = 3) (hs : 0 ≤ n) (h : 2147483647 < n) :
    Calls Tryd.prog 33 #[.int .i64 n] w fun e w' => e = .returned (.int .i64 (0)) ∧ w' = w := by
  have h2 : n % 2 = 1 := by omega
  go_enter Tryd.func33, Tryd.ntmps33
  go_wp2
  go_ret
  exact ⟨rfl, rfl⟩
set_option maxHeartbeats 400000 in
theorem rKind_3_n_in (n : Int) (w : World) (hr : n % 4 = 3) (hs : n < 0) (h0 : -2147483647 ≤ n) (h1 : n ≤ 2147483647) :
    Calls Tryd.prog 33 #[.int .i64 n] w fun e w' => e = .returned (.int .i64 (1)) ∧ w' = w := by
  have e2 : n.tmod 2 = -1 := by rw [tm2 n hs]; split <;> omega
  have e4 : n.tmod 4 = -1 := by rw [tm4 n hs, hr]; rfl
  clear hr
  go_enter Tryd.func33, Tryd.ntmps33
  go_wp2
  go_ret
  exact ⟨rfl, rfl⟩
set_option maxHeartbeats 400000 in
theorem rKind_3_n_out (n : Int) (w : World) (hr : n % 4 = 3) (hs : n < 0) (h : n < -2147483647) :
    Calls Tryd.prog 33 #[.int .i64 n] w fun e w' => e = .returned (.int .i64 (0)) ∧ w' = w := by
  have e2 : n.tmod 2 = -1 := by rw [tm2 n hs]; split <;> omega
  have e4 : n.tmod 4 = -1 := by rw [tm4 n hs, hr]; rfl
  clear hr
  go_enter Tryd.func33, Tryd.ntmps33
  go_wp2
  go_ret
  exact ⟨rfl, rfl⟩
theorem rKind_any (n : Int) (w : World) :
    Calls Tryd.prog 33 #[.int .i64 n] w fun e w' => e = .returned (.int .i64 (kindOf n)) ∧ w' = w := by
  have h4 : n % 4 = 0 ∨ n % 4 = 1 ∨ n % 4 = 2 ∨ n % 4 = 3 := by omega
  by_cases hs : 0 ≤ n
  · rcases h4 with h4 | h4 | h4 | h4
    · by_cases h : 4 ≤ n ∧ n ≤ 262144
      · rw [(kind3 n).2 ⟨h4, h⟩]; exact rKind_0_p_in n w h4 hs h.1 h.2
      · have e : kindOf n = 0 := by unfold kindOf; (repeat' split) <;> omega
        rw [e]; exact rKind_0_p_out n w h4 hs (by omega)
    · by_cases h : n ≤ 2147483647
      · rw [(kind1 n).2 (by omega)]; exact rKind_1_p_in n w h4 hs (by omega) h
      · have e : kindOf n = 0 := by unfold kindOf; (repeat' split) <;> omega
        rw [e]; exact rKind_1_p_out n w h4 hs (by omega)
    · by_cases h : n ≤ 16382
      · rw [(kind2 n).2 (by omega)]; exact rKind_2_p_in n w h4 hs (by omega) h
      · have e : kindOf n = 0 := by unfold kindOf; (repeat' split) <;> omega
        rw [e]; exact rKind_2_p_out n w h4 hs (by omega)
    · by_cases h : n ≤ 2147483647
      · rw [(kind1 n).2 (by omega)]; exact rKind_3_p_in n w h4 hs (by omega) h
      · have e : kindOf n = 0 := by unfold kindOf; (repeat' split) <;> omega
        rw [e]; exact rKind_3_p_out n w h4 hs (by omega)
  · have hs' : n < 0 := by omega
    rcases h4 with h4 | h4 | h4 | h4
    · have e : kindOf n = 0 := by unfold kindOf; (repeat' split) <;> omega
      rw [e]; exact rKind_0_n_out n w h4 hs' (by omega)
    · by_cases h : -2147483647 ≤ n
      · rw [(kind1 n).2 (by omega)]; exact rKind_1_n_in n w h4 hs' h (by omega)
      · have e : kindOf n = 0 := by unfold kindOf; (repeat' split) <;> omega
        rw [e]; exact rKind_1_n_out n w h4 hs' (by omega)
    · have e : kindOf n = 0 := by unfold kindOf; (repeat' split) <;> omega
      rw [e]; exact rKind_2_n_out n w h4 hs' (by omega)
    · by_cases h : -2147483647 ≤ n
      · rw [(kind1 n).2 (by omega)]; exact rKind_3_n_in n w h4 hs' h (by omega)
      · have e : kindOf n = 0 := by unfold kindOf; (repeat' split) <;> omega
        rw [e]; exact rKind_3_n_out n w h4 hs' (by omega)
/-- may the slot have the word? -/
def mfits (n : Int) (f : Nat) : Bool := if f = 0 then isW n else (decide (f = 1) && decide (0 ≤ n ∧ n < 256))
end Go.Proofs.YtkmjimdaimbdfaaDoor



namespace Go.Proofs.YtkmjimdaimbdfaaDoor
open Go.RowKit
set_option linter.unusedVariables false
attribute [local go_sem ↓] Go.wp_at_zero Go.wp_at_succ
/-- the heap has the thing under the oop -/
structure Is (H : HS) (oop : Nat) (t : Th) : Prop where
  has : has H oop = true
  room : (H.seats.getD oop (0, 0, 0)).1 + lenN t.slots.length t.fmt ≤ H.mem.length
  cls : H.mem.getD (H.seats.getD oop (0, 0, 0)).1 0 = t.cls
  shape : H.mem.getD ((H.seats.getD oop (0, 0, 0)).1 + 1) 0 = ((2 * t.slots.length + t.fmt : Nat) : Int)
  fmt : t.fmt ≤ 1
  len : t.slots.length ≤ 8192
  word : t.fmt = 0 → ∀ i, i < t.slots.length → H.mem.getD ((H.seats.getD oop (0, 0, 0)).1 + 2 + i) 0 = t.slots.getD i 0
  byte : t.fmt = 1 → ∀ i, i < t.slots.length → ∃ old : Nat, H.mem.getD ((H.seats.getD oop (0, 0, 0)).1 + 2 + i / 4) 0 = (old : Int) ∧ (old : Int) ≤ 4294967295 ∧ t.slots.getD i 0 = ((getB old (i % 4) : Nat) : Int)
theorem lenN_byte (n i : Nat) (h : i < n) : 2 + i / 4 < lenN n 1 := by unfold lenN; rw [if_pos rfl]; omega
theorem lenN_word (n i f : Nat) (hf : f = 0) (h : i < n) : 2 + i < lenN n f := by unfold lenN; rw [if_neg (by omega)]; omega
theorem lenN_two (n f : Nat) : 2 ≤ lenN n f := by unfold lenN; split <;> omega
theorem Is.at {H : HS} {oop : Nat} {t : Th} (hi : Is H oop t) (i : Nat) (hin : i < t.slots.length) (a : Nat) (l : Lay) (hb : (H.mem.length : Int) ≤ 1048576) (w : World) (h : Rep w a l H) :
    Calls Tryd.prog 103 #[.pointer (some ⟨a, 0, none⟩), .int .i64 oop, .int .i64 i] w fun e w' => e = .returned (.tuple #[.int .i64 (t.slots.getD i 0), .int .i64 0]) ∧ Fr [] w w' := by
  obtain ⟨h1, h2, h3⟩ := has_yes hi.has
  have hr := hi.room
  have hl := hi.len
  have h2' := lenN_two t.slots.length t.fmt
  refine At_ok oop i t.slots.length t.fmt (t.slots.getD i 0) a l H w h hb h1 h2 h3 (by omega) hi.shape (by have := hi.fmt; omega) (by omega) (by omega) ?_
  intro W hW
  rcases (show t.fmt = 0 ∨ t.fmt = 1 from by have := hi.fmt; omega) with hf | hf
  · have := lenN_word t.slots.length i t.fmt hf hin
    rw [hf, ← hi.word hf i hin]
    exact slot_w _ i a l H W hW (by omega) hb
  · obtain ⟨old, o1, o2, o3⟩ := hi.byte hf i hin
    have := lenN_byte t.slots.length i hin
    rw [← hf] at this
    rw [hf, o3]
    exact getB_any _ i old a l H W hW (by omega) hb o1 (by omega)
def thv (t : Th) : Value := .agg #[.bool t.there, .int .i64 t.cls, .int .i64 t.fmt, .int .i64 t.place, .slice t.p t.slots.length t.c]
end Go.Proofs.YtkmjimdaimbdfaaDoor



namespace Go.Proofs.YtkmjimdaimbdfaaDoor
open Go.RowKit
set_option linter.unusedVariables false
attribute [local go_sem ↓] Go.wp_at_zero Go.wp_at_succ
/-- the heap says what the model says -/
structure Told (H : HS) (M : MS) : Prop where
  small : Small H
  words : H.words = M.words
  oops : H.oops = M.oops
  mark : H.mark = M.mark
  fin : H.mem.length = endTo M.things M.things.length
  cnt : H.count = thereTo M.things M.things.length
  is : ∀ k, k < M.things.length → (M.things.getD k noTh).there = true → Is H (k + 1) (M.things.getD k noTh)
  none : ∀ k, k < M.things.length → (M.things.getD k noTh).there = false → has H ((k : Int) + 1) = false
  all : ∀ k, k < M.things.length → (M.things.getD k noTh).there = true → (allTo H H.seats.length)[thereTo M.things k]? = some (k + 1)
  allLen : (allTo H H.seats.length).length = thereTo M.things M.things.length
  seats : (H.seats.length : Int) ≤ 65538
theorem hid_drew {S : List Nat} {w W : World} (h : Hid (Fr S w W)) : Hid (Fr S w W.drew) := h.out.trans (Fr.drew S W) (fun b hb => .inl hb)
theorem thereTo_lt (S : List Th) (k : Nat) (hk : k < S.length) (h : (S.getD k noTh).there = true) : thereTo S k < thereTo S S.length := by
  have h1 := thereTo_succ S k hk
  rw [if_pos h] at h1
  have : ∀ n, k + 1 ≤ n → n ≤ S.length → thereTo S (k + 1) ≤ thereTo S n := by
    intro n hn hl
    induction n with
    | zero => omega
    | succ n ih =>
      by_cases e : k + 1 = n + 1
      · rw [e]; exact Nat.le_refl _
      · have := ih (by omega) (by omega)
        have := thereTo_succ S n (by omega)
        omega
  have := this S.length (by omega) (Nat.le_refl _)
  omega
end Go.Proofs.YtkmjimdaimbdfaaDoor



