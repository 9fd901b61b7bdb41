import Derived.Test.YtklfnjlenbgmoaaDoorPG08HErr
set_option linter.unusedVariables false
namespace Go.Proofs.YtklfnjlenbgmoaaDoor
open Go.RowKit
attribute [local go_sem ↓] Go.wp_at_zero Go.wp_at_succ
structure DrawOk (H : HS) (t e : Nat) : Prop where
 t1 : t ≤ H.order.length
 t2 : ∀ j, t ≤ j → j < H.order.length → H.order.getD j 0 = 0
 t3 : 0 < t → H.order.getD (t - 1) 0 ≠ 0 ∧ H.order.getD (t - 1) 0 < H.seats.length ∧ e = (H.seats.getD (H.order.getD (t - 1) 0) (0, 0, 0)).1 + (H.seats.getD (H.order.getD (t - 1) 0) (0, 0, 0)).2.1
 t4 : t = 0 → e = 0
 e1 : e ≤ H.mem.length
 e2 : H.mem = H.mem.take e ++ List.replicate (H.mem.length - e) 0
 m1 : H.mem.length ≤ 1048576
 r1 : H.order.length ≤ 1048576
 s1 : H.seats.length ≤ 65538
def drawH (H : HS) (t e : Nat) : HS := { H with mem := H.mem.take e, order := H.order.take t }
theorem drawn_t {H : HS} {t e k : Nat} (h : DrawOk H t e) (hk : k ≤ H.order.length) (hz : ∀ j, k ≤ j → j < H.order.length → H.order.getD j 0 = 0) (hs : 0 < k → H.order.getD (k - 1) 0 ≠ 0) : k = t := by
 rcases Nat.lt_trichotomy k t with h1 | h1 | h1
 ·have h2 := (h.t3 (by omega)).1
  exact absurd (hz (t - 1) (by omega) (by have := h.t1; omega)) h2
 ·exact h1
 ·exact absurd (h.t2 (k - 1) (by omega) (by omega)) (hs (by omega))
set_option maxRecDepth 20000 in
set_option maxHeartbeats 2000000 in
theorem drawEnd_ok (t e : Nat) (a : Nat) (l : Lay) (H : HS) (w : World) (h : Rep w a l H) (hd : DrawOk H t e) :
  Calls Tryd.prog 75 #[.pointer (some ⟨a, 0, none⟩)] w fun x w' => x = .returned (.tuple #[]) ∧ Rep w' a l (drawH H t e) ∧ Nx a l l w w' := by
 have hal := h.lt a (by simp [foot])
 have c6 := h.c6
 have hr1 := hd.r1
 have HD := mkHid hd
 have HR := mkHid h
 clear hd h
 go_enter Tryd.func75, Tryd.ntmps75
 go_wp2
 go_loop [2] (fun q => ∃ k : Nat, k ≤ H.order.length ∧ q = .int .i64 k ∧ Hid (∀ j, k ≤ j → j < H.order.length → H.order.getD j 0 = 0)) (fun q => (intOf q).toNat)
 case atStart => exact ⟨H.order.length, Nat.le_refl _, rfl, fun j h1 h2 => by omega⟩
 case round =>
  obtain ⟨k, hkn, rfl, hz⟩ := hrel
  by_cases hcont : 0 < k ∧ H.order.getD (k - 1) 0 = 0
  ·obtain ⟨hk0, hk1⟩ := hcont
   obtain ⟨go, hgo, hco, hfo, hgoa, hgol⟩ := HR.out.orderAt (k - 1) (by omega)
   have o1 := hco (k - 1) (by omega)
   rw [hk1] at o1
   rw [hgo] at c6
   have e1 : ((k : Int) - 1).toNat = k - 1 := by omega
   have e2 : (k : Int) - 1 = ((k - 1 : Nat) : Int) := by omega
   have k1 : (0 : Int) < (k : Int) := by omega
   have k2 : (0 : Int) ≤ (k : Int) - 1 := by omega
   have k3 : (k : Int) - 1 < (H.order.length : Int) := by omega
   have HN : Hid (∀ j, k - 1 ≤ j → j < H.order.length → H.order.getD j 0 = 0) := by
    intro j h1 h2
    by_cases hj : j = k - 1
    ·rw [hj]; exact hk1
    ·exact hz.out j (by omega) h2
   have HE2 := mkHid e2
   clear hco hfo hk1 e2
   go_wp2
   go_round
   case rel => exact ⟨k - 1, by omega, by rw [← HE2.out], HN⟩
   case measure => simp [intOf]; omega
  ·have hkt : k = t := drawn_t HD.out hkn hz.out (fun hp hq => hcont ⟨hp, hq⟩)
   subst hkt
   have he1 := HD.out.e1
   have hm1 := HD.out.m1
   have ht1 := HD.out.t1
   have HRD : Hid (∀ W, Rep W a l H → ∀ W', Eqw ((W.setCell ⟨a, 6, none⟩ (.slice l.po k l.co)).setCell ⟨a, 4, none⟩ (.slice l.pm e l.cm)) W' → Rep W' a l (drawH H k e) ∧ Nx a l l W W') := fun W hW W' he => hW.cut HD.out.t1 HD.out.e1 HD.out.e2 W' he
   by_cases hk0 : 0 < k
   ·obtain ⟨n1, n2, n3⟩ := HD.out.t3 hk0
    obtain ⟨go, hgo, hco, hfo, hgoa, hgol⟩ := HR.out.orderAt (k - 1) (by omega)
    have o1 := hco (k - 1) (by omega)
    have c6' := c6
    rw [hgo] at c6'
    have hb : ((H.order.getD (k - 1) 0 : Int) == 0) = false := by simpa using n1
    have e1 : ((k : Int) - 1).toNat = k - 1 := by omega
    have k1 : (0 : Int) < (k : Int) := by omega
    have k2 : (0 : Int) ≤ (k : Int) - 1 := by omega
    have k3 : (k : Int) - 1 < (H.order.length : Int) := by omega
    obtain ⟨gs, hgs, hcs, hfs, hgsa, hgsl⟩ := HR.out.seatAt _ n2
    obtain ⟨q0, q1, q2⟩ := hcs _ n2
    have c5 := HR.out.c5
    rw [hgs] at c5
    simp only [I] at q0 q1 q2
    clear hco hfo hcs hfs n1 hcont
    generalize H.order.getD (k - 1) 0 = o at *
    generalize (H.seats.getD o (0, 0, 0)).1 = y0 at *
    generalize (H.seats.getD o (0, 0, 0)).2.1 = y1 at *
    generalize (H.seats.getD o (0, 0, 0)).2.2 = y2 at *
    have m0 : (0 : Int) ≤ (o : Int) := by omega
    have m1 : (o : Int) < (H.seats.length : Int) := by omega
    have N3 := mkHid n3
    have hy : (y0 : Int) + (y1 : Int) ≤ 1048576 := by omega
    clear n3 c6
    have c6 := c6'
    clear c6'
    go_upto_if 26 with (fail)
    go_cut [3] (fun q W => q = .int .i64 (e : Int) ∧ Hid (Rep W a l H ∧ Nx a l l w W))
    case first =>
     go_wp2
     go_region
     all_goals go_wp2
     all_goals
      go_meet
      case rel => exact ⟨by rw [N3.out]; go_num, ((HR.out.alloc _).eqw (eqw_drew _)), (Nx.frw (Fr.alloc _ _ _)).eqw (eqw_drew _)⟩
    case rest =>
     obtain ⟨w2, hw2⟩ : ∃ w2, w2 = wc := ⟨_, rfl⟩
     subst hw2
     obtain ⟨rfl, hcut2⟩ := hcut
     clear q0 q1 q2 c5 c6 o1 hgo hgs
     have hr := hcut2.out.1
     have hx := hcut2.out.2
     have HE : Hid (∀ W', Eqw ((w2.setCell ⟨a, 6, none⟩ (.slice l.po k l.co)).setCell ⟨a, 4, none⟩ (.slice l.pm e l.cm)) W' → Rep W' a l (drawH H k e) ∧ Nx a l l w W') := by
      intro W' he
      have K := HRD.out _ hr W' he
      exact ⟨K.1, hx.trans K.2⟩
     have d4 := hr.c4
     have d6 := hr.c6
     have f4 := hr.frozen 4
     have f6 := hr.frozen 6
     have hcm := hr.ml
     have hco : k ≤ l.co ∧ (l.po = none → l.co = 0) ∧ (∀ ad, l.po = some ad → ∃ g, ad = ⟨g, 0, none⟩) := by
      have := hr.order
      rcases this.2 with ⟨q, q0⟩ | ⟨g, cap, cur, q1, q2, q3, q4, q5, q6, q7⟩
      ·injection q with q1 q2 q3
       rw [q1, q3]
       exact ⟨by omega, (fun _ => rfl), (fun ad h => by cases h)⟩
      ·injection q1 with q1 q1b q1c
       rw [q1, q1c]
       exact ⟨by omega, (fun h => by cases h), (fun ad h => ⟨g, by injection h with h; exact h.symm⟩)⟩
     have hpm : (l.pm = none → l.cm = 0) ∧ (∀ ad, l.pm = some ad → ∃ g, ad = ⟨g, 0, none⟩) := by
      have := hr.mem
      rcases this.2 with ⟨q, q0⟩ | ⟨g, cap, cur, q1, q2, q3, q4, q5, q6, q7⟩
      ·injection q with q1 q2 q3
       rw [q1, q3]
       exact ⟨(fun _ => rfl), (fun ad h => by cases h)⟩
      ·injection q1 with q1 q1b q1c
       rw [q1]
       exact ⟨(fun h => by cases h), (fun ad h => ⟨g, by injection h with h; exact h.symm⟩)⟩
     obtain ⟨hco1, hco2, hco3⟩ := hco
     obtain ⟨hpm1, hpm2⟩ := hpm
     have u1 : (0 : Int) ≤ (k : Int) := by omega
     have u2 : (k : Int) ≤ (l.co : Int) := by omega
     have u3 : (0 : Int) ≤ (e : Int) := by omega
     have u4 : (e : Int) ≤ (l.cm : Int) := by omega
     clear hr hx HRD HR HD hz
     obtain ⟨pm, cm, ps, cs, po, co, pb, cb⟩ := l
     dsimp only at *
     rcases po with _ | ado
     ·have hc0 : co = 0 := hco2 rfl
      omega
     ·obtain ⟨go2, rfl⟩ := hco3 ado rfl
      rcases pm with _ | adm
      ·have e3 : cm = 0 := hpm1 rfl
       have e4 : e = 0 := by omega
       subst e3 e4
       clear hco2 hco3 hpm1 hpm2
       go_wp2
       go_region
       all_goals go_wp2
       all_goals
        go_end0
        refine ⟨rfl, HE.out _ ?_⟩
        exact eqw_drew _
      ·obtain ⟨gm, rfl⟩ := hpm2 adm rfl
       clear hco2 hco3 hpm1 hpm2
       go_wp2
       go_region
       all_goals go_wp2
       all_goals
        go_end0
        refine ⟨rfl, HE.out _ ?_⟩
        exact eqw_drew _
   ·have hk1 : k = 0 := by omega
    subst hk1
    have he0 : e = 0 := HD.out.t4 rfl
    subst he0
    clear c6
    have hr := HR.out
    have hx := Nx.refl a l w
    have HE : Hid (∀ W', Eqw ((w.setCell ⟨a, 6, none⟩ (.slice l.po 0 l.co)).setCell ⟨a, 4, none⟩ (.slice l.pm 0 l.cm)) W' → Rep W' a l (drawH H 0 0) ∧ Nx a l l w W') := by
     intro W' he
     have K := HRD.out _ hr W' he
     exact ⟨K.1, hx.trans K.2⟩
    have d4 := hr.c4
    have d6 := hr.c6
    have f4 := hr.frozen 4
    have f6 := hr.frozen 6
    have hcm := hr.ml
    have hco : 0 ≤ l.co ∧ (l.po = none → l.co = 0) ∧ (∀ ad, l.po = some ad → ∃ g, ad = ⟨g, 0, none⟩) := by
     have := hr.order
     rcases this.2 with ⟨q, q0⟩ | ⟨g, cap, cur, q1, q2, q3, q4, q5, q6, q7⟩
     ·injection q with q1 q2 q3
      rw [q1, q3]
      exact ⟨by omega, (fun _ => rfl), (fun ad h => by cases h)⟩
     ·injection q1 with q1 q1b q1c
      rw [q1, q1c]
      exact ⟨by omega, (fun h => by cases h), (fun ad h => ⟨g, by injection h with h; exact h.symm⟩)⟩
    have hpm : (l.pm = none → l.cm = 0) ∧ (∀ ad, l.pm = some ad → ∃ g, ad = ⟨g, 0, none⟩) := by
     have := hr.mem
     rcases this.2 with ⟨q, q0⟩ | ⟨g, cap, cur, q1, q2, q3, q4, q5, q6, q7⟩
     ·injection q with q1 q2 q3
      rw [q1, q3]
      exact ⟨(fun _ => rfl), (fun ad h => by cases h)⟩
     ·injection q1 with q1 q1b q1c
      rw [q1]
      exact ⟨(fun h => by cases h), (fun ad h => ⟨g, by injection h with h; exact h.symm⟩)⟩
    obtain ⟨hco1, hco2, hco3⟩ := hco
    obtain ⟨hpm1, hpm2⟩ := hpm
    have u1 : (0 : Int) ≤ (0 : Int) := by omega
    have u2 : (0 : Int) ≤ (l.co : Int) := by omega
    have u3 : (0 : Int) ≤ ((0 : Nat) : Int) := by omega
    have u4 : ((0 : Nat) : Int) ≤ (l.cm : Int) := by omega
    clear hr hx HRD HR HD hz
    obtain ⟨pm, cm, ps, cs, po, co, pb, cb⟩ := l
    dsimp only at *
    rcases po with _ | ado
    ·have hc0 : co = 0 := hco2 rfl
     subst hc0
     rcases pm with _ | adm
     ·have e3 : cm = 0 := hpm1 rfl
      subst e3
      clear hco2 hco3 hpm1 hpm2
      go_wp2
      go_region
      all_goals go_wp2
      all_goals
       go_end0
       refine ⟨rfl, HE.out _ ?_⟩
       exact eqw_drew _
     ·obtain ⟨gm, rfl⟩ := hpm2 adm rfl
      clear hco2 hco3 hpm1 hpm2
      go_wp2
      go_region
      all_goals go_wp2
      all_goals
       go_end0
       refine ⟨rfl, HE.out _ ?_⟩
       exact eqw_drew _
    ·obtain ⟨go2, rfl⟩ := hco3 ado rfl
     rcases pm with _ | adm
     ·have e3 : cm = 0 := hpm1 rfl
      subst e3
      clear hco2 hco3 hpm1 hpm2
      go_wp2
      go_region
      all_goals go_wp2
      all_goals
       go_end0
       refine ⟨rfl, HE.out _ ?_⟩
       exact eqw_drew _
     ·obtain ⟨gm, rfl⟩ := hpm2 adm rfl
      clear hco2 hco3 hpm1 hpm2
      go_wp2
      go_region
      all_goals go_wp2
      all_goals
       go_end0
       refine ⟨rfl, HE.out _ ?_⟩
       exact eqw_drew _
set_option maxRecDepth 20000 in
set_option maxHeartbeats 2000000 in
theorem Free_ok (oop t e : Nat) (a : Nat) (l : Lay) (H : HS) (w : World) (h : Rep w a l H) (hh : has H oop = true) (hv : VacOk H oop) (hd : DrawOk (vacH H oop) t e) (hage : (H.age : Int) ≤ 1000000000) :
  Calls Tryd.prog 64 #[.pointer (some ⟨a, 0, none⟩), .int .i64 oop] w fun x w' => x = .returned (.int .i64 0) ∧ Rep w' a l { drawH (vacH H oop) t e with age := H.age + 1 } ∧ Nx a l l w w' := by
 obtain ⟨h1, h2, h3⟩ := has_yes hh
 have HSO := mkHid (seatOf_yes oop a l H w h h1 h2 h3)
 obtain ⟨⟨p, L, t'⟩, hs⟩ : ∃ s, s = H.seats.getD oop (0, 0, 0) := ⟨_, rfl⟩
 rw [← hs] at HSO
 have HV := mkHid (fun W (hW : Rep W a l H) => vacate_ok oop a l H W hW hv)
 have HDR := mkHid (fun W (hW : Rep W a l (vacH H oop)) => drawEnd_ok t e a l (vacH H oop) W hW hd)
 have HAG : Hid ((drawH (vacH H oop) t e).age = H.age) := rfl
 have HR := mkHid h
 clear h hs h1 h2 h3 hh hv hd
 dsimp only [sv, I] at HSO
 generalize drawH (vacH H oop) t e = HX at *
 generalize vacH H oop = HV0 at *
 go_enter Tryd.func64, Tryd.ntmps64
 go_wp2_with fail
 refine Calls.mono HSO.out ?_
 rintro x w1 ⟨rfl, hf1⟩
 have F2 : Fr [] w (w1.alloc (.cells #[.int .i64 (p : Int), .int .i64 (L : Int), .int .i64 (t' : Int)] 103)) := hf1.trans (Fr.alloc [] _ _) (by simp)
 have HF2 := mkHid F2
 clear hf1 F2 HSO
 go_wp2_with fail
 refine Calls.mono (HV.out _ (HR.out.keep HF2.out (by simp))) ?_
 rintro x w2 ⟨rfl, hr2, hx2⟩
 have HR2 := mkHid hr2
 have HX2 := mkHid ((Nx.frw (HF2.out.mono (by simp)) : Nx a l l w _).trans hx2)
 clear hr2 hx2 HV HF2
 go_wp2_with fail
 refine Calls.mono (HDR.out _ HR2.out) ?_
 rintro x w3 ⟨rfl, hr3, hx3⟩
 have d10 := hr3.c10
 have f10 := hr3.frozen 10
 rw [HAG.out] at d10
 have HF : Hid (∀ W, Eqw (w3.setCell ⟨a, 10, none⟩ (.int .i64 ((H.age : Int) + 1))) W → Rep W a l { HX with age := H.age + 1 } ∧ Nx a l l w W) := by
  intro W he
  have K := hr3.set (H' := { HX with age := H.age + 1 }) 10 (.int .i64 ((H.age : Int) + 1)) rfl rfl rfl rfl rfl
  exact ⟨K.eqw he, ((HX2.out.trans hx3).trans (Nx.fr (Fr.setCell (S := [a]) _ _ _ (by simp)))).eqw he⟩
 clear hr3 hx3 HDR HR2
 go_wp2
 go_ret
 exact ⟨rfl, HF.out _ ⟨rfl, rfl, rfl, rfl⟩⟩
def allTo (H : HS) (k : Nat) : List Nat := (List.range k).filter fun o => 0 < (H.seats.getD o (0, 0, 0)).2.1
theorem allTo_succ (H : HS) (k : Nat) : allTo H (k + 1) = allTo H k ++ (if 0 < (H.seats.getD k (0, 0, 0)).2.1 then [k] else []) := by
 unfold allTo
 rw [List.range_succ, List.filter_append]
 congr 1
 by_cases h : 0 < (H.seats.getD k (0, 0, 0)).2.1
 ·rw [if_pos h, List.filter_cons_of_pos (by simpa using h)]; rfl
 ·rw [if_neg h, List.filter_cons_of_neg (by simpa using h)]; rfl
theorem allTo_len (H : HS) (k : Nat) : (allTo H k).length ≤ k := by
 have := List.length_filter_le (fun o => decide (0 < (H.seats.getD o (0, 0, 0)).2.1)) (List.range k)
 unfold allTo
 rwa [List.length_range] at this
set_option maxRecDepth 20000 in
set_option maxHeartbeats 2000000 in
theorem All_ok (a : Nat) (l : Lay) (H : HS) (w : World) (h : Rep w a l H) (hs : (H.seats.length : Int) ≤ 65538) :
  Calls Tryd.prog 35 #[.pointer (some ⟨a, 0, none⟩)] w fun e w' => ∃ v, e = .returned v ∧ w'.ownsRow w.heap.size 3 1 v (allTo H H.seats.length).length ((allTo H H.seats.length).map I) ∧ Fr [] w w' := by
 have c0 := h.c0
 have c5 := h.c5
 have hal := h.lt a (by simp [foot])
 obtain ⟨j0, ji, jz0, jz1, jz2⟩ := info_parts info3
 have HR := mkHid h
 clear h
 go_enter Tryd.func35, Tryd.ntmps35
 go_wp2_with (go_at_call 44; refine (made_any _ _ c0).mono ?_; rintro e w1 ⟨rfl, hw1⟩; rw [hw1]; clear hw1 w1)
 go_loopw [3, 14] (fun v q wr => ∃ k : Nat, k ≤ H.seats.length ∧ q = .int .i64 k ∧ wr.ownsRow w.heap.size 3 1 v (allTo H k).length ((allTo H k).map I) ∧ Hid (Fr [] w wr)) (fun _ q _ => H.seats.length - (intOf q).toNat)
 case atStart => exact ⟨0, Nat.zero_le _, rfl, World.ownsRow_nil _ _ _ _, Fr.refl _ _⟩
 case round =>
  obtain ⟨k, hkn, rfl, hown, hfr⟩ := hrel
  by_cases hlt : k < H.seats.length
  ·have hr := HR.out.keep hfr.out (by simp)
   obtain ⟨gs, hgs, hcs, hfs, hgsa, hgsl⟩ := hr.seatAt k hlt
   obtain ⟨q0, q1, q2⟩ := hcs k hlt
   simp only [I] at q0 q1 q2
   have hsu := allTo_succ H k
   have hle := allTo_len H k
   rw [hgs]
   have k1 : (0 : Int) ≤ (k : Int) := by omega
   have k2 : (k : Int) < (H.seats.length : Int) := by omega
   have hz := hfr.out.size
   clear hr hcs hfs c5 c0 hgs
   generalize (H.seats.getD k (0, 0, 0)).1 = y0 at *
   generalize (H.seats.getD k (0, 0, 0)).2.1 = y1 at *
   generalize (H.seats.getD k (0, 0, 0)).2.2 = y2 at *
   have HSU := mkHid hsu
   clear hsu
   generalize hX : allTo H k = X at *
   clear hX
   by_cases hy : 0 < y1
   ·have hy' : (0 : Int) < (y1 : Int) := by omega
    have HS2 := HSU.out
    rw [if_pos hy] at HS2
    have HS3 := mkHid HS2
    clear HS2 HSU hy
    have hown2 := (hown.alloc (.cells #[.int .i64 (y0 : Int), .int .i64 (y1 : Int), .int .i64 (y2 : Int)] 103)).alloc (.cells #[.int .i64 (k : Int)] 3)
    have HFA : Hid (Fr [] w ((wr.alloc (.cells #[.int .i64 (y0 : Int), .int .i64 (y1 : Int), .int .i64 (y2 : Int)] 103)).alloc (.cells #[.int .i64 (k : Int)] 3))) := (hfr.out.trans (Fr.alloc [] _ _) (by simp)).trans (Fr.alloc [] _ _) (by simp)
    clear hown
    go_wp2_with (first
     | (at_builtin; refine wpList_append_own _ rfl (.tmp 22) (.tmp 24) 22 rfl w.heap.size 3 j0 (.int .i64 0) 1 8 Tryd.underlying22 ji jz0 jz1 jz2 rfl (by decide) _ _ _ rfl hown2 ⟨wr.heap.size + 1, 0, none⟩ 1 1 [.int .i64 (k : Int)] rfl rfl ?c1 ?c2 ?c3 ?c4 ?c5 ?_)
     | go_in)
    case c1 =>
     have := World.news_of_block (heap_alloc_new (wr.alloc (.cells #[.int .i64 (y0 : Int), .int .i64 (y1 : Int), .int .i64 (y2 : Int)] 103)) (.cells #[.int .i64 (k : Int)] 3))
     simpa using this
    case c2 => intro u hu; simp at hu; subst hu; rfl
    case c3 => unfold maxLen; omega
    case c4 => omega
    case c5 => simp; omega
    intro v' w1 hown' hgrow _
    have HG : Hid (Fr [] w w1) := by
     refine ⟨hgrow.os.trans HFA.out.os, hgrow.tape.trans HFA.out.tape, hgrow.output.trans HFA.out.output, Nat.le_trans HFA.out.size hgrow.size, fun i hi hn => ?_⟩
     rw [hgrow.block i (Nat.lt_of_lt_of_le hi HFA.out.size) (fun e => ?_)]
     ·exact HFA.out.block i hi hn
     ·have := (hown2.lt i e.symm).1
      omega
    have HO := mkHid hown'
    clear hown' hgrow hown2 HFA
    go_wp2
    go_roundw
    case rel => exact ⟨k + 1, by omega, by go_num, by rw [HS3.out]; simpa [I] using HO.out, HG⟩
    case measure => simp [intOf]; omega
   ·have hy' : (y1 : Int) ≤ 0 := by omega
    have HS2 := HSU.out
    rw [if_neg hy, List.append_nil] at HS2
    have HS3 := mkHid HS2
    have HO := mkHid (hown.alloc (.cells #[.int .i64 (y0 : Int), .int .i64 (y1 : Int), .int .i64 (y2 : Int)] 103))
    have HFA : Hid (Fr [] w (wr.alloc (.cells #[.int .i64 (y0 : Int), .int .i64 (y1 : Int), .int .i64 (y2 : Int)] 103))) := hfr.out.trans (Fr.alloc [] _ _) (by simp)
    clear HS2 HSU hy hown
    go_wp2
    go_roundw
    case rel => exact ⟨k + 1, by omega, by go_num, by rw [HS3.out]; exact HO.out, HFA⟩
    case measure => simp [intOf]; omega
  ·have hke : k = H.seats.length := by omega
   subst hke
   have HO := mkHid hown
   clear hown c5 c0
   go_wp2
   go_ret
   exact ⟨_, rfl, HO.out, hfr.out⟩
set_option maxRecDepth 20000 in
set_option maxHeartbeats 4000000 in
theorem Exchange_same (i : Nat) (a : Nat) (l : Lay) (H : HS) (w : World) (h : Rep w a l H) (h1 : (1 : Int) ≤ i) (h2 : (i : Int) < H.seats.length) (h3 : (H.seats.getD i (0, 0, 0)).2.1 ≠ 0) (t1 : (H.seats.getD i (0, 0, 0)).2.2 < H.order.length) (hsl : (H.seats.length : Int) ≤ 65538) (hol : (H.order.length : Int) ≤ 1048576) (hage : (H.age : Int) ≤ 1000000000) :
  Calls Tryd.prog 46 #[.pointer (some ⟨a, 0, none⟩), .int .i64 i, .int .i64 i] w fun e w' => e = .returned (.int .i64 0) ∧ Rep w' a l (exchH H i i) ∧ Nx a l l w w' := by
 have hal := h.lt a (by simp [foot])
 have HS1 := mkHid (fun W (hW : Rep W a l H) => seatOf_yes i a l H W hW h1 h2 h3)
 have HS2 := mkHid (fun W (hW : Rep W a l H) => seatOf_yes i a l H W hW h1 h2 h3)
 have HR := mkHid h
 have HEX : Hid (exchH H i i = { H with seats := (H.seats.set i (H.seats.getD i (0, 0, 0))).set i (H.seats.getD i (0, 0, 0)), order := (H.order.set (H.seats.getD i (0, 0, 0)).2.2 i).set (H.seats.getD i (0, 0, 0)).2.2 i, age := H.age + 1 }) := rfl
 generalize exchH H i i = HX at *
 clear h h3
 obtain ⟨⟨x0, x1, x2⟩, hx⟩ : ∃ s, s = H.seats.getD i (0, 0, 0) := ⟨_, rfl⟩
 rw [← hx] at HS1 HS2 t1 HEX
 dsimp only [sv, I] at HS1 HS2 t1 HEX
 clear hx
 go_enter Tryd.func46, Tryd.ntmps46
 go_wp2_with fail
 refine Calls.mono (HS1.out _ HR.out) ?_
 rintro e w1 ⟨rfl, hf1⟩
 have hz1 := hf1.size
 have HF1 := mkHid hf1
 clear hf1
 go_wp2_with fail
 have F2 : Fr [] w (w1.alloc (.cells #[.int .i64 (x0 : Int), .int .i64 (x1 : Int), .int .i64 (x2 : Int)] 103)) := HF1.out.trans (Fr.alloc [] _ _) (by simp)
 refine Calls.mono (HS2.out _ (HR.out.keep F2 (by simp))) ?_
 rintro e w2 ⟨rfl, hf2⟩
 have z2 := hf2.size
 have s0 := hf2.cell (p := ⟨w1.heap.size, 0, none⟩) (by simp) (by simp)
 have s1 := hf2.cell (p := ⟨w1.heap.size, 1, none⟩) (by simp) (by simp)
 have s2 := hf2.cell (p := ⟨w1.heap.size, 2, none⟩) (by simp) (by simp)
 simp only [World.cell?_alloc_new, List.getElem?_toArray, List.getElem?_cons_succ, List.getElem?_cons_zero, World.size_alloc] at s0 s1 s2 z2
 have F3 := F2.trans hf2 (by simp)
 have HW0 := mkHid ((hf2.block w1.heap.size (by simp) (by simp)).trans (heap_alloc_new w1 _))
 have hr2 := HR.out.keep F3 (by simp)
 clear hf2 F2 HS1 HS2
 obtain ⟨gs, hgs, hcs, hfs, hgsa, hgsl⟩ := HR.out.seatAt i (by omega)
 obtain ⟨p0, p1, p2⟩ := hcs i (by omega)
 obtain ⟨q0, q1, q2⟩ := hcs i (by omega)
 have c5 := hr2.c5
 rw [hgs] at c5
 have cc : ∀ o, w2.cell? ⟨gs, o, none⟩ = w.cell? ⟨gs, o, none⟩ := fun o => F3.cell (p := ⟨gs, o, none⟩) hgsl (by simp)
 have ff : ∀ o, w2.frozen? ⟨gs, o, none⟩ = false := fun o => (F3.frozen (p := ⟨gs, o, none⟩) hgsl (by simp)).trans (hfs o)
 obtain ⟨o3, ho3⟩ : ∃ o3, o3 = Obj.cells #[.int .i64 (x0 : Int), .int .i64 (x1 : Int), .int .i64 (x2 : Int)] 103 := ⟨_, rfl⟩
 have P0 := ((World.cell?_alloc_lt w2 o3 ⟨gs, i * 3, none⟩ (by show gs < _; omega)).trans (cc _)).trans p0
 have P1 := ((World.cell?_alloc_lt w2 o3 ⟨gs, i * 3 + 1, none⟩ (by show gs < _; omega)).trans (cc _)).trans p1
 have P2 := ((World.cell?_alloc_lt w2 o3 ⟨gs, i * 3 + 2, none⟩ (by show gs < _; omega)).trans (cc _)).trans p2
 have Q0 := ((World.cell?_alloc_lt w2 o3 ⟨gs, i * 3, none⟩ (by show gs < _; omega)).trans (cc _)).trans q0
 have Q1 := ((World.cell?_alloc_lt w2 o3 ⟨gs, i * 3 + 1, none⟩ (by show gs < _; omega)).trans (cc _)).trans q1
 have Q2 := ((World.cell?_alloc_lt w2 o3 ⟨gs, i * 3 + 2, none⟩ (by show gs < _; omega)).trans (cc _)).trans q2
 simp only [I] at P0 P1 P2 Q0 Q1 Q2
 have fo : ∀ o, (w2.alloc o3).frozen? ⟨gs, o, none⟩ = false := fun o => (World.frozen?_alloc_old w2 o3 ⟨gs, o, none⟩ (by show gs ≠ _; omega)).trans (ff o)
 have e0 := fo (i * 3)
 have e1 := fo (i * 3 + 1)
 have e2 := fo (i * 3 + 2)
 have g0 := fo (i * 3)
 have g1 := fo (i * 3 + 1)
 have g2 := fo (i * 3 + 2)
 have C5 := (World.cell?_alloc_lt w2 o3 ⟨a, 5, none⟩ (by show a < _; omega)).trans c5
 have S0 := (World.cell?_alloc_lt w2 o3 ⟨w1.heap.size, 0, none⟩ (by show w1.heap.size < _; omega)).trans s0
 have S1 := (World.cell?_alloc_lt w2 o3 ⟨w1.heap.size, 1, none⟩ (by show w1.heap.size < _; omega)).trans s1
 have S2 := (World.cell?_alloc_lt w2 o3 ⟨w1.heap.size, 2, none⟩ (by show w1.heap.size < _; omega)).trans s2
 have hn3 := heap_alloc_new w2 o3
 rw [ho3] at hn3
 have T0 := cell_in hn3 0
 have T1 := cell_in hn3 1
 have T2 := cell_in hn3 2
 rw [← ho3] at T0 T1 T2
 simp only [List.getElem?_toArray, List.getElem?_cons_succ, List.getElem?_cons_zero] at T0 T1 T2
 have HF3 := mkHid (F3.trans (Fr.alloc [] w2 o3) (by simp))
 have hzz : (w2.alloc o3).heap.size = w2.heap.size + 1 := by simp
 have HB1 : Hid ((w2.alloc o3).heap[w1.heap.size]? = w2.heap[w1.heap.size]? ∧ (w2.alloc o3).heap[w2.heap.size]? = some (.cells #[.int .i64 (x0 : Int), .int .i64 (x1 : Int), .int .i64 (x2 : Int)] 103 (0, 0))) := ⟨Below.heap_alloc _ _ _ (by omega), by rw [ho3]; exact heap_alloc_new _ _⟩
 have HW1 : Hid (w2.heap[w1.heap.size]? = some (.cells #[.int .i64 (x0 : Int), .int .i64 (x1 : Int), .int .i64 (x2 : Int)] 103 (0, 0))) := HW0.out
 clear hcs hfs p0 p1 p2 q0 q1 q2 cc ff fo hn3 F3 hr2 s0 s1 s2 c5
 go_wp2
 rw [← ho3]
 clear ho3
 generalize w2.alloc o3 = w3 at *
 generalize (H.seats.getD i (0, 0, 0)).1 = ow0 at *
 generalize (H.seats.getD i (0, 0, 0)).2.1 = ox1 at *
 generalize (H.seats.getD i (0, 0, 0)).2.2 = ox2 at *
 have m1 : (0 : Int) ≤ (i : Int) := by omega
 have m2 : (0 : Int) ≤ (i : Int) := by omega
 have d1 : gs ≠ w1.heap.size := by omega
 have d2 : gs ≠ w2.heap.size := by omega
 have d3 : w1.heap.size ≠ w2.heap.size := by omega
 have HZZ := mkHid hzz
 clear hzz
 have HE1 : Hid (∀ W, Eqw ((((((w3.setCell ⟨gs, i * 3, none⟩ (.int .i64 (x0 : Int))).setCell ⟨gs, i * 3 + 1, none⟩ (.int .i64 (x1 : Int))).setCell ⟨gs, i * 3 + 2, none⟩ (.int .i64 (x2 : Int))).setCell ⟨gs, i * 3, none⟩ (.int .i64 (x0 : Int))).setCell ⟨gs, i * 3 + 1, none⟩ (.int .i64 (x1 : Int))).setCell ⟨gs, i * 3 + 2, none⟩ (.int .i64 (x2 : Int))) W → Rep W a l { H with seats := (H.seats.set i (x0, x1, x2)).set i (x0, x1, x2) } ∧ Nx a l l w W ∧ W.heap[w1.heap.size]? = w2.heap[w1.heap.size]? ∧ W.heap[w2.heap.size]? = some (.cells #[.int .i64 (x0 : Int), .int .i64 (x1 : Int), .int .i64 (x2 : Int)] 103 (0, 0))) := by
  intro W he
  have K := exch_seats (HR.out.keep HF3.out (by simp)) hgs i i (by omega) (by omega) (x0, x1, x2) (x0, x1, x2) W he
  exact ⟨K.1, (Nx.frw (HF3.out.mono (by simp)) : Nx a l l w w3).trans K.2.1, (K.2.2 _ (Ne.symm d1)).trans HB1.out.1, (K.2.2 _ (Ne.symm d2)).trans HB1.out.2⟩
 go_cut [] (fun W => Hid (Rep W a l { H with seats := (H.seats.set i (x0, x1, x2)).set i (x0, x1, x2) } ∧ Nx a l l w W ∧ W.heap[w1.heap.size]? = w2.heap[w1.heap.size]? ∧ W.heap[w2.heap.size]? = some (.cells #[.int .i64 (x0 : Int), .int .i64 (x1 : Int), .int .i64 (x2 : Int)] 103 (0, 0))))
 case first =>
  go_region_held3 (fun w' => w'.cell? ⟨a, 5, none⟩ = some (.slice (some ⟨gs, 0, none⟩) H.seats.length l.cs) ∧ w'.cell? ⟨w1.heap.size, 0, none⟩ = some (.int .i64 (x0 : Int)) ∧ w'.cell? ⟨w1.heap.size, 1, none⟩ = some (.int .i64 (x1 : Int)) ∧ w'.cell? ⟨w1.heap.size, 2, none⟩ = some (.int .i64 (x2 : Int)) ∧ w'.cell? ⟨w2.heap.size, 0, none⟩ = some (.int .i64 (x0 : Int)) ∧ w'.cell? ⟨w2.heap.size, 1, none⟩ = some (.int .i64 (x1 : Int)) ∧ w'.cell? ⟨w2.heap.size, 2, none⟩ = some (.int .i64 (x2 : Int))) (go_keep) (fail)
  all_goals go_wp2
  all_goals
   go_meet
   case rel =>
    refine mkHid (HE1.out _ ?_)
    exact eqw_drew _
 case rest =>
  obtain ⟨w4, hw4⟩ : ∃ w4, w4 = wc := ⟨_, rfl⟩
  subst hw4
  obtain ⟨hr4, hx4, hb4, hb5⟩ := hcut.out
  clear hcut P0 P1 P2 Q0 Q1 Q2 e0 e1 e2 g0 g1 g2 C5 T0 T1 T2
  have hz4 : w4.heap[w1.heap.size]? = some (.cells #[.int .i64 (x0 : Int), .int .i64 (x1 : Int), .int .i64 (x2 : Int)] 103 (0, 0)) := by rw [hb4]; exact HW1.out
  have s0 := cell_in hz4 0
  have s2 := cell_in hz4 2
  have u2 := cell_in hb5 2
  simp only [List.getElem?_toArray, List.getElem?_cons_succ, List.getElem?_cons_zero] at s0 s2 u2
  obtain ⟨go, hgo, hco, hfo, hgoa, hgol⟩ := hr4.orderAt x2 (by dsimp only; omega)
  have c6 := hr4.c6
  have c10 := hr4.c10
  have f10 := hr4.frozen 10
  rw [hgo] at c6
  have o1 := hco x2 (by dsimp only; omega)
  have o2 := hco x2 (by dsimp only; omega)
  have p1 := hfo x2
  have p2 := hfo x2
  dsimp only at c6 c10 o1 o2
  generalize H.order.getD x2 0 = ov1 at *
  generalize H.order.getD x2 0 = ov2 at *
  have hgn1 : go ≠ w1.heap.size := by
   intro e
   obtain ⟨cur, hcur⟩ := own_blk hr4.order go (by rw [hgo]; simp [blk])
   rw [e, hz4] at hcur
   simp at hcur
  have hgn2 : go ≠ w2.heap.size := by
   intro e
   obtain ⟨cur, hcur⟩ := own_blk hr4.order go (by rw [hgo]; simp [blk])
   rw [e, hb5] at hcur
   simp at hcur
  have HE : Hid (∀ W, Eqw (((w4.setCell ⟨go, x2, none⟩ (.int .i64 (i : Int))).setCell ⟨go, x2, none⟩ (.int .i64 (i : Int))).setCell ⟨a, 10, none⟩ (.int .i64 ((H.age : Int) + 1))) W → Rep W a l HX ∧ Nx a l l w W) := by
   intro W he
   have K := exch_order (H' := HX) hr4 hgo x2 x2 i i HEX.out W he
   exact ⟨K.1, hx4.trans K.2⟩
  have a1 : (0 : Int) ≤ (x2 : Int) := by omega
  have a2 : (0 : Int) ≤ (x2 : Int) := by omega
  have a3 : (x2 : Int) < (H.order.length : Int) := by omega
  have a4 : (x2 : Int) < (H.order.length : Int) := by omega
  clear hr4 hx4 hb4 hb5 hz4 hco hfo hgo HEX HR HF3 HB1
  go_wp2
  go_region_held3 (fun w' => w'.cell? ⟨a, 6, none⟩ = some (.slice (some ⟨go, 0, none⟩) H.order.length l.co) ∧ w'.cell? ⟨w1.heap.size, 2, none⟩ = some (.int .i64 (x2 : Int)) ∧ w'.cell? ⟨w2.heap.size, 2, none⟩ = some (.int .i64 (x2 : Int))) (go_keep) (fail)
  all_goals go_wp2
  all_goals
   go_ret
   exact ⟨rfl, HE.out _ ⟨rfl, rfl, rfl, rfl⟩⟩
set_option maxRecDepth 20000 in
set_option maxHeartbeats 2000000 in
theorem Keep_no (zs : List Int) (j0 : Nat) (b off c : Nat) (a : Nat) (l : Lay) (H : HS) (w : World) (h : Rep w a l H) (hj0 : j0 < zs.length) (hpre : ∀ j, j < j0 → has H (zs.getD j 0) = true) (hbad : has H (zs.getD j0 0) = false)
  (ht1 : H.seats.length ≤ 65538) (hb : b < w.heap.size) (hbn : b ∉ foot a l) (hin : ∀ j, j < zs.length → w.cell? ⟨b, off + j, none⟩ = some (.int .i64 (zs.getD j 0))) (hkl : (zs.length : Int) ≤ 9223372036854775807) :
  Calls Tryd.prog 34 #[.pointer (some ⟨a, 0, none⟩), .slice (some ⟨b, off, none⟩) zs.length c] w fun e w' => e = .returned (.tuple #[.int .i64 0, .int .i64 0, .int .i64 20]) ∧ Rep w' a l H ∧ Nx a l l w w' := by
 have hal := h.lt a (by simp [foot])
 have c0 := h.c0
 have c5 := h.c5
 have hmk := make_bools H.seats.length (by omega)
 have HR := mkHid h
 have HIN := mkHid hin
 have HP := mkHid hpre
 have HBad := mkHid hbad
 clear h hin hpre hbad
 go_enter Tryd.func34, Tryd.ntmps34
 go_wp2_with (go_at_call 44; refine (made_any _ _ c0).mono ?_; rintro e w1 ⟨rfl, hw1⟩; rw [hw1]; clear hw1 w1)
 go_loopw [27] (fun q wr => ∃ k : Nat, k ≤ j0 ∧ q = .int .i64 k ∧ Hid (Rep wr a l H ∧ Nx a l l w wr ∧ ∃ C, C.size = H.seats.length ∧ wr.heap[w.heap.size]? = some (.cells C 4 (0, 0)))) (fun q _ => zs.length - (intOf q).toNat)
 case atStart => exact ⟨0, Nat.zero_le _, rfl, HR.out.alloc _, Nx.frw (Fr.alloc _ _ _), _, by simp [keptL_len], heap_alloc_new _ _⟩
 case round =>
  obtain ⟨k, hkn, rfl, hq⟩ := hrel
  obtain ⟨hr, hx, C, hCs, hkb⟩ := hq.out
  clear hq
  have hin := (hx.1.cell (p := ⟨b, off + k, none⟩) hb hbn).trans (HIN.out k (by omega))
  have k1 : (0 : Int) ≤ (k : Int) := by omega
  have k2 : (k : Int) < (zs.length : Int) := by omega
  by_cases hlt : k < j0
  ·have hp := HP.out k hlt
   obtain ⟨j, hj⟩ : ∃ j : Nat, zs.getD k 0 = (j : Int) := by
    have h1 := of_decide_eq_true hp
    exact ⟨(zs.getD k 0).toNat, by omega⟩
   rw [hj] at hin hp
   obtain ⟨j1, j2, j3⟩ := has_yes hp
   have HSO := mkHid (seatOf_yes j a l H wr hr j1 j2 j3)
   obtain ⟨⟨p, L, t⟩, hs⟩ : ∃ s, s = H.seats.getD j (0, 0, 0) := ⟨_, rfl⟩
   rw [← hs] at HSO
   dsimp only [sv, I] at HSO
   have k3 : (0 : Int) ≤ (j : Int) := by omega
   have k4 : (j : Int) < (H.seats.length : Int) := by omega
   have hkl2 := lt_of_heap hkb
   have HRr := mkHid hr
   have HXr := mkHid hx
   have HKB := mkHid hkb
   have HCs := mkHid hCs
   clear hr hx hkb hs j3 hj hp hCs
   go_wp2_with fail
   refine Calls.mono HSO.out ?_
   rintro e w1 ⟨rfl, hf1⟩
   have z1 := hf1.size
   have hkb2 := (Below.heap_alloc w1 (.cells #[.int .i64 (p : Int), .int .i64 (L : Int), .int .i64 (t : Int)] 103) w.heap.size (by omega)).trans ((hf1.block _ hkl2 (by simp)).trans HKB.out)
   have cl := cell_in hkb2 j
   have fl := frozen_in hkb2 j
   rw [Array.getElem?_eq_getElem (by rw [HCs.out]; omega)] at cl
   have HE : Hid (∀ W, Eqw ((w1.alloc (.cells #[.int .i64 (p : Int), .int .i64 (L : Int), .int .i64 (t : Int)] 103)).setCell ⟨w.heap.size, j, none⟩ (.bool true)) W → Rep W a l H ∧ Nx a l l w W ∧ ∃ C, C.size = H.seats.length ∧ W.heap[w.heap.size]? = some (.cells C 4 (0, 0))) := by
    intro W he
    have F1 : Fr [] wr (w1.alloc (.cells #[.int .i64 (p : Int), .int .i64 (L : Int), .int .i64 (t : Int)] 103)) := hf1.trans (Fr.alloc [] _ _) (by simp)
    have hr1 := HRr.out.keep F1 (by simp)
    have hnf : w.heap.size ∉ foot a l := fun hm => by have := HR.out.lt _ hm; omega
    refine ⟨(hr1.congr fun g hg => set_else (fun e => hnf (by rw [← e]; exact hg))).eqw he, Nx.eqw ⟨?_, fun b hb => .inl hb⟩ he, C.setIfInBounds j (.bool true), by simpa using HCs.out, ?_⟩
    ·refine (HXr.out.1.trans (F1.mono (S' := foot a l) (by simp)) (fun b hb => .inl hb)).trans (Fr.setCell (S := [w.heap.size]) _ _ _ (by simp)) (fun b hb => by simp at hb; subst hb; right; exact Nat.le_refl _)
    ·rw [he.2.2.2, set_in hkb2 j (.bool true)]
   have HF1 := mkHid hf1
   generalize C[j]'(by rw [HCs.out]; omega) = old at cl
   clear hf1 hkb2 HSO
   go_wp2
   go_roundw
   case rel => exact ⟨k + 1, by omega, by go_num, HE.out _ ⟨rfl, rfl, rfl, rfl⟩⟩
   case measure => simp [intOf]; omega
  ·have hke : k = j0 := by omega
   subst hke
   have HSO := mkHid (seatOf_none _ a l H wr hr HBad.out)
   have HRr := mkHid hr
   have HXr := mkHid hx
   generalize zs.getD k 0 = zv at *
   clear hr hx hkb hCs
   go_wp2_with fail
   refine Calls.mono HSO.out ?_
   rintro e w1 ⟨rfl, hf1⟩
   have F2 : Fr [] wr (w1.alloc (.cells #[.int .i64 0, .int .i64 0, .int .i64 0] 103)) := hf1.trans (Fr.alloc [] _ _) (by simp)
   have HF := mkHid F2
   clear hf1 F2 HSO
   go_wp2
   go_ret3
   exact ⟨rfl, HRr.out.keep HF.out (by simp), HXr.out.trans (Nx.frw (HF.out.mono (by simp)))⟩
structure Th where
 there : Bool
 cls : Int
 fmt : Nat
 place : Nat
 slots : List Int
 p : Option Addr
 c : Nat
structure MS where
 words : Nat
 oops : Nat
 mark : Nat
 things : List Th
 pt : Option Addr
 ct : Nat
def noTh : Th := ⟨false, 0, 0, 0, [], none, 0⟩
set_option maxHeartbeats 400000 in
theorem refLen_any (n f : Nat) (w : World) (hn : (n : Int) ≤ 1048576) :
  Calls Tryd.prog 59 #[.int .i64 n, .int .i64 f] w fun e w' => e = .returned (.int .i64 (lenN n f : Nat)) ∧ w' = w := by
 by_cases hf : f = 1
 ·subst hf
  go_enter Tryd.func59, Tryd.ntmps59
  go_wp2
  go_ret
  refine ⟨ret_int ?_, rfl⟩
  simp only [lenN, if_true]
  push_cast
  first | rfl | omega | (simp; omega)
 ·have hf' : ((f : Int) == 1) = false := by simpa using (by omega : ¬ (f : Int) = 1)
  go_enter Tryd.func59, Tryd.ntmps59
  go_wp2
  go_ret
  refine ⟨ret_int ?_, rfl⟩
  simp only [lenN, if_neg hf]
  push_cast
  first | rfl | omega | (simp; omega)
def thereTo (S : List Th) (k : Nat) : Nat := ((S.take k).filter (·.there)).length
theorem thereTo_succ (S : List Th) (k : Nat) (hk : k < S.length) : thereTo S (k + 1) = thereTo S k + (if (S.getD k noTh).there then 1 else 0) := by
 unfold thereTo
 rw [List.take_add_one, List.filter_append, List.length_append, List.getD_eq_getElem?_getD, List.getElem?_eq_getElem hk]
 simp only [Option.toList_some, Option.getD_some]
 by_cases h : S[k].there = true
 ·simp [h]
 ·simp [h]
theorem thereTo_le (S : List Th) (k : Nat) : thereTo S k ≤ k := Nat.le_trans (List.length_filter_le _ _) (by simp; omega)
def endTo (S : List Th) : Nat → Nat
 | 0 => 0
 | k + 1 => if (S.getD k noTh).there ∧ endTo S k < (S.getD k noTh).place + lenN (S.getD k noTh).slots.length (S.getD k noTh).fmt then (S.getD k noTh).place + lenN (S.getD k noTh).slots.length (S.getD k noTh).fmt else endTo S k
theorem endTo_succ (S : List Th) (k : Nat) : endTo S (k + 1) = if (S.getD k noTh).there ∧ endTo S k < (S.getD k noTh).place + lenN (S.getD k noTh).slots.length (S.getD k noTh).fmt then (S.getD k noTh).place + lenN (S.getD k noTh).slots.length (S.getD k noTh).fmt else endTo S k := rfl
theorem lenN_le (n f : Nat) : lenN n f ≤ 2 + n := by unfold lenN; split <;> omega
structure MOk (M : MS) : Prop where
 len : (M.things.length : Int) ≤ 65538
 slots : ∀ k, k < M.things.length → ((M.things.getD k noTh).slots.length : Int) ≤ 8192
 place : ∀ k, k < M.things.length → ((M.things.getD k noTh).place : Int) ≤ 1048576
def lowTo (S : List Th) : Nat := (S.takeWhile (·.there)).length + 1
theorem lowTo_at (S : List Th) (k : Nat) (hk : k < S.length) (h1 : ∀ j, j < k → (S.getD j noTh).there = true) (h2 : (S.getD k noTh).there = false) : lowTo S = k + 1 := by
 unfold lowTo
 congr 1
 induction S generalizing k with
 | nil => simp at hk
 | cons s S ih =>
  cases k with
  | zero => simp only [List.getD_cons_zero] at h2; rw [List.takeWhile_cons_of_neg (by simpa using h2)]; rfl
  | succ k =>
   have h0 := h1 0 (by omega)
   simp only [List.getD_cons_zero] at h0
   rw [List.takeWhile_cons_of_pos h0, List.length_cons]
   congr 1
   exact ih k (by simpa using hk) (fun j hj => by simpa using h1 (j + 1) (by omega)) (by simpa using h2)
theorem lowTo_full (S : List Th) (h1 : ∀ j, j < S.length → (S.getD j noTh).there = true) : lowTo S = S.length + 1 := by
 unfold lowTo
 congr 1
 induction S with
 | nil => rfl
 | cons s S ih =>
  have h0 := h1 0 (by simp)
  simp only [List.getD_cons_zero] at h0
  rw [List.takeWhile_cons_of_pos h0, List.length_cons, List.length_cons]
  congr 1
  exact ih fun j hj => by simpa using h1 (j + 1) (by simpa using hj)
def mhas (M : MS) (oop : Int) : Bool := decide (1 ≤ oop ∧ oop ≤ M.things.length ∧ (M.things.getD (oop.toNat - 1) noTh).there = true)
theorem mhas_yes {M : MS} {oop : Int} (h : mhas M oop = true) : ∃ k : Nat, oop = (k : Int) + 1 ∧ k < M.things.length ∧ (M.things.getD k noTh).there = true := by
 have h1 := of_decide_eq_true h
 exact ⟨oop.toNat - 1, by omega, by omega, h1.2.2⟩
theorem mhas_of {M : MS} (k : Nat) (hk : k < M.things.length) (h : (M.things.getD k noTh).there = true) : mhas M ((k : Int) + 1) = true :=
 decide_eq_true ⟨by omega, by omega, by rw [show ((k : Int) + 1).toNat - 1 = k from by omega]; exact h⟩
end Go.Proofs.YtklfnjlenbgmoaaDoor
