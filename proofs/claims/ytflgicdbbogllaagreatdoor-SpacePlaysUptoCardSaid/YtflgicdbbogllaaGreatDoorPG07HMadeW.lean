import Derived.Test.YtflgicdbbogllaaGreatDoorPG06HErr
import Derived.Deep.RegionLaw
set_option maxHeartbeats 4000000
set_option maxRecDepth 20000
set_option linter.unusedSimpArgs false
set_option linter.unusedVariables false
namespace Go.Proofs.YtflgicdbbogllaaGreatDoor
open Go.RowKit Tryz
open Value (int)
open IntKind (i64)
attribute [local go_sem ↓] wp_at_zero wp_at_succ
structure kEw (H : HS) (t e : Nat) : Prop where
 t1 : t ≤ H.fC.length
 t2 : ∀ j, t ≤ j → j < H.fC.length → H.fC.getD j 0 = 0
 t3 : 0 < t → H.fC.getD (t - 1) 0 ≠ 0 ∧ H.fC.getD (t - 1) 0 < H.fD.length ∧ e = (H.fD.getD (H.fC.getD (t - 1) 0) (0, 0, 0)).1 + (H.fD.getD (H.fC.getD (t - 1) 0) (0, 0, 0)).2.1
 t4 : t = 0 → e = 0
 e1 : e ≤ H.mem.length
 e2 : H.mem = H.mem.take e ++ List.replicate (H.mem.length - e) 0
 m1 : H.mem.length ≤ 1048576
 r1 : H.fC.length ≤ 1048576
 s1 : H.fD.length ≤ 65538
def kCW (H : HS) (t e : Nat) : HS := { H with mem := H.mem.take e, fC := H.fC.take t }
theorem kOs {H : HS} {t e k : Nat} (h : kEw H t e) (hk : k ≤ H.fC.length) (hz : ∀ j, k ≤ j → j < H.fC.length → H.fC.getD j 0 = 0) (hs : 0 < k → H.fC.getD (k - 1) 0 ≠ 0) : k = t := by
 rcases jBf k t with h1 | h1 | h1
 ·have h2 := (h.t3 (by omega)).1;exact absurd (hz (t - 1) (by omega) (by have := h.t1; omega)) h2
 ·exact h1
 ·exact absurd (h.t2 (k - 1) (by omega) (by omega)) (hs (by omega))
theorem kEC (t e : Nat) (a : Nat) (l : Lay) (H : HS) (w : World) (h : Rep w a l H) (hd : kEw H t e) :
  Calls prog 113 #[.pointer (some ⟨a, 0, none⟩)] w fun x w' => x = .returned (.tuple #[]) ∧ Rep w' a l (kCW H t e) ∧ Nx a l l w w' := by
 have hal := h.lt a (by simp [foot]);have c6 := h.c6;have hr1 := hd.r1;have HD := kAA hd;have HR := kAA h;clear hd h;go_enter func113, ntmps113
 go_wp2
 go_loop [2] (fun q => ∃ k : Nat, k ≤ H.fC.length ∧ q = int i64 k ∧ Hid (∀ j, k ≤ j → j < H.fC.length → H.fC.getD j 0 = 0)) (fun q => (intOf q).toNat)
 case atStart => exact ⟨H.fC.length, jAD _, rfl, fun j h1 h2 => by omega⟩
 case round =>
  obtain ⟨k, hkn, rfl, hz⟩ := hrel
  by_cases hcont : 0 < k ∧ H.fC.getD (k - 1) 0 = 0
  ·obtain ⟨hk0, hk1⟩ := hcont;obtain ⟨go, hgo, hco, hfo, hgoa, hgol⟩ := HR.out.orderAt (k - 1) (by omega);have o1 := hco (k - 1) (by omega);rw [hk1] at o1;rw [hgo] at c6;have e1 : ((k : Int) - 1).toNat = k - 1 := by omega
   have e2 : (k : Int) - 1 = ((k - 1 : Nat) : Int) := by omega
   have k1 : (0 : Int) < (k : Int) := by omega
   have k2 : 0 ≤ (k : Int) - 1 := by omega
   have k3 : (k : Int) - 1 < (H.fC.length : Int) := by omega
   have HN : Hid (∀ j, k - 1 ≤ j → j < H.fC.length → H.fC.getD j 0 = 0) := by
    intro j h1 h2
    by_cases hj : j = k - 1
    ·rw [hj]; exact hk1
    ·exact hz.out j (by omega) h2
   have HE2 := kAA e2;clear hco hfo hk1 e2
   go_wp2
   go_round
   case rel => exact ⟨k - 1, by omega, by rw [← HE2.out], HN⟩
   case measure => simp [intOf]; omega
  ·have hkt : k = t := kOs HD.out hkn hz.out (fun hp hq => hcont ⟨hp, hq⟩);subst hkt;have he1 := HD.out.e1;have hm1 := HD.out.m1;have ht1 := HD.out.t1;have HRD : Hid (∀ W, Rep W a l H → ∀ W', Eqw ((W.setCell ⟨a, 6, none⟩ (.slice l.po k l.co)).setCell ⟨a, 4, none⟩ (.slice l.pm e l.cm)) W' → Rep W' a l (kCW H k e) ∧ Nx a l l W W') := fun W hW W' he => hW.cut HD.out.t1 HD.out.e1 HD.out.e2 W' he
   by_cases hk0 : 0 < k
   ·obtain ⟨n1, n2, n3⟩ := HD.out.t3 hk0;obtain ⟨go, hgo, hco, hfo, hgoa, hgol⟩ := HR.out.orderAt (k - 1) (by omega);have o1 := hco (k - 1) (by omega);have c6' := c6;rw [hgo] at c6';have hb : ((H.fC.getD (k - 1) 0 : Int) == 0) = false := by simpa using n1
    have e1 : ((k : Int) - 1).toNat = k - 1 := by omega
    have k1 : (0 : Int) < (k : Int) := by omega
    have k2 : 0 ≤ (k : Int) - 1 := by omega
    have k3 : (k : Int) - 1 < (H.fC.length : Int) := by omega
    obtain ⟨gs, hgs, hcs, hfs, hgsa, hgsl⟩ := HR.out.seatAt _ n2;obtain ⟨q0, q1, q2⟩ := hcs _ n2;have c5 := HR.out.c5;rw [hgs] at c5;simp only [I] at q0 q1 q2;clear hco hfo hcs hfs n1 hcont;generalize H.fC.getD (k - 1) 0 = o at *;generalize (H.fD.getD o (0, 0, 0)).1 = y0 at *;generalize (H.fD.getD o (0, 0, 0)).2.1 = y1 at *;generalize (H.fD.getD o (0, 0, 0)).2.2 = y2 at *;have m0 := ng o;have m1 : (o : Int) < H.fD.length := by omega
    have N3 := kAA n3;have hy : (y0 : Int) + (y1 : Int) ≤ 1048576 := by omega
    clear n3 c6;have c6 := c6';clear c6'
    go_upto_if 26 with (fail)
    go_cut [3] (fun q W => q = int i64 e ∧ Hid (Rep W a l H ∧ Nx a l l w W))
    case first =>
     go_wp2
     go_region
     all_goals go_wp2
     all_goals
      go_meet
      case rel => exact ⟨by rw [N3.out]; go_num, ((HR.out.alloc _).eqw (kAS _)), (Nx.frw (Fr.alloc _ _ _)).eqw (kAS _)⟩
    case rest =>
     obtain ⟨w2, hw2⟩ := jex (wc);subst hw2;obtain ⟨rfl, hcut2⟩ := hcut;clear q0 q1 q2 c5 c6 o1 hgo hgs;have hr := hcut2.out.1;have hx := hcut2.out.2
     have HE : Hid (∀ W', Eqw ((w2.setCell ⟨a, 6, none⟩ (.slice l.po k l.co)).setCell ⟨a, 4, none⟩ (.slice l.pm e l.cm)) W' → Rep W' a l (kCW H k e) ∧ Nx a l l w W') := by
      intro W' he;have K := HRD.out _ hr W' he;exact ⟨K.1, hx.trans K.2⟩
     have d4 := hr.c4;have d6 := hr.c6;have f4 := hr.frozen 4;have f6 := hr.frozen 6;have hcm := hr.ml
     have hco : k ≤ l.co ∧ (l.po = none → l.co = 0) ∧ (∀ ad, l.po = some ad → ∃ g, ad = ⟨g, 0, none⟩) := by
      have := hr.fC;rcases this.2 with ⟨q, q0⟩ | ⟨g, cap, cur, q1, q2, q3, q4, q5, q6, q7⟩
      ·injection q with q1 q2 q3
       rw [q1, q3];exact ⟨by omega, (fun _ => rfl), (fun ad h => by cases h)⟩
      ·injection q1 with q1 q1b q1c
       rw [q1, q1c];exact ⟨by omega, (fun h => by cases h), (fun ad h => ⟨g, by injection h with h; exact h.symm⟩)⟩
     have hpm : (l.pm = none → l.cm = 0) ∧ (∀ ad, l.pm = some ad → ∃ g, ad = ⟨g, 0, none⟩) := by
      have := hr.mem;rcases this.2 with ⟨q, q0⟩ | ⟨g, cap, cur, q1, q2, q3, q4, q5, q6, q7⟩
      ·injection q with q1 q2 q3
       rw [q1, q3];exact ⟨(fun _ => rfl), (fun ad h => by cases h)⟩
      ·injection q1 with q1 q1b q1c
       rw [q1];exact ⟨(fun h => by cases h), (fun ad h => ⟨g, by injection h with h; exact h.symm⟩)⟩
     obtain ⟨hco1, hco2, hco3⟩ := hco;obtain ⟨hpm1, hpm2⟩ := hpm;have u1 := ng k;have u2 : (k : Int) ≤ l.co := by omega
     have u3 := ng e;have u4 : (e : Int) ≤ l.cm := by omega
     clear hr hx HRD HR HD hz;obtain ⟨pm, cm, ps, cs, po, co, pb, cb⟩ := l;dsimp only at *;rcases po with _ | ado
     ·have hc0 : co = 0 := hco2 rfl;omega
     ·obtain ⟨go2, rfl⟩ := hco3 ado rfl;rcases pm with _ | adm
      ·have e3 : cm = 0 := hpm1 rfl;have e4 : e = 0 := by omega
       subst e3 e4;clear hco2 hco3 hpm1 hpm2
       go_wp2
       go_region
       all_goals go_wp2
       all_goals
        go_end0
        refine ⟨rfl, HE.out _ ?_⟩;exact kAS _
      ·obtain ⟨gm, rfl⟩ := hpm2 adm rfl;clear hco2 hco3 hpm1 hpm2
       go_wp2
       go_region
       all_goals go_wp2
       all_goals
        go_end0
        refine ⟨rfl, HE.out _ ?_⟩;exact kAS _
   ·have hk1 : k = 0 := by omega
    subst hk1;have he0 : e = 0 := HD.out.t4 rfl;subst he0;clear c6;have hr := HR.out;have hx := Nx.refl a l w
    have HE : Hid (∀ W', Eqw ((w.setCell ⟨a, 6, none⟩ (.slice l.po 0 l.co)).setCell ⟨a, 4, none⟩ (.slice l.pm 0 l.cm)) W' → Rep W' a l (kCW H 0 0) ∧ Nx a l l w W') := by
     intro W' he;have K := HRD.out _ hr W' he;exact ⟨K.1, hx.trans K.2⟩
    have d4 := hr.c4;have d6 := hr.c6;have f4 := hr.frozen 4;have f6 := hr.frozen 6;have hcm := hr.ml
    have hco : 0 ≤ l.co ∧ (l.po = none → l.co = 0) ∧ (∀ ad, l.po = some ad → ∃ g, ad = ⟨g, 0, none⟩) := by
     have := hr.fC;rcases this.2 with ⟨q, q0⟩ | ⟨g, cap, cur, q1, q2, q3, q4, q5, q6, q7⟩
     ·injection q with q1 q2 q3
      rw [q1, q3];exact ⟨by omega, (fun _ => rfl), (fun ad h => by cases h)⟩
     ·injection q1 with q1 q1b q1c
      rw [q1, q1c];exact ⟨by omega, (fun h => by cases h), (fun ad h => ⟨g, by injection h with h; exact h.symm⟩)⟩
    have hpm : (l.pm = none → l.cm = 0) ∧ (∀ ad, l.pm = some ad → ∃ g, ad = ⟨g, 0, none⟩) := by
     have := hr.mem;rcases this.2 with ⟨q, q0⟩ | ⟨g, cap, cur, q1, q2, q3, q4, q5, q6, q7⟩
     ·injection q with q1 q2 q3
      rw [q1, q3];exact ⟨(fun _ => rfl), (fun ad h => by cases h)⟩
     ·injection q1 with q1 q1b q1c
      rw [q1];exact ⟨(fun h => by cases h), (fun ad h => ⟨g, by injection h with h; exact h.symm⟩)⟩
    obtain ⟨hco1, hco2, hco3⟩ := hco;obtain ⟨hpm1, hpm2⟩ := hpm;have u1 := ng 0;have u2 := ng l.co;have u3 : (0 : Int) ≤ ((0 : Nat) : Int) := by omega
    have u4 : ((0 : Nat) : Int) ≤ (l.cm : Int) := by omega
    clear hr hx HRD HR HD hz;obtain ⟨pm, cm, ps, cs, po, co, pb, cb⟩ := l;dsimp only at *;rcases po with _ | ado
    ·have hc0 : co = 0 := hco2 rfl;subst hc0;rcases pm with _ | adm
     ·have e3 : cm = 0 := hpm1 rfl;subst e3;clear hco2 hco3 hpm1 hpm2
      go_wp2
      go_region
      all_goals go_wp2
      all_goals
       go_end0
       refine ⟨rfl, HE.out _ ?_⟩;exact kAS _
     ·obtain ⟨gm, rfl⟩ := hpm2 adm rfl;clear hco2 hco3 hpm1 hpm2
      go_wp2
      go_region
      all_goals go_wp2
      all_goals
       go_end0
       refine ⟨rfl, HE.out _ ?_⟩;exact kAS _
    ·obtain ⟨go2, rfl⟩ := hco3 ado rfl;rcases pm with _ | adm
     ·have e3 : cm = 0 := hpm1 rfl;subst e3;clear hco2 hco3 hpm1 hpm2
      go_wp2
      go_region
      all_goals go_wp2
      all_goals
       go_end0
       refine ⟨rfl, HE.out _ ?_⟩;exact kAS _
     ·obtain ⟨gm, rfl⟩ := hpm2 adm rfl;clear hco2 hco3 hpm1 hpm2
      go_wp2
      go_region
      all_goals go_wp2
      all_goals
       go_end0
       refine ⟨rfl, HE.out _ ?_⟩;exact kAS _
theorem kPb (oop t e : Nat) (a : Nat) (l : Lay) (H : HS) (w : World) (h : Rep w a l H) (hh : has H oop = true) (hv : kKh H oop) (hd : kEw (vacH H oop) t e) (hage : (H.age : Int) ≤ 1000000000) :
  Calls prog 70 #[.pointer (some ⟨a, 0, none⟩), int i64 oop] w fun x w' => x = .returned (int i64 0) ∧ Rep w' a l { kCW (vacH H oop) t e with age := H.age + 1 } ∧ Nx a l l w w' := by
 obtain ⟨h1, h2, h3⟩ := kAk hh;have HSO := kAA (kAb oop a l H w h h1 h2 h3);obtain ⟨⟨p, L, t'⟩, hs⟩ : ∃ s, s = H.fD.getD oop (0, 0, 0) := ⟨_, rfl⟩
 rw [← hs] at HSO;have HV := kAA (fun W (hW : Rep W a l H) => kEn oop a l H W hW hv);have HDR := kAA (fun W (hW : Rep W a l (vacH H oop)) => kEC t e a l (vacH H oop) W hW hd);have HAG : Hid ((kCW (vacH H oop) t e).age = H.age) := rfl;have HR := kAA h;clear h hs h1 h2 h3 hh hv hd;dsimp only [sv, I] at HSO;generalize kCW (vacH H oop) t e = HX at *;generalize vacH H oop = HV0 at *;go_enter func70, ntmps70
 go_wp2_with fail
 refine HSO.out.mono ?_;rintro x w1 ⟨rfl, hf1⟩;have F2 : Fr [] w (w1.alloc (.cells #[int i64 p, int i64 L, int i64 t'] 148)) := hf1.trans (Fr.alloc [] _ _) (by simp);have HF2 := kAA F2;clear hf1 F2 HSO
 go_wp2_with fail
 refine Calls.mono (HV.out _ (HR.out.keep HF2.out (by simp))) ?_;rintro x w2 ⟨rfl, hr2, hx2⟩;have HR2 := kAA hr2;have HX2 := kAA ((Nx.frw (HF2.out.mono (by simp)) : Nx a l l w _).trans hx2);clear hr2 hx2 HV HF2
 go_wp2_with fail
 refine Calls.mono (HDR.out _ HR2.out) ?_;rintro x w3 ⟨rfl, hr3, hx3⟩;have d10 := hr3.c10;have f10 := hr3.frozen 10;rw [HAG.out] at d10
 have HF : Hid (∀ W, Eqw (w3.setCell ⟨a, 10, none⟩ (int i64 ((H.age : Int) + 1))) W → Rep W a l { HX with age := H.age + 1 } ∧ Nx a l l w W) := by
  intro W he;have K := hr3.set (H' := { HX with age := H.age + 1 }) 10 (int i64 ((H.age : Int) + 1)) rfl rfl rfl rfl rfl;exact ⟨K.eqw he, ((HX2.out.trans hx3).trans (Nx.fr (Fr.setCell (S := [a]) _ _ _ (by simp)))).eqw he⟩
 clear hr3 hx3 HDR HR2
 go_wp2
 go_ret
 exact ⟨rfl, HF.out _ ⟨rfl, rfl, rfl, rfl⟩⟩
def kAq (H : HS) (k : Nat) : List Nat := (List.range k).filter fun o => 0 < (H.fD.getD o (0, 0, 0)).2.1
theorem kCH (H : HS) (k : Nat) : kAq H (k + 1) = kAq H k ++ (if 0 < (H.fD.getD k (0, 0, 0)).2.1 then [k] else []) := by
 unfold kAq;rw [List.range_succ, jAs]
 congr 1
 by_cases h : 0 < (H.fD.getD k (0, 0, 0)).2.1
 ·rw [jp h, List.filter_cons_of_pos (by simpa using h)]; rfl
 ·rw [jn h, List.filter_cons_of_neg (by simpa using h)]; rfl
theorem kDl (H : HS) (k : Nat) : (kAq H k).length ≤ k := by
 have := jBH (fun o => decide (0 < (H.fD.getD o (0, 0, 0)).2.1)) (List.range k);unfold kAq
 rwa [List.length_range] at this
theorem All_ok (a : Nat) (l : Lay) (H : HS) (w : World) (h : Rep w a l H) (hs : (H.fD.length : Int) ≤ 65538) :
  Calls prog 120 #[.pointer (some ⟨a, 0, none⟩)] w fun e w' => ∃ v, e = .returned v ∧ w'.ownsRow w.heap.size 3 1 v (kAq H H.fD.length).length ((kAq H H.fD.length).map I) ∧ Fr [] w w' := by
 have c0 := h.c0;have c5 := h.c5;have hal := h.lt a (by simp [foot]);obtain ⟨j0, ji, jz0, jz1, jz2⟩ := info_parts kGs;have HR := kAA h;clear h;go_enter func120, ntmps120
 go_wp2_with (go_at_call 88; refine (kAh _ _ c0).mono ?_; rintro e w1 ⟨rfl, hw1⟩; rw [hw1]; clear hw1 w1)
 go_loopw [3, 14] (fun v q wr => ∃ k : Nat, k ≤ H.fD.length ∧ q = int i64 k ∧ wr.ownsRow w.heap.size 3 1 v (kAq H k).length ((kAq H k).map I) ∧ Hid (Fr [] w wr)) (fun _ q _ => H.fD.length - (intOf q).toNat)
 case atStart => exact ⟨0, jAH _, rfl, jAS _ _ _ _, Fr.refl _ _⟩
 case round =>
  obtain ⟨k, hkn, rfl, hown, hfr⟩ := hrel
  by_cases hlt : k < H.fD.length
  ·have hr := HR.out.keep hfr.out (by simp);obtain ⟨gs, hgs, hcs, hfs, hgsa, hgsl⟩ := hr.seatAt k hlt;obtain ⟨q0, q1, q2⟩ := hcs k hlt;simp only [I] at q0 q1 q2;have hsu := kCH H k;have hle := kDl H k;rw [hgs];have k1 := ng k;have k2 : (k : Int) < H.fD.length := by omega
   have hz := hfr.out.size;clear hr hcs hfs c5 c0 hgs;generalize (H.fD.getD k (0, 0, 0)).1 = y0 at *;generalize (H.fD.getD k (0, 0, 0)).2.1 = y1 at *;generalize (H.fD.getD k (0, 0, 0)).2.2 = y2 at *;have HSU := kAA hsu;clear hsu;generalize hX : kAq H k = X at *;clear hX
   by_cases hy : 0 < y1
   ·have hy' : (0 : Int) < (y1 : Int) := by omega
    have HS2 := HSU.out;rw [jp hy] at HS2;have HS3 := kAA HS2;clear HS2 HSU hy;have hown2 := (hown.alloc (.cells #[int i64 y0, int i64 y1, int i64 y2] 148)).alloc (.cells #[int i64 k] 3);have HFA : Hid (Fr [] w ((wr.alloc (.cells #[int i64 y0, int i64 y1, int i64 y2] 148)).alloc (.cells #[int i64 k] 3))) := (hfr.out.trans (Fr.alloc [] _ _) (by simp)).trans (Fr.alloc [] _ _) (by simp);clear hown
    go_wp2_with (first | (at_builtin; refine wpList_append_own _ rfl (.tmp 22) (.tmp 24) 88 rfl w.heap.size 3 j0 (int i64 0) 1 8 underlying88 ji jz0 jz1 jz2 rfl (by decide) _ _ _ rfl hown2 ⟨wr.heap.size + 1, 0, none⟩ 1 1 [int i64 k] rfl rfl ?c1 ?c2 ?c3 ?c4 ?c5 ?_) | go_in)
    case c1 =>
     have := World.news_of_block (heap_alloc_new (wr.alloc (.cells #[int i64 y0, int i64 y1, int i64 y2] 148)) (.cells #[int i64 k] 3))
     simpa using this
    case c2 => intro u hu; simp at hu; subst hu; rfl
    case c3 => unfold maxLen; omega
    case c4 => omega
    case c5 => simp; omega
    intro v' w1 hown' hgrow _
    have HG : Hid (Fr [] w w1) := by
     refine ⟨hgrow.os.trans HFA.out.os, hgrow.tape.trans HFA.out.tape, hgrow.output.trans HFA.out.output, jAU HFA.out.size hgrow.size, fun i hi hn => ?_⟩;rw [hgrow.block i (jAb hi HFA.out.size) (fun e => ?_)]
     ·exact HFA.out.block i hi hn
     ·have := (hown2.lt i e.symm).1;omega
    have HO := kAA hown';clear hown' hgrow hown2 HFA
    go_wp2
    go_roundw
    case rel => exact ⟨k + 1, by omega, by go_num, by rw [HS3.out]; simpa [I] using HO.out, HG⟩
    case measure => simp [intOf]; omega
   ·have hy' : (y1 : Int) ≤ 0 := by omega
    have HS2 := HSU.out;rw [jn hy, jAz] at HS2;have HS3 := kAA HS2;have HO := kAA (hown.alloc (.cells #[int i64 y0, int i64 y1, int i64 y2] 148));have HFA : Hid (Fr [] w (wr.alloc (.cells #[int i64 y0, int i64 y1, int i64 y2] 148))) := hfr.out.trans (Fr.alloc [] _ _) (by simp);clear HS2 HSU hy hown
    go_wp2
    go_roundw
    case rel => exact ⟨k + 1, by omega, by go_num, by rw [HS3.out]; exact HO.out, HFA⟩
    case measure => simp [intOf]; omega
  ·have hke : k = H.fD.length := by omega
   subst hke;have HO := kAA hown;clear hown c5 c0
   go_wp2
   go_ret
   exact ⟨_, rfl, HO.out, hfr.out⟩
theorem kFW (i : Nat) (a : Nat) (l : Lay) (H : HS) (w : World) (h : Rep w a l H) (h1 : (1 : Int) ≤ i) (h2 : (i : Int) < H.fD.length) (h3 : (H.fD.getD i (0, 0, 0)).2.1 ≠ 0) (t1 : (H.fD.getD i (0, 0, 0)).2.2 < H.fC.length) (hsl : (H.fD.length : Int) ≤ 65538) (hol : (H.fC.length : Int) ≤ 1048576) (hage : (H.age : Int) ≤ 1000000000) :
  Calls prog 72 #[.pointer (some ⟨a, 0, none⟩), int i64 i, int i64 i] w fun e w' => e = .returned (int i64 0) ∧ Rep w' a l (kDp H i i) ∧ Nx a l l w w' := by
 have hal := h.lt a (by simp [foot]);have HS1 := kAA (fun W (hW : Rep W a l H) => kAb i a l H W hW h1 h2 h3);have HS2 := kAA (fun W (hW : Rep W a l H) => kAb i a l H W hW h1 h2 h3);have HR := kAA h;have HEX : Hid (kDp H i i = { H with fD := (H.fD.set i (H.fD.getD i (0, 0, 0))).set i (H.fD.getD i (0, 0, 0)), fC := (H.fC.set (H.fD.getD i (0, 0, 0)).2.2 i).set (H.fD.getD i (0, 0, 0)).2.2 i, age := H.age + 1 }) := rfl;generalize kDp H i i = HX at *;clear h h3;obtain ⟨⟨x0, x1, x2⟩, hx⟩ : ∃ s, s = H.fD.getD i (0, 0, 0) := ⟨_, rfl⟩
 rw [← hx] at HS1 HS2 t1 HEX;dsimp only [sv, I] at HS1 HS2 t1 HEX;clear hx;go_enter func72, ntmps72
 go_wp2_with fail
 refine Calls.mono (HS1.out _ HR.out) ?_;rintro e w1 ⟨rfl, hf1⟩;have hz1 := hf1.size;have HF1 := kAA hf1;clear hf1
 go_wp2_with fail
 have F2 : Fr [] w (w1.alloc (.cells #[int i64 x0, int i64 x1, int i64 x2] 148)) := HF1.out.trans (Fr.alloc [] _ _) (by simp);refine Calls.mono (HS2.out _ (HR.out.keep F2 (by simp))) ?_;rintro e w2 ⟨rfl, hf2⟩;have z2 := hf2.size;have s0 := hf2.cell (p := ⟨w1.heap.size, 0, none⟩) (by simp) (by simp);have s1 := hf2.cell (p := ⟨w1.heap.size, 1, none⟩) (by simp) (by simp);have s2 := hf2.cell (p := ⟨w1.heap.size, 2, none⟩) (by simp) (by simp);simp only [World.cell?_alloc_new, jAX, jAe, jAW, World.size_alloc] at s0 s1 s2 z2;have F3 := F2.trans hf2 (by simp);have HW0 := kAA ((hf2.block w1.heap.size (by simp) (by simp)).trans (heap_alloc_new w1 _));have hr2 := HR.out.keep F3 (by simp);clear hf2 F2 HS1 HS2;obtain ⟨gs, hgs, hcs, hfs, hgsa, hgsl⟩ := HR.out.seatAt i (by omega);obtain ⟨p0, p1, p2⟩ := hcs i (by omega);obtain ⟨q0, q1, q2⟩ := hcs i (by omega);have c5 := hr2.c5;rw [hgs] at c5;have cc : ∀ o, w2.cell? ⟨gs, o, none⟩ = w.cell? ⟨gs, o, none⟩ := fun o => F3.cell (p := ⟨gs, o, none⟩) hgsl (by simp)
 have ff : ∀ o, w2.frozen? ⟨gs, o, none⟩ = false := fun o => (F3.frozen (p := ⟨gs, o, none⟩) hgsl (by simp)).trans (hfs o)
 obtain ⟨o3, ho3⟩ := jex (Obj.cells #[int i64 x0, int i64 x1, int i64 x2] 148);have P0 := ((jAE w2 o3 ⟨gs, i * 3, none⟩ (by show gs < _; omega)).trans (cc _)).trans p0;have P1 := ((jAE w2 o3 ⟨gs, i * 3 + 1, none⟩ (by show gs < _; omega)).trans (cc _)).trans p1;have P2 := ((jAE w2 o3 ⟨gs, i * 3 + 2, none⟩ (by show gs < _; omega)).trans (cc _)).trans p2;have Q0 := ((jAE w2 o3 ⟨gs, i * 3, none⟩ (by show gs < _; omega)).trans (cc _)).trans q0;have Q1 := ((jAE w2 o3 ⟨gs, i * 3 + 1, none⟩ (by show gs < _; omega)).trans (cc _)).trans q1;have Q2 := ((jAE w2 o3 ⟨gs, i * 3 + 2, none⟩ (by show gs < _; omega)).trans (cc _)).trans q2;simp only [I] at P0 P1 P2 Q0 Q1 Q2;have fo : ∀ o, (w2.alloc o3).frozen? ⟨gs, o, none⟩ = false := fun o => (jBB w2 o3 ⟨gs, o, none⟩ (by show gs ≠ _; omega)).trans (ff o)
 have e0 := fo (i * 3);have e1 := fo (i * 3 + 1);have e2 := fo (i * 3 + 2);have g0 := fo (i * 3);have g1 := fo (i * 3 + 1);have g2 := fo (i * 3 + 2);have C5 := (jAE w2 o3 ⟨a, 5, none⟩ (by show a < _; omega)).trans c5;have S0 := (jAE w2 o3 ⟨w1.heap.size, 0, none⟩ (by show w1.heap.size < _; omega)).trans s0;have S1 := (jAE w2 o3 ⟨w1.heap.size, 1, none⟩ (by show w1.heap.size < _; omega)).trans s1;have S2 := (jAE w2 o3 ⟨w1.heap.size, 2, none⟩ (by show w1.heap.size < _; omega)).trans s2;have hn3 := heap_alloc_new w2 o3;rw [ho3] at hn3;have T0 := kAC hn3 0;have T1 := kAC hn3 1;have T2 := kAC hn3 2;rw [← ho3] at T0 T1 T2;simp only [jAX, jAe, jAW] at T0 T1 T2;have HF3 := kAA (F3.trans (Fr.alloc [] w2 o3) (by simp));have hzz : (w2.alloc o3).heap.size = w2.heap.size + 1 := by simp
 have HB1 : Hid ((w2.alloc o3).heap[w1.heap.size]? = w2.heap[w1.heap.size]? ∧ (w2.alloc o3).heap[w2.heap.size]? = some (.cells #[int i64 x0, int i64 x1, int i64 x2] 148 (0, 0))) := ⟨jAN _ _ _ (by omega), by rw [ho3]; exact heap_alloc_new _ _⟩;have HW1 : Hid (w2.heap[w1.heap.size]? = some (.cells #[int i64 x0, int i64 x1, int i64 x2] 148 (0, 0))) := HW0.out;clear hcs hfs p0 p1 p2 q0 q1 q2 cc ff fo hn3 F3 hr2 s0 s1 s2 c5
 go_wp2
 rw [← ho3];clear ho3;generalize w2.alloc o3 = w3 at *;generalize (H.fD.getD i (0, 0, 0)).1 = ow0 at *;generalize (H.fD.getD i (0, 0, 0)).2.1 = ox1 at *;generalize (H.fD.getD i (0, 0, 0)).2.2 = ox2 at *;have m1 := ng i;have m2 := ng i;have d1 : gs ≠ w1.heap.size := by omega
 have d2 : gs ≠ w2.heap.size := by omega
 have d3 : w1.heap.size ≠ w2.heap.size := by omega
 have HZZ := kAA hzz;clear hzz
 have HE1 : Hid (∀ W, Eqw ((((((w3.setCell ⟨gs, i * 3, none⟩ (int i64 x0)).setCell ⟨gs, i * 3 + 1, none⟩ (int i64 x1)).setCell ⟨gs, i * 3 + 2, none⟩ (int i64 x2)).setCell ⟨gs, i * 3, none⟩ (int i64 x0)).setCell ⟨gs, i * 3 + 1, none⟩ (int i64 x1)).setCell ⟨gs, i * 3 + 2, none⟩ (int i64 x2)) W → Rep W a l { H with fD := (H.fD.set i (x0, x1, x2)).set i (x0, x1, x2) } ∧ Nx a l l w W ∧ W.heap[w1.heap.size]? = w2.heap[w1.heap.size]? ∧ W.heap[w2.heap.size]? = some (.cells #[int i64 x0, int i64 x1, int i64 x2] 148 (0, 0))) := by
  intro W he;have K := kFP (HR.out.keep HF3.out (by simp)) hgs i i (by omega) (by omega) (x0, x1, x2) (x0, x1, x2) W he;exact ⟨K.1, (Nx.frw (HF3.out.mono (by simp)) : Nx a l l w w3).trans K.2.1, (K.2.2 _ (Ne.symm d1)).trans HB1.out.1, (K.2.2 _ (Ne.symm d2)).trans HB1.out.2⟩
 go_cut [] (fun W => Hid (Rep W a l { H with fD := (H.fD.set i (x0, x1, x2)).set i (x0, x1, x2) } ∧ Nx a l l w W ∧ W.heap[w1.heap.size]? = w2.heap[w1.heap.size]? ∧ W.heap[w2.heap.size]? = some (.cells #[int i64 x0, int i64 x1, int i64 x2] 148 (0, 0))))
 case first =>
  go_region_held3 (fun w' => w'.cell? ⟨a, 5, none⟩ = some (.slice (some ⟨gs, 0, none⟩) H.fD.length l.cs) ∧ w'.cell? ⟨w1.heap.size, 0, none⟩ = some (int i64 x0) ∧ w'.cell? ⟨w1.heap.size, 1, none⟩ = some (int i64 x1) ∧ w'.cell? ⟨w1.heap.size, 2, none⟩ = some (int i64 x2) ∧ w'.cell? ⟨w2.heap.size, 0, none⟩ = some (int i64 x0) ∧ w'.cell? ⟨w2.heap.size, 1, none⟩ = some (int i64 x1) ∧ w'.cell? ⟨w2.heap.size, 2, none⟩ = some (int i64 x2)) (go_keep) (fail)
  all_goals go_wp2
  all_goals
   go_meet
   case rel =>
    refine kAA (HE1.out _ ?_);exact kAS _
 case rest =>
  obtain ⟨w4, hw4⟩ := jex (wc);subst hw4;obtain ⟨hr4, hx4, hb4, hb5⟩ := hcut.out;clear hcut P0 P1 P2 Q0 Q1 Q2 e0 e1 e2 g0 g1 g2 C5 T0 T1 T2;have hz4 : w4.heap[w1.heap.size]? = some (.cells #[int i64 x0, int i64 x1, int i64 x2] 148 (0, 0)) := by rw [hb4]; exact HW1.out
  have s0 := kAC hz4 0;have s2 := kAC hz4 2;have u2 := kAC hb5 2;simp only [jAX, jAe, jAW] at s0 s2 u2;obtain ⟨go, hgo, hco, hfo, hgoa, hgol⟩ := hr4.orderAt x2 (by dsimp only; omega);have c6 := hr4.c6;have c10 := hr4.c10;have f10 := hr4.frozen 10;rw [hgo] at c6;have o1 := hco x2 (by dsimp only; omega);have o2 := hco x2 (by dsimp only; omega);have p1 := hfo x2;have p2 := hfo x2;dsimp only at c6 c10 o1 o2;generalize H.fC.getD x2 0 = ov1 at *;generalize H.fC.getD x2 0 = ov2 at *
  have hgn1 : go ≠ w1.heap.size := by
   intro e;obtain ⟨cur, hcur⟩ := kBX hr4.fC go (by rw [hgo]; simp [blk]);rw [e, hz4] at hcur
   simp at hcur
  have hgn2 : go ≠ w2.heap.size := by
   intro e;obtain ⟨cur, hcur⟩ := kBX hr4.fC go (by rw [hgo]; simp [blk]);rw [e, hb5] at hcur
   simp at hcur
  have HE : Hid (∀ W, Eqw (((w4.setCell ⟨go, x2, none⟩ (int i64 i)).setCell ⟨go, x2, none⟩ (int i64 i)).setCell ⟨a, 10, none⟩ (int i64 ((H.age : Int) + 1))) W → Rep W a l HX ∧ Nx a l l w W) := by
   intro W he;have K := kFJ (H' := HX) hr4 hgo x2 x2 i i HEX.out W he;exact ⟨K.1, hx4.trans K.2⟩
  have a1 := ng x2;have a2 := ng x2;have a3 : (x2 : Int) < H.fC.length := by omega
  have a4 : (x2 : Int) < H.fC.length := by omega
  clear hr4 hx4 hb4 hb5 hz4 hco hfo hgo HEX HR HF3 HB1
  go_wp2
  go_region_held3 (fun w' => w'.cell? ⟨a, 6, none⟩ = some (.slice (some ⟨go, 0, none⟩) H.fC.length l.co) ∧ w'.cell? ⟨w1.heap.size, 2, none⟩ = some (int i64 x2) ∧ w'.cell? ⟨w2.heap.size, 2, none⟩ = some (int i64 x2)) (go_keep) (fail)
  all_goals go_wp2
  all_goals
   go_ret
   exact ⟨rfl, HE.out _ ⟨rfl, rfl, rfl, rfl⟩⟩
theorem kPw (zs : List Int) (j0 : Nat) (b off c : Nat) (a : Nat) (l : Lay) (H : HS) (w : World) (h : Rep w a l H) (hj0 : j0 < zs.length) (hpre : ∀ j, j < j0 → has H (zs.getD j 0) = true) (hbad : has H (zs.getD j0 0) = false)
  (ht1 : H.fD.length ≤ 65538) (hb : b < w.heap.size) (hbn : b ∉ foot a l) (hin : ∀ j, j < zs.length → w.cell? ⟨b, off + j, none⟩ = some (int i64 (zs.getD j 0))) (hkl : (zs.length : Int) ≤ 9223372036854775807) :
  Calls prog 111 #[.pointer (some ⟨a, 0, none⟩), .slice (some ⟨b, off, none⟩) zs.length c] w fun e w' => e = .returned (.tuple #[int i64 0, int i64 0, int i64 20]) ∧ Rep w' a l H ∧ Nx a l l w w' := by
 have hal := h.lt a (by simp [foot]);have c0 := h.c0;have c5 := h.c5;have hmk := kDv H.fD.length (by omega);have HR := kAA h;have HIN := kAA hin;have HP := kAA hpre;have HBad := kAA hbad;clear h hin hpre hbad;go_enter func111, ntmps111
 go_wp2_with (go_at_call 88; refine (kAh _ _ c0).mono ?_; rintro e w1 ⟨rfl, hw1⟩; rw [hw1]; clear hw1 w1)
 go_loopw [27] (fun q wr => ∃ k : Nat, k ≤ j0 ∧ q = int i64 k ∧ Hid (Rep wr a l H ∧ Nx a l l w wr ∧ ∃ C, C.size = H.fD.length ∧ wr.heap[w.heap.size]? = some (.cells C 4 (0, 0)))) (fun q _ => zs.length - (intOf q).toNat)
 case atStart => exact ⟨0, jAH _, rfl, HR.out.alloc _, Nx.frw (Fr.alloc _ _ _), _, by simp [kDY], heap_alloc_new _ _⟩
 case round =>
  obtain ⟨k, hkn, rfl, hq⟩ := hrel;obtain ⟨hr, hx, C, hCs, hkb⟩ := hq.out;clear hq;have hin := (hx.1.cell (p := ⟨b, off + k, none⟩) hb hbn).trans (HIN.out k (by omega));have k1 := ng k;have k2 : (k : Int) < zs.length := by omega
  by_cases hlt : k < j0
  ·have hp := HP.out k hlt
   obtain ⟨j, hj⟩ : ∃ j : Nat, zs.getD k 0 = (j : Int) := by
    have h1 := of_decide_eq_true hp;exact ⟨(zs.getD k 0).toNat, by omega⟩
   rw [hj] at hin hp;obtain ⟨j1, j2, j3⟩ := kAk hp;have HSO := kAA (kAb j a l H wr hr j1 j2 j3);obtain ⟨⟨p, L, t⟩, hs⟩ : ∃ s, s = H.fD.getD j (0, 0, 0) := ⟨_, rfl⟩
   rw [← hs] at HSO;dsimp only [sv, I] at HSO;have k3 := ng j;have k4 : (j : Int) < H.fD.length := by omega
   have hkl2 := kAB hkb;have HRr := kAA hr;have HXr := kAA hx;have HKB := kAA hkb;have HCs := kAA hCs;clear hr hx hkb hs j3 hj hp hCs
   go_wp2_with fail
   refine HSO.out.mono ?_;rintro e w1 ⟨rfl, hf1⟩;have z1 := hf1.size;have hkb2 := (jAN w1 (.cells #[int i64 p, int i64 L, int i64 t] 148) w.heap.size (by omega)).trans ((hf1.block _ hkl2 (by simp)).trans HKB.out);have cl := kAC hkb2 j;have fl := kAD hkb2 j;rw [Array.getElem?_eq_getElem (by rw [HCs.out]; omega)] at cl
   have HE : Hid (∀ W, Eqw ((w1.alloc (.cells #[int i64 p, int i64 L, int i64 t] 148)).setCell ⟨w.heap.size, j, none⟩ (.bool true)) W → Rep W a l H ∧ Nx a l l w W ∧ ∃ C, C.size = H.fD.length ∧ W.heap[w.heap.size]? = some (.cells C 4 (0, 0))) := by
    intro W he;have F1 : Fr [] wr (w1.alloc (.cells #[int i64 p, int i64 L, int i64 t] 148)) := hf1.trans (Fr.alloc [] _ _) (by simp);have hr1 := HRr.out.keep F1 (by simp);have hnf : w.heap.size ∉ foot a l := fun hm => by have := HR.out.lt _ hm; omega
    refine ⟨(hr1.congr fun g hg => kAK (fun e => hnf (by rw [← e]; exact hg))).eqw he, Nx.eqw ⟨?_, fun b hb => .inl hb⟩ he, C.setIfInBounds j (.bool true), by simpa using HCs.out, ?_⟩
    ·refine (HXr.out.1.trans (F1.mono (S' := foot a l) (by simp)) (fun b hb => .inl hb)).trans (Fr.setCell (S := [w.heap.size]) _ _ _ (by simp)) (fun b hb => by simp at hb; subst hb; right; exact jAD _)
    ·rw [he.2.2.2, kAI hkb2 j (.bool true)]
   have HF1 := kAA hf1;generalize C[j]'(by rw [HCs.out]; omega) = old at cl;clear hf1 hkb2 HSO
   go_wp2
   go_roundw
   case rel => exact ⟨k + 1, by omega, by go_num, HE.out _ ⟨rfl, rfl, rfl, rfl⟩⟩
   case measure => simp [intOf]; omega
  ·have hke : k = j0 := by omega
   subst hke;have HSO := kAA (kAc _ a l H wr hr HBad.out);have HRr := kAA hr;have HXr := kAA hx;generalize zs.getD k 0 = zv at *;clear hr hx hkb hCs
   go_wp2_with fail
   refine HSO.out.mono ?_;rintro e w1 ⟨rfl, hf1⟩;have F2 : Fr [] wr (w1.alloc (.cells #[int i64 0, int i64 0, int i64 0] 148)) := hf1.trans (Fr.alloc [] _ _) (by simp);have HF := kAA F2;clear hf1 F2 HSO
   go_wp2
   go_ret3
   exact ⟨rfl, HRr.out.keep HF.out (by simp), HXr.out.trans (Nx.frw (HF.out.mono (by simp)))⟩
structure Th where
 fI : Bool
 cls : Int
 fmt : Nat
 fJ : Nat
 fB : List Int
 p : Option Addr
 c : Nat
structure MS where
 fH : Nat
 fM : Nat
 mark : Nat
 fA : List Th
 pt : Option Addr
 ct : Nat
def noTh : Th := ⟨false, 0, 0, 0, [], none, 0⟩
theorem kBr (n f : Nat) (w : World) (hn : (n : Int) ≤ 1048576) :
  Calls prog 86 #[int i64 n, int i64 f] w fun e w' => e = .returned (int i64 (lenN n f : Nat)) ∧ w' = w := by
 by_cases hf : f = 1
 ·subst hf;go_enter func86, ntmps86
  go_wp2
  go_ret
  refine ⟨kBK ?_, rfl⟩;simp only [lenN, if_true]
  push_cast
  first | rfl | omega | (simp; omega)
 ·have hf' : ((f : Int) == 1) = false := by simpa using (by omega : ¬ (f : Int) = 1)
  go_enter func86, ntmps86
  go_wp2
  go_ret
  refine ⟨kBK ?_, rfl⟩;simp only [lenN, jn hf]
  push_cast
  first | rfl | omega | (simp; omega)
def kAG (S : List Th) (k : Nat) : Nat := ((S.take k).filter (·.fI)).length
theorem kAN (S : List Th) (k : Nat) (hk : k < S.length) : kAG S (k + 1) = kAG S k + (if (S.getD k noTh).fI then 1 else 0) := by
 unfold kAG;rw [List.take_add_one, jAs, jAG, jAA, jAB hk];simp only [Option.toList_some, Option.getD_some]
 by_cases h : S[k].fI = true
 ·simp [h]
 ·simp [h]
theorem kFG (S : List Th) (k : Nat) : kAG S k ≤ k := jAU (jBH _ _) (by simp; omega)
def kAp (S : List Th) : Nat → Nat
 | 0 => 0
 | k + 1 => if (S.getD k noTh).fI ∧ kAp S k < (S.getD k noTh).fJ + lenN (S.getD k noTh).fB.length (S.getD k noTh).fmt then (S.getD k noTh).fJ + lenN (S.getD k noTh).fB.length (S.getD k noTh).fmt else kAp S k
theorem kBh (S : List Th) (k : Nat) : kAp S (k + 1) = if (S.getD k noTh).fI ∧ kAp S k < (S.getD k noTh).fJ + lenN (S.getD k noTh).fB.length (S.getD k noTh).fmt then (S.getD k noTh).fJ + lenN (S.getD k noTh).fB.length (S.getD k noTh).fmt else kAp S k := rfl
theorem kFA (n f : Nat) : lenN n f ≤ 2 + n := by unfold lenN; split <;> omega
structure MOk (M : MS) : Prop where
 len : (M.fA.length : Int) ≤ 65538
 fB : ∀ k, k < M.fA.length → ((M.fA.getD k noTh).fB.length : Int) ≤ 8192
 fJ : ∀ k, k < M.fA.length → ((M.fA.getD k noTh).fJ : Int) ≤ 1048576
def kAf (S : List Th) : Nat := (S.takeWhile (·.fI)).length + 1
theorem kMy (S : List Th) (k : Nat) (hk : k < S.length) (h1 : ∀ j, j < k → (S.getD j noTh).fI = true) (h2 : (S.getD k noTh).fI = false) : kAf S = k + 1 := by
 unfold kAf
 congr 1
 induction S generalizing k with
 | nil => simp at hk
 | cons s S ih =>
  cases k with
  | zero => simp only [List.getD_cons_zero] at h2; rw [List.takeWhile_cons_of_neg (by simpa using h2)]; rfl
  | succ k =>
   have h0 := h1 0 (by omega);simp only [List.getD_cons_zero] at h0;rw [List.takeWhile_cons_of_pos h0, jBG]
   congr 1
   exact ih k (by simpa using hk) (fun j hj => by simpa using h1 (j + 1) (by omega)) (by simpa using h2)
theorem kJK (S : List Th) (h1 : ∀ j, j < S.length → (S.getD j noTh).fI = true) : kAf S = S.length + 1 := by
 unfold kAf
 congr 1
 induction S with
 | nil => rfl
 | cons s S ih =>
  have h0 := h1 0 (by simp);simp only [List.getD_cons_zero] at h0;rw [List.takeWhile_cons_of_pos h0, jBG, jBG]
  congr 1
  exact ih fun j hj => by simpa using h1 (j + 1) (by simpa using hj)
def mhas (M : MS) (oop : Int) : Bool := decide (1 ≤ oop ∧ oop ≤ M.fA.length ∧ (M.fA.getD (oop.toNat - 1) noTh).fI = true)
theorem kAx {M : MS} {oop : Int} (h : mhas M oop = true) : ∃ k : Nat, oop = (k : Int) + 1 ∧ k < M.fA.length ∧ (M.fA.getD k noTh).fI = true := by
 have h1 := of_decide_eq_true h;exact ⟨oop.toNat - 1, by omega, by omega, h1.2.2⟩
theorem kDu {M : MS} (k : Nat) (hk : k < M.fA.length) (h : (M.fA.getD k noTh).fI = true) : mhas M ((k : Int) + 1) = true :=
 decide_eq_true ⟨by omega, by omega, by rw [show ((k : Int) + 1).toNat - 1 = k from by omega]; exact h⟩
end Go.Proofs.YtflgicdbbogllaaGreatDoor
namespace Go.Proofs.YtflgicdbbogllaaGreatDoor
open Go.RowKit Tryz
open Value (int)
open IntKind (i64)
theorem tm2 (n : Int) (h : n < 0) : n.tmod 2 = if n % 2 = 0 then 0 else -1 := by
 rw [Int.tmod_eq_emod]; split <;> split <;> omega
theorem tm4 (n : Int) (h : n < 0) : n.tmod 4 = if n % 4 = 0 then 0 else n % 4 - 4 := by
 rw [Int.tmod_eq_emod]; split <;> split <;> omega
theorem kGy (n : Int) (w : World) (hr : n % 4 = 0) (hs : 0 ≤ n) (h0 : 4 ≤ n) (h1 : n ≤ 262144) :
  Calls prog 98 #[int i64 n] w fun e w' => e = .returned (int i64 (3)) ∧ w' = w := by
 have h2 : n % 2 = 0 := by omega
 go_enter func98, ntmps98
 go_wp2
 go_ret
 exact ⟨rfl, rfl⟩
theorem kFn (n : Int) (w : World) (hr : n % 4 = 0) (hs : 0 ≤ n) (h : n < 4 ∨ 262144 < n) :
  Calls prog 98 #[int i64 n] w fun e w' => e = .returned (int i64 (0)) ∧ w' = w := by
 have h2 : n % 2 = 0 := by omega
 rcases h with h | h
 all_goals
  go_enter func98, ntmps98
  go_wp2
  go_ret
  exact ⟨rfl, rfl⟩
theorem kGB (n : Int) (w : World) (hr : n % 4 = 0) (hs : n < 0) (h : n < 4) :
  Calls prog 98 #[int i64 n] w fun e w' => e = .returned (int i64 (0)) ∧ w' = w := by
 have e2 : n.tmod 2 = 0 := by rw [tm2 n hs]; split <;> omega
 have e4 : n.tmod 4 = 0 := by rw [tm4 n hs, hr]; rfl
 clear hr;go_enter func98, ntmps98
 go_wp2
 go_ret
 exact ⟨rfl, rfl⟩
theorem kGx (n : Int) (w : World) (hr : n % 4 = 1) (hs : 0 ≤ n) (h0 : -2147483647 ≤ n) (h1 : n ≤ 2147483647) :
  Calls prog 98 #[int i64 n] w fun e w' => e = .returned (int i64 (1)) ∧ w' = w := by
 have h2 : n % 2 = 1 := by omega
 go_enter func98, ntmps98
 go_wp2
 go_ret
 exact ⟨rfl, rfl⟩
theorem kGE (n : Int) (w : World) (hr : n % 4 = 1) (hs : 0 ≤ n) (h : 2147483647 < n) :
  Calls prog 98 #[int i64 n] w fun e w' => e = .returned (int i64 (0)) ∧ w' = w := by
 have h2 : n % 2 = 1 := by omega
 go_enter func98, ntmps98
 go_wp2
 go_ret
 exact ⟨rfl, rfl⟩
theorem kGX (n : Int) (w : World) (hr : n % 4 = 1) (hs : n < 0) (h0 : -2147483647 ≤ n) (h1 : n ≤ 2147483647) :
  Calls prog 98 #[int i64 n] w fun e w' => e = .returned (int i64 (1)) ∧ w' = w := by
 have e2 : n.tmod 2 = -1 := by rw [tm2 n hs]; split <;> omega
 have e4 : n.tmod 4 = -3 := by rw [tm4 n hs, hr]; rfl
 clear hr;go_enter func98, ntmps98
 go_wp2
 go_ret
 exact ⟨rfl, rfl⟩
theorem kFk (n : Int) (w : World) (hr : n % 4 = 1) (hs : n < 0) (h : n < -2147483647) :
  Calls prog 98 #[int i64 n] w fun e w' => e = .returned (int i64 (0)) ∧ w' = w := by
 have e2 : n.tmod 2 = -1 := by rw [tm2 n hs]; split <;> omega
 have e4 : n.tmod 4 = -3 := by rw [tm4 n hs, hr]; rfl
 clear hr;go_enter func98, ntmps98
 go_wp2
 go_ret
 exact ⟨rfl, rfl⟩
theorem kGw (n : Int) (w : World) (hr : n % 4 = 2) (hs : 0 ≤ n) (h0 : 2 ≤ n) (h1 : n ≤ 16382) :
  Calls prog 98 #[int i64 n] w fun e w' => e = .returned (int i64 (2)) ∧ w' = w := by
 have h2 : n % 2 = 0 := by omega
 go_enter func98, ntmps98
 go_wp2
 go_ret
 exact ⟨rfl, rfl⟩
theorem kFY (n : Int) (w : World) (hr : n % 4 = 2) (hs : 0 ≤ n) (h : 16382 < n) :
  Calls prog 98 #[int i64 n] w fun e w' => e = .returned (int i64 (0)) ∧ w' = w := by
 have h2 : n % 2 = 0 := by omega
 go_enter func98, ntmps98
 go_wp2
 go_ret
 exact ⟨rfl, rfl⟩
theorem kFb (n : Int) (w : World) (hr : n % 4 = 2) (hs : n < 0) (h : n < 2) :
  Calls prog 98 #[int i64 n] w fun e w' => e = .returned (int i64 (0)) ∧ w' = w := by
 have e2 : n.tmod 2 = 0 := by rw [tm2 n hs]; split <;> omega
 have e4 : n.tmod 4 = -2 := by rw [tm4 n hs, hr]; rfl
 clear hr;go_enter func98, ntmps98
 go_wp2
 go_ret
 exact ⟨rfl, rfl⟩
theorem kGt (n : Int) (w : World) (hr : n % 4 = 3) (hs : 0 ≤ n) (h0 : -2147483647 ≤ n) (h1 : n ≤ 2147483647) :
  Calls prog 98 #[int i64 n] w fun e w' => e = .returned (int i64 (1)) ∧ w' = w := by
 have h2 : n % 2 = 1 := by omega
 go_enter func98, ntmps98
 go_wp2
 go_ret
 exact ⟨rfl, rfl⟩
theorem kGF (n : Int) (w : World) (hr : n % 4 = 3) (hs : 0 ≤ n) (h : 2147483647 < n) :
  Calls prog 98 #[int i64 n] w fun e w' => e = .returned (int i64 (0)) ∧ w' = w := by
 have h2 : n % 2 = 1 := by omega
 go_enter func98, ntmps98
 go_wp2
 go_ret
 exact ⟨rfl, rfl⟩
theorem kGh (n : Int) (w : World) (hr : n % 4 = 3) (hs : n < 0) (h0 : -2147483647 ≤ n) (h1 : n ≤ 2147483647) :
  Calls prog 98 #[int i64 n] w fun e w' => e = .returned (int i64 (1)) ∧ w' = w := by
 have e2 : n.tmod 2 = -1 := by rw [tm2 n hs]; split <;> omega
 have e4 : n.tmod 4 = -1 := by rw [tm4 n hs, hr]; rfl
 clear hr;go_enter func98, ntmps98
 go_wp2
 go_ret
 exact ⟨rfl, rfl⟩
theorem kFl (n : Int) (w : World) (hr : n % 4 = 3) (hs : n < 0) (h : n < -2147483647) :
  Calls prog 98 #[int i64 n] w fun e w' => e = .returned (int i64 (0)) ∧ w' = w := by
 have e2 : n.tmod 2 = -1 := by rw [tm2 n hs]; split <;> omega
 have e4 : n.tmod 4 = -1 := by rw [tm4 n hs, hr]; rfl
 clear hr;go_enter func98, ntmps98
 go_wp2
 go_ret
 exact ⟨rfl, rfl⟩
theorem kBY (n : Int) (w : World) :
  Calls prog 98 #[int i64 n] w fun e w' => e = .returned (int i64 (kAJ n)) ∧ w' = w := by
 have h4 : n % 4 = 0 ∨ n % 4 = 1 ∨ n % 4 = 2 ∨ n % 4 = 3 := by omega
 by_cases hs : 0 ≤ n
 ·rcases h4 with h4 | h4 | h4 | h4
  ·by_cases h : 4 ≤ n ∧ n ≤ 262144
   ·rw [(kHT n).2 ⟨h4, h⟩]; exact kGy n w h4 hs h.1 h.2
   ·have e : kAJ n = 0 := by unfold kAJ; (repeat' split) <;> omega
    rw [e]; exact kFn n w h4 hs (by omega)
  ·by_cases h : n ≤ 2147483647
   ·rw [(kJp n).2 (by omega)]; exact kGx n w h4 hs (by omega) h
   ·have e : kAJ n = 0 := by unfold kAJ; (repeat' split) <;> omega
    rw [e]; exact kGE n w h4 hs (by omega)
  ·by_cases h : n ≤ 16382
   ·rw [(kind2 n).2 (by omega)]; exact kGw n w h4 hs (by omega) h
   ·have e : kAJ n = 0 := by unfold kAJ; (repeat' split) <;> omega
    rw [e]; exact kFY n w h4 hs (by omega)
  ·by_cases h : n ≤ 2147483647
   ·rw [(kJp n).2 (by omega)]; exact kGt n w h4 hs (by omega) h
   ·have e : kAJ n = 0 := by unfold kAJ; (repeat' split) <;> omega
    rw [e]; exact kGF n w h4 hs (by omega)
 ·have hs' : n < 0 := by omega
  rcases h4 with h4 | h4 | h4 | h4
  ·have e : kAJ n = 0 := by unfold kAJ; (repeat' split) <;> omega
   rw [e]; exact kGB n w h4 hs' (by omega)
  ·by_cases h : -2147483647 ≤ n
   ·rw [(kJp n).2 (by omega)]; exact kGX n w h4 hs' h (by omega)
   ·have e : kAJ n = 0 := by unfold kAJ; (repeat' split) <;> omega
    rw [e]; exact kFk n w h4 hs' (by omega)
  ·have e : kAJ n = 0 := by unfold kAJ; (repeat' split) <;> omega
   rw [e]; exact kFb n w h4 hs' (by omega)
  ·by_cases h : -2147483647 ≤ n
   ·rw [(kJp n).2 (by omega)]; exact kGh n w h4 hs' h (by omega)
   ·have e : kAJ n = 0 := by unfold kAJ; (repeat' split) <;> omega
    rw [e]; exact kFl n w h4 hs' (by omega)
end Go.Proofs.YtflgicdbbogllaaGreatDoor
namespace Go.Proofs.YtflgicdbbogllaaGreatDoor
open Go.RowKit Tryz
open Value (int)
open IntKind (i64)
attribute [local go_sem ↓] wp_at_zero wp_at_succ
structure Is (H : HS) (oop : Nat) (t : Th) : Prop where
 has : has H oop = true
 room : (H.fD.getD oop (0, 0, 0)).1 + lenN t.fB.length t.fmt ≤ H.mem.length
 cls : H.mem.getD (H.fD.getD oop (0, 0, 0)).1 0 = t.cls
 shape : H.mem.getD ((H.fD.getD oop (0, 0, 0)).1 + 1) 0 = ((2 * t.fB.length + t.fmt : Nat) : Int)
 fmt : t.fmt ≤ 1
 len : t.fB.length ≤ 8192
 word : t.fmt = 0 → ∀ i, i < t.fB.length → H.mem.getD ((H.fD.getD oop (0, 0, 0)).1 + 2 + i) 0 = t.fB.getD i 0
 byte : t.fmt = 1 → ∀ i, i < t.fB.length → ∃ old : Nat, H.mem.getD ((H.fD.getD oop (0, 0, 0)).1 + 2 + i / 4) 0 = (old : Int) ∧ (old : Int) ≤ 4294967295 ∧ t.fB.getD i 0 = ((getB old (i % 4) : Nat) : Int)
theorem kCI (n i : Nat) (h : i < n) : 2 + i / 4 < lenN n 1 := by unfold lenN; rw [jp rfl]; omega
theorem kCK (n i f : Nat) (hf : f = 0) (h : i < n) : 2 + i < lenN n f := by unfold lenN; rw [jn (by omega)]; omega
theorem kAR (n f : Nat) : 2 ≤ lenN n f := by unfold lenN; split <;> omega
theorem Is.at {H : HS} {oop : Nat} {t : Th} (hi : Is H oop t) (i : Nat) (hin : i < t.fB.length) (a : Nat) (l : Lay) (hb : (H.mem.length : Int) ≤ 1048576) (w : World) (h : Rep w a l H) :
  Calls prog 55 #[.pointer (some ⟨a, 0, none⟩), int i64 oop, int i64 i] w fun e w' => e = .returned (.tuple #[int i64 (t.fB.getD i 0), int i64 0]) ∧ Fr [] w w' := by
 obtain ⟨h1, h2, h3⟩ := kAk hi.has;have hr := hi.room;have hl := hi.len;have h2' := kAR t.fB.length t.fmt;refine At_ok oop i t.fB.length t.fmt (t.fB.getD i 0) a l H w h hb h1 h2 h3 (by omega) hi.shape (by have := hi.fmt; omega) (by omega) (by omega) ?_
 intro W hW;rcases (show t.fmt = 0 ∨ t.fmt = 1 from by have := hi.fmt; omega) with hf | hf
 ·have := kCK t.fB.length i t.fmt hf hin;rw [hf, ← hi.word hf i hin];exact kOO _ i a l H W hW (by omega) hb
 ·obtain ⟨old, o1, o2, o3⟩ := hi.byte hf i hin;have := kCI t.fB.length i hin;rw [← hf] at this;rw [hf, o3];exact kIS _ i old a l H W hW (by omega) hb o1 (by omega)
structure Told (H : HS) (M : MS) : Prop where
 small : kDX H
 fH : H.fH = M.fH
 fM : H.fM = M.fM
 mark : H.mark = M.mark
 fin : H.mem.length = kAp M.fA M.fA.length
 cnt : H.count = kAG M.fA M.fA.length
 is : ∀ k, k < M.fA.length → (M.fA.getD k noTh).fI = true → Is H (k + 1) (M.fA.getD k noTh)
 none : ∀ k, k < M.fA.length → (M.fA.getD k noTh).fI = false → has H ((k : Int) + 1) = false
 all : ∀ k, k < M.fA.length → (M.fA.getD k noTh).fI = true → (kAq H H.fD.length)[kAG M.fA k]? = some (k + 1)
 allLen : (kAq H H.fD.length).length = kAG M.fA M.fA.length
 fD : (H.fD.length : Int) ≤ 65538
theorem kAF {S : List Nat} {w W : World} (h : Hid (Fr S w W)) : Hid (Fr S w W.drew) := h.out.trans (Fr.drew S W) (fun b hb => .inl hb)
theorem kJJ (S : List Th) (k : Nat) (hk : k < S.length) (h : (S.getD k noTh).fI = true) : kAG S k < kAG S S.length := by
 have h1 := kAN S k hk;rw [jp h] at h1
 have : ∀ n, k + 1 ≤ n → n ≤ S.length → kAG S (k + 1) ≤ kAG S n := by
  intro n hn hl
  induction n with
  | zero => omega
  | succ n ih =>
   by_cases e : k + 1 = n + 1
   ·rw [e]; exact jAD _
   ·have := ih (by omega) (by omega);have := kAN S n (by omega);omega
 have := this S.length (by omega) (jAD _);omega
theorem kAX (S : List Th) (k i : Nat) (t : Th) (hk : k < S.length) : (S.set k t).getD i noTh = if i = k then t else S.getD i noTh := by
 rw [jAA, jAA, jAh]
 by_cases h : k = i
 ·rw [jp h, jp h.symm, jp (by omega)]; rfl
 ·rw [jn h, jn (fun e => h e.symm)]
def kBi (S : List Th) (A : Nat) : Nat → Option Nat
 | 0 => none
 | i + 1 => match kBi S A i with
  | none => if (S.getD i noTh).fI = true ∧ A ≤ (S.getD i noTh).fJ then some i else none
  | some b => if (S.getD i noTh).fI = true ∧ A ≤ (S.getD i noTh).fJ ∧ (S.getD i noTh).fJ < (S.getD b noTh).fJ then some i else some b
theorem kDP (S : List Th) (A i : Nat) (h : kBi S A i = none) : kBi S A (i + 1) = if (S.getD i noTh).fI = true ∧ A ≤ (S.getD i noTh).fJ then some i else none := by
 conv => lhs; unfold kBi
 rw [h]
theorem kDW (S : List Th) (A i b : Nat) (h : kBi S A i = some b) : kBi S A (i + 1) = if (S.getD i noTh).fI = true ∧ A ≤ (S.getD i noTh).fJ ∧ (S.getD i noTh).fJ < (S.getD b noTh).fJ then some i else some b := by
 conv => lhs; unfold kBi
 rw [h]
theorem kEh (S : List Th) (A : Nat) : ∀ i b, kBi S A i = some b → b < i ∧ (S.getD b noTh).fI = true ∧ A ≤ (S.getD b noTh).fJ := by
 intro i
 induction i with
 | zero => intro b h; simp [kBi] at h
 | succ i ih =>
  intro b h
  cases hp : kBi S A i with
  | none =>
   rw [kDP S A i hp] at h
   split at h
   ·rename_i hc; injection h with h; subst h; exact ⟨by omega, hc⟩
   ·simp at h
  | some c =>
   rw [kDW S A i c hp] at h
   split at h
   ·rename_i hc; injection h with h; subst h; exact ⟨by omega, hc.1, hc.2.1⟩
   ·injection h with h; subst h
    have := ih _ hp;exact ⟨by omega, this.2⟩
def pv : Option Nat → Int
 | none => -1
 | some b => b
def kCr (t : Th) (A : Nat) : Th := { t with fJ := A }
def kBc (S : List Th) (A : Nat) : Nat → List Th
 | 0 => S
 | n + 1 => match kBi S A S.length with
  | none => S
  | some k => kBc (S.set k (kCr (S.getD k noTh) A)) (A + lenN (S.getD k noTh).fB.length (S.getD k noTh).fmt) n
theorem kDB (S : List Th) (A n : Nat) (h : kBi S A S.length = none) : kBc S A (n + 1) = S := by conv => lhs; unfold kBc; rw [h]
theorem kCy (S : List Th) (A n k : Nat) (h : kBi S A S.length = some k) : kBc S A (n + 1) = kBc (S.set k (kCr (S.getD k noTh) A)) (A + lenN (S.getD k noTh).fB.length (S.getD k noTh).fmt) n := by
 conv => lhs; unfold kBc
 rw [h]
structure kDw (S T : List Th) : Prop where
 len : S.length = T.length
 at_ : ∀ i, (S.getD i noTh).fI = (T.getD i noTh).fI ∧ (S.getD i noTh).fB = (T.getD i noTh).fB ∧ (S.getD i noTh).fmt = (T.getD i noTh).fmt ∧ (S.getD i noTh).cls = (T.getD i noTh).cls ∧ (S.getD i noTh).p = (T.getD i noTh).p ∧ (S.getD i noTh).c = (T.getD i noTh).c
theorem kDw.refl (S : List Th) : kDw S S := ⟨rfl, fun _ => ⟨rfl, rfl, rfl, rfl, rfl, rfl⟩⟩
theorem kDw.fJ {S T : List Th} (h : kDw S T) (k A : Nat) (hk : k < S.length) : kDw (S.set k (kCr (S.getD k noTh) A)) T := by
 refine ⟨by rw [jAL]; exact h.len, fun i => ?_⟩;rw [kAX S k i _ hk]
 split
 ·rename_i e; subst e; exact h.at_ i
 ·exact h.at_ i
theorem kDw.fI {S T : List Th} (h : kDw S T) : ∀ k, k ≤ S.length → kAG S k = kAG T k := by
 intro k
 induction k with
 | zero => intro _; rfl
 | succ k ih =>
  intro hk;rw [kAN S k (by omega), kAN T k (by have := h.len; omega), ih (by omega), (h.at_ k).1]
def newX (f : Nat) : Int := if f = 1 then 0 else 4
def kAY (S : List Th) (k : Nat) (t : Th) : List Th := if k < S.length then S.set k t else S ++ [t]
theorem kIe (S : List Th) (k : Nat) (t : Th) (hk : k ≤ S.length) : ∀ i, i < (kAY S k t).length → (kAY S k t).getD i noTh = if i = k then t else S.getD i noTh := by
 intro i hi;unfold kAY at hi ⊢
 by_cases h : k < S.length
 ·rw [jp h] at hi ⊢;exact kAX S k i t h
 ·rw [jn h] at hi ⊢;have hke : k = S.length := by omega
  simp at hi
  by_cases e : i = k
  ·rw [jp e, e, hke, jAA, jAI (by omega)]; simp
  ·rw [jn e, jAA, jAA, jAK (by omega)]
theorem kEr (S : List Th) (k : Nat) (t : Th) (hk : k ≤ S.length) : k < (kAY S k t).length ∧ ∀ i, i < (kAY S k t).length → i ≠ k → i < S.length := by
 unfold kAY
 by_cases h : k < S.length
 ·rw [jp h]; simp; exact ⟨h, fun i hi _ => hi⟩
 ·rw [jn h]; simp; exact ⟨by omega, fun i hi hne => by omega⟩
end Go.Proofs.YtflgicdbbogllaaGreatDoor
