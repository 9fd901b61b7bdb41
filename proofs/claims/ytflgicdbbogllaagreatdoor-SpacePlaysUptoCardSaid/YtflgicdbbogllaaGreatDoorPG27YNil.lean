import Derived.Test.YtflgicdbbogllaaGreatDoorPG26YBeg
set_option maxHeartbeats 4000000
set_option maxRecDepth 20000
set_option linter.unusedSimpArgs false
set_option linter.unusedVariables false
namespace Go.Proofs.YtflgicdbbogllaaGreatDoor
open Go.RowKit Go.Maps Tryz
open Value (int)
open IntKind (i64)
attribute [local go_sem ↓] wp_at_zero wp_at_succ
section
variable {w : World} {q r : Nat} {Y : RqS} {H : HS}
theorem RO'.stk {v : Value} {st' : List Int} {w' : World} (h : RQ q r Y w { Y with qv := v, st := st' } w') : RO' q r Y 0 false Y.M Y.fN st' w w' :=
 ⟨{ Y with qv := v, st := st' }, h, rfl, rfl, rfl, rfl, OldR.same rfl rfl rfl⟩
theorem kGa (h : Rqs w q r Y) (ss : List Int) (va : Value) (hr : Rd w va ss) (hl : Y.st.length ≤ 65536) :
  Calls prog 58 #[.pointer (some ⟨q, 0, none⟩), va] w fun e w' => e = .returned (int i64 (kpE Y.st ss)) ∧ RO' q r Y 0 false Y.M Y.fN (kpS Y.st ss) w w' := by
 obtain ⟨pa, ca, rfl, hpa⟩ := hr.at_;have hsl := hr.short;obtain ⟨-, -, c2, -⟩ := h.cells;have fz := kAD h.top 2;obtain ⟨p, c, hv⟩ := kAv h.stk
 have HApp : Hid (¬ 65536 < Y.st.length + ss.length → ∃ p' c' w2, (Builtin.append_ #[35, 35] 35 #[.slice p Y.st.length c, .slice pa ss.length ca]).run prog w = .ok (.slice p' (Y.st.length + ss.length) c') w2 ∧ w2.cell? ⟨q, 2, none⟩ = some (.slice p Y.st.length c) ∧ w2.frozen? ⟨q, 2, none⟩ = false ∧ RQ q r Y w { Y with qv := .slice p' (Y.st.length + ss.length) c', st := Y.st ++ ss } (w2.setCell ⟨q, 2, none⟩ (.slice p' (Y.st.length + ss.length) c'))) := fun hfit => by
  obtain ⟨v', w2, hrun, hown, hgrow, hblk⟩ := kCG Y.st ss Y.qv (.slice pa ss.length ca) w 0 h.stk hr (by omega) (by omega);have hne : ∀ g, Y.qv.ownBlock = some g → g ≠ q := fun g hg => (h.sepV g hg).2
  have F12 : Fr (ob Y.qv) w w2 := Fr.grown (S := ob Y.qv) hgrow (fun k hk => by unfold ob; rw [hk]; simp);have hsb : q ∉ ob Y.qv := fun hm => hne q (by simpa [ob] using hm) rfl
  have c2' : w2.cell? ⟨q, 2, none⟩ = some Y.qv := (F12.cell (p := ⟨q, 2, none⟩) (kAB h.top) hsb).trans c2;have fz' : w2.frozen? ⟨q, 2, none⟩ = false := (F12.frozen (p := ⟨q, 2, none⟩) (kAB h.top) hsb).trans fz
  have hz : RQ q r Y w { Y with qv := v', st := Y.st ++ ss } (w2.setCell ⟨q, 2, none⟩ v') := RQ.stk h hown F12 (fun b hb => by simpa [ob] using hb) (fun g hg => by
   rcases hblk with e | e
   ·exact .inl (by rw [← e]; exact hg)
   ·rw [e] at hg; injection hg with e2; right; omega) rfl
  obtain ⟨p', c', hv'⟩ := kAv hown;rw [jAG] at hv';rw [hv'] at hrun hz;rw [hv] at c2' hrun;exact ⟨p', c', w2, hrun, c2', fz', hz⟩
 have HS := kAA h;have HA := kAA hpa;rw [hv] at c2
 have HB : Hid ((badW ss = true ∧ kpE Y.st ss = 10 ∧ kpS Y.st ss = Y.st) ∨ (badW ss = false ∧ 65536 < Y.st.length + ss.length ∧ kpE Y.st ss = 22 ∧ kpS Y.st ss = Y.st) ∨ (badW ss = false ∧ ¬ 65536 < Y.st.length + ss.length ∧ kpE Y.st ss = 0 ∧ kpS Y.st ss = Y.st ++ ss)) := by
  unfold kpS kpE
  by_cases h1 : badW ss = true
  ·refine .inl ⟨h1, jp h1, ?_⟩;rw [jp h1, jn (by decide)]
  ·have h1' : badW ss = false := by simpa using h1
   rw [jn h1]
   by_cases h2 : 65536 < Y.st.length + ss.length
   ·exact .inr (.inl ⟨h1', h2, by rw [jp h2], by rw [jp h2, jn (by decide)]⟩)
   ·exact .inr (.inr ⟨h1', h2, by rw [jn h2], by rw [jn h2, jp rfl]⟩)
 generalize kpE Y.st ss = E at *;generalize kpS Y.st ss = S' at *;clear h hr hv hpa;go_enter func58, ntmps58
 go_wp2_with fail
 go_loopw [5] (fun i wr => ∃ k : Nat, k ≤ ss.length ∧ i = int i64 k ∧ wr = w ∧ Hid (∀ z ∈ ss.take k, kAJ z ≠ 0)) (fun i _ => ss.length - (intOf i).toNat)
 case atStart => exact ⟨0, jAH _, rfl, rfl, kAA (by simp)⟩
 case round =>
  obtain ⟨k, hkn, rfl, rfl, HZk⟩ := hrel
  by_cases hlt : k < ss.length
  ·obtain ⟨ga, oa, rfl, -, hca⟩ := HA.out (by omega);have x1 := hca k hlt;have k1 := ng k;have k2 : (k : Int) < ss.length := by omega
   have HK := kAA (kBY (ss.getD k 0) wr)
   have HT1 : Hid (ss.take (k + 1) = ss.take k ++ [ss.getD k 0]) := by
    show ss.take (k + 1) = ss.take k ++ [ss.getD k 0];rw [jAO hlt, jAA, jAB hlt]; rfl
   have HM : Hid (ss.getD k 0 ∈ ss) := by
    show ss.getD k 0 ∈ ss;rw [jAA, jAB hlt]; exact jAT _
   clear hca HA;generalize ss.getD k 0 = z at *
   by_cases he : kAJ z = 0
   ·rw [he] at HK;have HBt : Hid (badW ss = true) := jBd.2 ⟨z, HM.out, decide_eq_true he⟩;clear HM HT1 HZk he
    go_wp2_with (go_at_call 98; refine HK.out.mono ?_; rintro e w' ⟨rfl, hw'⟩; rw [hw']; clear hw' w')
    go_ret
    rcases HB.out with ⟨-, b2, b3⟩ | ⟨b1, -⟩ | ⟨b1, -⟩
    ·rw [b2, b3]; exact ⟨rfl, RO'.fK HS.out (Fr.refl _ _)⟩
    ·rw [HBt.out] at b1; cases b1
    ·rw [HBt.out] at b1; cases b1
   ·have HN : Hid (∀ y ∈ ss.take (k + 1), kAJ y ≠ 0) := by
     show ∀ y ∈ ss.take (k + 1), kAJ y ≠ 0
     intro y hy;rw [HT1.out] at hy;rcases jAC.1 hy with h1 | h1
     ·exact HZk.out y h1
     ·have : y = z := by simpa using h1
      rw [this]; exact he
    generalize kAJ z = kz at *;have hb : (kz == 0) = false := by simpa using he
    clear HM HT1 HZk he
    go_wp2_with (go_at_call 98; refine HK.out.mono ?_; rintro e w' ⟨rfl, hw'⟩; rw [hw']; clear hw' w')
    go_roundw
    case rel => exact ⟨k + 1, by omega, by go_num, trivial, HN⟩
    case measure => simp [intOf]; omega
  ·have hke : k = ss.length := by omega
   subst hke
   have HBf : Hid (badW ss = false) := List.any_eq_false.2 fun z hz => by
    have := HZk.out;rw [jAV] at this
    simpa using this z hz
   clear HZk;rcases HB.out with ⟨b1, -⟩ | ⟨-, hg, b2, b3⟩ | ⟨-, hg, b2, b3⟩
   ·rw [HBf.out] at b1; cases b1
   ·have hg2 : (65536 : Int) < (Y.st.length : Int) + (ss.length : Int) := by omega
    have H3 := kAA (And.intro b2 b3);clear hg b2 b3 HB
    go_wp2_with fail
    go_ret
    rw [H3.out.1, H3.out.2];exact ⟨rfl, RO'.fK HS.out (Fr.refl _ _)⟩
   ·have hg2 : ¬ (65536 : Int) < (Y.st.length : Int) + (ss.length : Int) := by omega
    have H3 := kAA (And.intro b2 b3);obtain ⟨p', c', w2, hrun, c2', fz', hz⟩ := HApp.out hg;have HRun := kAA hrun;have HZ := kAA hz;clear hg b2 b3 HB hrun hz HApp
    go_wp2_with (at_builtin; refine Lib.wpList_append_run _ rfl (.tmp 33) (.tmp 34) 35 35 rfl _ _ rfl rfl _ _ HRun.out ?_)
    go_ret
    rw [H3.out.1, H3.out.2];exact ⟨rfl, RO'.stk HZ.out⟩
theorem kKc (h : Rqs w q r Y) (n : Int) (hl : Y.st.length ≤ 65536) :
  Calls prog 23 #[.pointer (some ⟨q, 0, none⟩), int i64 n] w fun e w' => e = .returned (int i64 (dpE Y.st n)) ∧ RO' q r Y 0 false Y.M Y.fN (dpS Y.st n) w w' := by
 obtain ⟨-, -, c2, -⟩ := h.cells;obtain ⟨p, c, hv⟩ := kAv h.stk;have HS := kAA h
 by_cases hn : n < 0 ∨ (Y.st.length : Int) < n
 ·have e1 : dpE Y.st n = 28 := jp hn;have e2 : dpS Y.st n = Y.st := by unfold dpS; rw [e1, jn (by decide)]
  rw [e1, e2];rw [hv] at c2;clear h e1 e2 hv;rcases hn with hn | hn
  ·go_enter func23, ntmps23
   go_wp2_with fail
   go_ret
   exact ⟨rfl, RO'.fK HS.out (Fr.refl _ _)⟩
  ·have h0 : ¬ n < 0 := by omega
   go_enter func23, ntmps23
   go_wp2_with fail
   go_ret
   exact ⟨rfl, RO'.fK HS.out (Fr.refl _ _)⟩
 ·have e1 : dpE Y.st n = 0 := jn hn;have e2 : dpS Y.st n = Y.st.take (Y.st.length - n.toNat) := by unfold dpS; rw [e1, jp rfl]
  rw [e1, e2];obtain ⟨k, rfl⟩ : ∃ k : Nat, n = k := ⟨n.toNat, by omega⟩
  rw [show ((k : Nat) : Int).toNat = k from by omega]
  have hcap : Y.st.length ≤ c ∧ (c : Int) ≤ 9223372036854775807 := by
   have := h.stk.2;rw [hv] at this;rcases this with ⟨h2, h3⟩ | ⟨g, cap, cur, h2, h3, h4, h5, h6, h7⟩
   ·injection h2 with e1 e2 e3; omega
   ·injection h2 with e1 e2 e3; unfold maxLen at h6; omega
  have fz := kAD h.top 2
  have hown : w.ownsRow 0 41 1 (.slice p (Y.st.length - k) c) (Y.st.take (Y.st.length - k)).length ((Y.st.take (Y.st.length - k)).map (int i64)) := by
   have := h.stk;rw [hv] at this;have h2 := kDx this (k := Y.st.length - k) (by omega);rw [jBS, jAk, jBK (by omega)];exact h2
  have hrd : Rd w (.slice p (Y.st.length - k) c) (Y.st.take (Y.st.length - k)) := kCC hown (by rw [jAk]; omega);have fd : Fr [] w w.drew := Fr.drew [] w;obtain ⟨v2, w2, r1, r2, r3⟩ := kCi (Y.st.take (Y.st.length - k)) (.slice p (Y.st.length - k) c) w.drew (hrd.fK fd);have f2 : Fr [] w w2 := fd.trans r3 (by simp);have c2' : w2.cell? ⟨q, 2, none⟩ = some Y.qv := (f2.cell (p := ⟨q, 2, none⟩) (kAB h.top) (by simp)).trans c2;have fz' : w2.frozen? ⟨q, 2, none⟩ = false := (f2.frozen (p := ⟨q, 2, none⟩) (kAB h.top) (by simp)).trans fz;have HZ : Hid (RQ q r Y w { Y with qv := v2, st := Y.st.take (Y.st.length - k) } (w2.setCell ⟨q, 2, none⟩ v2)) := RQ.stk h (kAV r2 (jAH _)) f2 (by simp) (fun g hg => .inr (by have := (r2.lt g hg).1; simpa using this)) rfl;have HR := kAA r1;rw [hv] at c2 c2';have n1 : ¬ (k : Int) < 0 := by omega
  have n2 : ¬ (Y.st.length : Int) < k := by omega
  have n3 : ((Y.st.length - k : Nat) : Int) = (Y.st.length : Int) - (k : Int) := by omega
  have n4 : (Y.st.length : Int) - (k : Int) ≤ c := by omega
  have n5 : 0 ≤ (Y.st.length : Int) - (k : Int) := by omega
  have n6 : (Y.st.length : Int) ≤ 65536 := by omega
  have n7 : ((Y.st.length : Int) - (k : Int)).toNat = Y.st.length - k := by omega
  have n8 : (c : Int) ≤ 9223372036854775807 := hcap.2;have hwr : IntKind.i64.wrap ((Y.st.length : Int) - (k : Int)) = (Y.st.length : Int) - (k : Int) := by rw [kBp]; unfold wrap64; omega
  obtain ⟨p2, cc2, e5⟩ := kAv r2;have el : (Y.st.take (Y.st.length - k)).length = Y.st.length - k := by rw [jAk]; omega
  rw [e5, el] at HR HZ;clear h el e1 e2 hv hn hown hrd fd r1 r2 r3 f2 hcap e5;go_enter func23, ntmps23
  go_wp2_with fail
  go_region_law (refine kBj rfl (.const (.slice none 0 0)) (.tmp 30) 35 35 rfl _ _ rfl rfl _ _ HR.out ?_)
  all_goals go_wp2_with fail
  all_goals
   go_ret
   exact ⟨rfl, RO'.stk HZ.out⟩
end
section
variable {w : World} {q r : Nat} {Y : RqS} {H : HS}
theorem kCs {H : HS} {M : MS} (hi : Inv H M) (X A B : Int) : 0 ≤ (kAO M X A B).1 ∧ (kAO M X A B).1 ≤ 65536 := by
 rcases kHE hi X A B with ⟨-, h1, h2⟩ | ⟨-, h1⟩
 ·omega
 ·omega
theorem kLM (h : Rqs w q r Y) (hi : Inv H Y.M) (cl n f : Int) (hb : Y.R.fL ≤ 1000000000000) : Calls prog 48 #[.pointer (some ⟨r, 0, none⟩), int i64 cl, int i64 n, int i64 f] w fun e w' => e = .returned (.tuple #[int i64 (kAO Y.M cl n f).1, int i64 (kAO Y.M cl n f).2]) ∧ RO' q r Y 0 false (kAe Y.M cl n f) Y.fN Y.st w w' :=
 (kPV cl n f r Y.R Y.M w h.rep hi h.doc (h.doc.bd hi) hb).mono fun e w' ⟨h1, h2⟩ => ⟨h1, RO'.of h h2⟩
theorem kHl (h : Rqs w q r Y) (hi : Inv H Y.M) (cl n f : Int) (hb : Y.R.fL ≤ 1000000000000) (hc : (kAO Y.M cl n f).2 ≠ 23 ∨ Y.br ≠ none) :
  Calls prog 14 #[.pointer (some ⟨q, 0, none⟩), int i64 cl, int i64 n, int i64 f] w fun e w' => e = .returned (.tuple #[int i64 (4 * (kAO Y.M cl n f).1), int i64 (kAO Y.M cl n f).2]) ∧ RO' q r Y 0 false (kAe Y.M cl n f) Y.fN Y.st w w' := by
 obtain ⟨c0, -⟩ := h.cells;have HA := kAA (kLM h hi cl n f hb);obtain ⟨b1, b2⟩ := kCs hi cl n f;have HS := kAA h;clear h hi;generalize (kAO Y.M cl n f).2 = E at *;generalize (kAO Y.M cl n f).1 = o at *;generalize kAe Y.M cl n f = M' at *;go_enter func14, ntmps14
 go_wp2_with fail
 refine HA.out.mono ?_;rintro e w2 ⟨rfl, hp⟩
 have c3 : w2.cell? ⟨q, 3, none⟩ = some (.bool Y.br.isSome) := by
  obtain ⟨Y', h1, -, -, -, h2, -⟩ := hp;have := h1.ok.cells.2.2.2.1;rw [h2] at this;exact this
 have HP := kAA hp;clear hp HA
 by_cases h23 : E = 23
 ·have hbr : Y.br ≠ none := by rcases hc with h | h; exact absurd h23 h; exact h
  obtain ⟨b, hb⟩ := jBX.1 hbr;rw [hb] at c3;dsimp only [Option.isSome] at c3;subst h23;clear hc hbr
  go_wp2_with fail
  go_ret2
  exact ⟨rfl, HP.out⟩
 ·have hb : (E != 23) = true := by simpa using h23
  clear hc h23;generalize Y.br.isSome = bs at *
  go_wp2_with fail
  go_ret2
  exact ⟨rfl, HP.out⟩
theorem kHo (h : Rqs w q r Y) (hi : Inv H Y.M) (cl n f : Int) (hb : Y.R.fL ≤ 1000000000) (ht : Y.R.fO ≤ 100000000) (ha : H.age ≤ 100000000) (hl : Y.st.length ≤ 65536) (hr : Y.fN = 0 ∨ (1 ≤ Y.fN ∧ Y.fN ≤ 65536)) (hc : (kAO Y.M cl n f).2 = 23) (hbr : Y.br = none) :
  Calls prog 14 #[.pointer (some ⟨q, 0, none⟩), int i64 cl, int i64 n, int i64 f] w fun e w' => e = .returned (.tuple #[int i64 (4 * (kAO (colN Y.M (rtsR Y.fN Y.st)) cl n f).1), int i64 (kAO (colN Y.M (rtsR Y.fN Y.st)) cl n f).2]) ∧ RO' q r Y 1 false (kAe (colN Y.M (rtsR Y.fN Y.st)) cl n f) Y.fN Y.st w w' := by
 obtain ⟨c0, -⟩ := h.cells;have HA := kAA (kLM h hi cl n f (by omega));rw [hc] at HA;obtain ⟨b1, b2⟩ := kCs hi cl n f;have HN := kAA (kHM hc);have HI := kAA hi;obtain ⟨G, hG, hGa⟩ := hi.col (rtsR Y.fN Y.st) (by omega);have HG := kAA hG;obtain ⟨b3, b4⟩ := kCs hG cl n f;obtain ⟨E, hE⟩ := jxe ((kAO (colN Y.M (rtsR Y.fN Y.st)) cl n f).2);obtain ⟨o2, ho2⟩ := jxe ((kAO (colN Y.M (rtsR Y.fN Y.st)) cl n f).1);have HE := kAA (And.intro hE ho2);rw [ho2] at b3 b4;rw [hE, ho2];clear h hi hc hE ho2 hG hGa;generalize (kAO Y.M cl n f).1 = o at *;go_enter func14, ntmps14
 go_wp2_with fail
 refine HA.out.mono ?_;rintro e w2 ⟨rfl, Y2, p2, m2, r2, t2, y2, o2'⟩;rw [HN.out] at m2
 have c3 : w2.cell? ⟨q, 3, none⟩ = some (.bool false) := by
  have := p2.ok.cells.2.2.2.1;rw [y2, hbr] at this;exact this
 have hb2 := o2'.bound;have HP2 := kAA p2;have hl2 : Y2.st.length ≤ 65536 := by rw [t2]; exact hl
 have hr2 : Y2.fN = 0 ∨ (1 ≤ Y2.fN ∧ Y2.fN ≤ 65536) := by rw [r2]; exact hr
 have HRo := kAA (kEY p2.ok hl2 hr2);have HRn := kAA (kMD p2.ok (H := H) (by rw [m2]; exact HI.out) (by omega));rw [m2, r2, t2] at HRn;rw [r2, t2] at HRo;have HCl : Hid (∀ V, Hid (Fr [] w2 V) → V.cell? ⟨q, 0, none⟩ = some (.pointer (some ⟨r, 0, none⟩))) := fun V hV => (p2.ok.fK hV.out).cells.1
 have HCs : Hid (∀ V, Hid (RO' q r Y2 0 true (colN Y.M (rtsR Y.fN Y.st)) Y.fN Y.st w2 V) → V.cell? ⟨q, 0, none⟩ = some (.pointer (some ⟨r, 0, none⟩))) := fun V hV => by
  obtain ⟨Y', h1, -⟩ := hV.out;exact h1.ok.cells.1
 have HB2 : Hid (Y2.br = none ∧ Y2.R.fO ≤ Y.R.fO ∧ Y2.R.fL ≤ Y.R.fL + 1) := by
  refine ⟨by rw [y2]; exact hbr, ?_, hb2.2⟩;rcases o2'.1 with ⟨-, e, -⟩ | ⟨e, -⟩
  ·exact Nat.le_of_eq e
  ·cases e
 have hR : Hid (Fr [] w2 w2) := Fr.refl _ _;clear p2 HA hb2 y2 o2' m2 r2 t2 hl2 hr2;generalize (colA Y.M (rtsR Y.fN Y.st)).1 = x at *;generalize (colA Y.M (rtsR Y.fN Y.st)).2.1 = y at *;generalize (rtsR Y.fN Y.st).length = rn at *
 go_wp2_with fail
 go_region_held3 (fun V => V.cell? ⟨q, 0, none⟩ = some (.pointer (some ⟨r, 0, none⟩)))
  (first | exact HCl.out _ (kAF hR) | exact HCl.out _ hR | exact HCs.out _ hp3 | exact HCl.out _ hg2)
  (first | (go_at_call 50; refine (HRo.out _ (kAF hR)).mono ?_; rintro e w4 ⟨p2, c2, rfl, hrd2, hg2⟩) | (go_at_call 49; refine (HRn.out _ _ _ hg2 hrd2).mono ?_; rintro e w3 ⟨rfl, hp3⟩))
 all_goals
  obtain ⟨Y3, p3, m3, r3, t3, y3, o3⟩ := hp3.out;have hb3 := o3.bound;have hB2 := HB2.out;have d0 := p3.ok.cells.1;have HA3 := kAA (kLM p3.ok (H := G) (by rw [m3]; exact HG.out) cl n f (by omega));rw [m3, r3, t3, HE.out.1, HE.out.2] at HA3;have HP3 := kAA (HP2.out.trans p3);have HB3 : Hid (Y3.br = none ∧ Y3.R.fO ≤ Y.R.fO + 1 ∧ Y3.R.fL ≤ Y.R.fL + 2) := ⟨by rw [y3]; exact hB2.1, by omega, by omega⟩;clear p3 m3 r3 t3 y3 o3 hb3 hB2
  go_wp2_with fail
  refine HA3.out.mono ?_;rintro e w5 ⟨rfl, Y5, p5, m5, r5, t5, y5, o5⟩;have hb5 := o5.bound;have hB3 := HB3.out;have HZ : Hid (RO' q r Y 1 false (kAe (colN Y.M (rtsR Y.fN Y.st)) cl n f) Y.fN Y.st w w5) := ⟨Y5, HP3.out.trans p5, m5, r5, t5, hbr, by rw [y5]; exact hB3.1, by omega, by omega⟩;clear p5 m5 r5 t5 y5 o5 hb5 hB3 HA3
  go_wp2_with fail
  go_ret2
  exact ⟨rfl, HZ.out⟩
end
section
variable {w : World} {q r : Nat} {Y : RqS} {H : HS}
theorem kLf (h : Rqs w q r Y) (hb : Y.br ≠ none) : Calls prog 27 #[.pointer (some ⟨q, 0, none⟩)] w fun e w' => e = .returned (int i64 25) ∧ Fr [] w w' := by
 obtain ⟨-, -, -, c3, -⟩ := h.cells;obtain ⟨b, hb2⟩ := jBX.1 hb;rw [hb2] at c3;dsimp only [Option.isSome] at c3;clear h;go_enter func27, ntmps27
 go_wp2_with fail
 go_ret
 exact ⟨rfl, Fr.refl _ _⟩
theorem kKU (h : Rqs w q r Y) (hi : Inv H Y.M) (hb : Y.br = none) (hl : Y.st.length ≤ 65536) (hr : Y.fN = 0 ∨ (1 ≤ Y.fN ∧ Y.fN ≤ 65536)) (ht : Y.R.fO ≤ 1000000000) :
  Calls prog 27 #[.pointer (some ⟨q, 0, none⟩)] w fun e w' => e = .returned (int i64 0) ∧ RO' q r Y 2 false (colN Y.M (rtsR Y.fN Y.st)) Y.fN Y.st w w' := by
 have HRo := kAA (kEY h hl hr);have HRn := kAA (kMD h hi ht);obtain ⟨c0, -, -, c3, -⟩ := h.cells;rw [hb] at c3;dsimp only [Option.isSome] at c3;have HCl : Hid (∀ V, Hid (Fr [] w V) → V.cell? ⟨q, 0, none⟩ = some (.pointer (some ⟨r, 0, none⟩))) := fun V hV => (h.fK hV.out).cells.1
 have HCs : Hid (∀ V, Hid (RO' q r Y 0 true (colN Y.M (rtsR Y.fN Y.st)) Y.fN Y.st w V) → V.cell? ⟨q, 0, none⟩ = some (.pointer (some ⟨r, 0, none⟩))) := fun V hV => by
  obtain ⟨Y', h1, -⟩ := hV.out;exact h1.ok.cells.1
 have hR : Hid (Fr [] w w) := Fr.refl _ _;clear h hi;generalize (colA Y.M (rtsR Y.fN Y.st)).1 = x at *;generalize (colA Y.M (rtsR Y.fN Y.st)).2.1 = y at *;generalize (rtsR Y.fN Y.st).length = rn at *;go_enter func27, ntmps27
 go_wp2_with fail
 go_region_held3 (fun V => V.cell? ⟨q, 0, none⟩ = some (.pointer (some ⟨r, 0, none⟩)))
  (first | exact HCl.out _ (kAF hR) | exact HCl.out _ hR | exact HCs.out _ hp3 | exact HCl.out _ hg2)
  (first | (go_at_call 50; refine (HRo.out _ (kAF hR)).mono ?_; rintro e w2 ⟨p2, c2, rfl, hrd2, hg2⟩) | (go_at_call 49; refine (HRn.out _ _ _ hg2 hrd2).mono ?_; rintro e w3 ⟨rfl, hp3⟩))
 all_goals
  obtain ⟨Y3, p3, m3, r3, t3, y3, o3⟩ := hp3.out;have hb3 := o3.bound;obtain ⟨d0, d1, d2, d3, d4, d5, d6, d7⟩ := p3.ok.cells;have f3 := kAD p3.ok.top 3;rw [y3, hb] at d3;dsimp only [Option.isSome] at d3;have hw4 : ∃ W, w3.setCell ⟨q, 3, none⟩ (.bool true) = W := ⟨_, rfl⟩
  obtain ⟨W4, hW4⟩ := hw4
  have t4 : W4.heap[q]? = some (.cells #[.pointer (some ⟨r, 0, none⟩), int i64 Y3.fN, Y3.qv, .bool true, Y3.c1, Y3.c2, Y3.c3, Y3.c4] 56 (0, 0)) := by
   rw [← hW4, kAI (show w3.heap[q]? = some (.cells #[.pointer (some ⟨r, 0, none⟩), int i64 Y3.fN, Y3.qv, .bool Y3.br.isSome, Y3.c1, Y3.c2, Y3.c3, Y3.c4] 56 (0, 0)) from p3.ok.top) 3 _];rfl
  have F4 : Fr [q] w3 W4 := by rw [← hW4]; exact Fr.setCell (S := [q]) w3 ⟨q, 3, none⟩ _ (by simp)
  have rep4 : RRep W4 0 r Y3.R := p3.ok.rep.keepF F4 fun g hg hm => by
   have e : g = q := by simpa using hm
   rw [e] at hg; exact p3.ok.sepS hg
  have g0 : W4.cell? ⟨q, 0, none⟩ = some (.pointer (some ⟨r, 0, none⟩)) := by rw [kAC t4]; rfl
  have HPt := kAA (kLX 0 r Y3.R W4 rep4);have HX := kAA p3;have HT4 := kAA t4;have HR4 := kAA rep4;have HF4 := kAA F4;have HO3 : Hid (Y3.M = colN Y.M (rtsR Y.fN Y.st) ∧ Y3.fN = Y.fN ∧ Y3.st = Y.st ∧ Y3.br = none ∧ Y3.R.fO ≤ Y.R.fO + 1 ∧ Y3.R.fL ≤ Y.R.fL + 1) := ⟨m3, r3, t3, by rw [y3]; exact hb, hb3⟩;have HM3 := kAA p3.ok.doc;have HW4 := kAA hW4;clear p3 m3 r3 t3 y3 o3 hb3 t4 F4 rep4 d1 d2 d4 d5 d6 d7 hW4;obtain ⟨bn, hbn0⟩ := jxe (Y3.R.fL);obtain ⟨tn, htn0⟩ := jxe (Y3.R.fO);rw [hbn0, htn0] at HPt;have hbn := kAA hbn0;have htn := kAA htn0;clear hbn0 htn0
  go_wp2_with fail
  rw [HW4.out]
  go_wp2_with fail
  refine HPt.out.mono ?_;rintro e w5 ⟨rfl, hf5⟩;have t5 := (hf5.block q (kAB HT4.out) (by simp)).trans HT4.out;have k0 : w5.cell? ⟨q, 0, none⟩ = some (.pointer (some ⟨r, 0, none⟩)) := by rw [kAC t5]; rfl
  have k4 : w5.cell? ⟨q, 4, none⟩ = some Y3.c1 := by rw [kAC t5]; rfl
  have k5 : w5.cell? ⟨q, 5, none⟩ = some Y3.c2 := by rw [kAC t5]; rfl
  have k6 : w5.cell? ⟨q, 6, none⟩ = some Y3.c3 := by rw [kAC t5]; rfl
  have z4 := kAD t5 4;have z5 := kAD t5 5;have z6 := kAD t5 6;have F5 : Fr [q] w3 w5 := HF4.out.trans hf5 (by simp);have r5 := HR4.out.fK hf5;obtain ⟨W6, hW6⟩ := jxe ((((w5.setCell ⟨q, 4, none⟩ (.pointer (some ⟨r, 0, none⟩))).setCell ⟨q, 5, none⟩ (int i64 bn)).setCell ⟨q, 6, none⟩ (int i64 tn)));have s4 := kAI t5 4 (.pointer (some ⟨r, 0, none⟩));have s5 := kAI s4 5 (int i64 bn);have s6 := kAI s5 6 (int i64 tn);rw [hW6] at s6;have t6 : W6.heap[q]? = some (.cells #[.pointer (some ⟨r, 0, none⟩), int i64 Y3.fN, Y3.qv, .bool true, .pointer (some ⟨r, 0, none⟩), int i64 bn, int i64 tn, Y3.c4] 56 (0, 0)) := s6
  have F56 : Fr [q] w5 W6 := by
   rw [← hW6];exact ((Fr.setCell (S := [q]) _ ⟨q, 4, none⟩ _ (by simp)).trans (Fr.setCell (S := [q]) _ ⟨q, 5, none⟩ _ (by simp)) (fun g hg => .inl hg)).trans (Fr.setCell (S := [q]) _ ⟨q, 6, none⟩ _ (by simp)) (fun g hg => .inl hg)
  have F6 : Fr [q] w3 W6 := F5.trans F56 (fun g hg => .inl hg)
  have r6 : RRep W6 0 r Y3.R := HX.out.ok.rep.keepF F6 fun g hg hm => by
   have e : g = q := by simpa using hm
   rw [e] at hg; exact HX.out.ok.sepS hg
  have j7 : W6.cell? ⟨q, 7, none⟩ = some Y3.c4 := by rw [kAC t6]; rfl
  have z7 := kAD t6 7;have HMk := kAA (kId r Y3.R Y3.M W6 r6 HM3.out)
  have HZ : Hid (RO' q r Y 2 false (colN Y.M (rtsR Y.fN Y.st)) Y.fN Y.st w (W6.setCell ⟨q, 7, none⟩ (int i64 Y3.M.mark))) := by
   have f7 : Fr [q] W6 (W6.setCell ⟨q, 7, none⟩ (int i64 Y3.M.mark)) := Fr.setCell (S := [q]) _ ⟨q, 7, none⟩ _ (by simp);have s7 := kAI t6 7 (int i64 Y3.M.mark);obtain ⟨e1, e2, e3, e4, e5, e6⟩ := HO3.out
   have hq := RQ.own (Y' := { Y3 with br := some ⟨bn, tn, Y3.M.mark⟩, c1 := .pointer (some ⟨r, 0, none⟩), c2 := int i64 bn, c3 := int i64 tn, c4 := int i64 Y3.M.mark }) HX.out.ok (F6.trans f7 (fun g hg => .inl hg)) s7 rfl rfl rfl rfl (fun b hb => by
    injection hb with hb
    subst hb;exact ⟨rfl, rfl, rfl, rfl⟩)
   exact ⟨_, HX.out.trans hq, e1, e2, e3, hb, by show some _ = some _; rw [hbn.out, htn.out], by show Y3.R.fO ≤ _; omega, by show Y3.R.fL ≤ _; omega⟩
  have HW6 := kAA hW6;clear hf5 F5 r5 s4 s5 s6 F56 F6 r6 t5 hW6
  go_wp2_with fail
  rw [HW6.out];generalize Y3.M.mark = mk at *;refine HMk.out.mono ?_;rintro e w7 ⟨rfl, hw7⟩;rw [hw7];clear hw7 w7
  go_wp2_with fail
  go_ret
  exact ⟨rfl, HZ.out⟩
theorem kKl (h : Rqs w q r Y) (hb : Y.br = none) : Calls prog 29 #[.pointer (some ⟨q, 0, none⟩)] w fun e w' => e = .returned (int i64 25) ∧ Fr [] w w' := by
 obtain ⟨-, -, -, c3, -⟩ := h.cells;rw [hb] at c3;dsimp only [Option.isSome] at c3;clear h;go_enter func29, ntmps29
 go_wp2_with fail
 go_ret
 exact ⟨rfl, Fr.refl _ _⟩
theorem kGV (h : Rqs w q r Y) (b : RqB) (hbr : Y.br = some b) (E : Int) (bb : Bool) (M1 : MS) (hE : E = 0 ∨ E = 25) (hk : MkOk b.mr)
  (hback : ∀ V, RRep V 0 r Y.R → Calls prog 68 #[.pointer (some ⟨r, 0, none⟩), .agg #[.pointer (some ⟨r, 0, none⟩), int i64 b.pb, int i64 b.tn]] V fun e w' => e = .returned (int i64 E) ∧ RN bb r Y.R M1 V w') :
  Calls prog 29 #[.pointer (some ⟨q, 0, none⟩)] w fun e w' => e = .returned (int i64 E) ∧ RO' q r Y 3 false (if E = 0 then abN M1 b.mr else M1) Y.fN Y.st w w' := by
 obtain ⟨c0, -, -, c3, c4, c5, c6, c7⟩ := h.cells;have fz := kAD h.top 3;obtain ⟨k1, k2, k3, k4⟩ := h.bk b hbr;rw [hbr] at c3;dsimp only [Option.isSome] at c3;obtain ⟨w1, hw1⟩ := jxe (w.setCell ⟨q, 3, none⟩ (.bool false))
 have hq1 : RQ q r Y w { Y with br := none } w1 := by
  have f2 : Fr [q] w w1 := by rw [← hw1]; exact Fr.setCell (S := [q]) w ⟨q, 3, none⟩ _ (by simp)
  refine RQ.own (Y' := { Y with br := none }) h f2 ?_ rfl rfl rfl rfl (fun b hb => by cases hb);rw [← hw1, kAI (show w.heap[q]? = some (.cells #[.pointer (some ⟨r, 0, none⟩), int i64 Y.fN, Y.qv, .bool Y.br.isSome, Y.c1, Y.c2, Y.c3, Y.c4] 56 (0, 0)) from h.top) 3 _];rfl
 have HQ1 := kAA hq1
 have HCl : Hid (∀ V, Hid (Fr [] w1 V) → V.cell? ⟨q, 0, none⟩ = some (.pointer (some ⟨r, 0, none⟩)) ∧ V.cell? ⟨q, 4, none⟩ = some (.pointer (some ⟨r, 0, none⟩)) ∧ V.cell? ⟨q, 5, none⟩ = some (int i64 b.pb) ∧ V.cell? ⟨q, 6, none⟩ = some (int i64 b.tn)) := fun V hV => by
  obtain ⟨d0, -, -, -, d4, d5, d6, -⟩ := (hq1.ok.fK hV.out).cells;refine ⟨d0, ?_, ?_, ?_⟩
  ·rw [d4]; exact congrArg some k1
  ·rw [d5]; exact congrArg some k2
  ·rw [d6]; exact congrArg some k3
 have HBk : Hid (∀ V, Hid (Fr [] w1 V) → Calls prog 68 #[.pointer (some ⟨r, 0, none⟩), .agg #[.pointer (some ⟨r, 0, none⟩), int i64 b.pb, int i64 b.tn]] V fun e w' => e = .returned (int i64 E) ∧ ∃ Y2, Hid (RQ q r Y w Y2 w' ∧ Y2.M = M1 ∧ Y2.fN = Y.fN ∧ Y2.st = Y.st ∧ Y2.br = none ∧ Y2.c1 = Y.c1 ∧ Y2.c2 = Y.c2 ∧ Y2.c3 = Y.c3 ∧ Y2.c4 = Y.c4 ∧ Y2.R.fO ≤ Y.R.fO + 1 ∧ Y2.R.fL ≤ Y.R.fL + 1)) := fun V hV => by
  have hsV := hq1.ok.fK hV.out;refine (hback V hsV.rep).mono ?_;rintro e w' ⟨rfl, R', g1, g2, g3, g4, g5⟩;exact ⟨rfl, { Y with br := none, R := R', M := M1 }, hq1.trans ((RQ.heap hsV g1 g2 g3 g4).first hV.out), rfl, rfl, rfl, rfl, rfl, rfl, rfl, rfl, g5.bound⟩
 have HCs : Hid (∀ V Y2, Hid (RQ q r Y w Y2 V ∧ Y2.M = M1 ∧ Y2.fN = Y.fN ∧ Y2.st = Y.st ∧ Y2.br = none ∧ Y2.c1 = Y.c1 ∧ Y2.c2 = Y.c2 ∧ Y2.c3 = Y.c3 ∧ Y2.c4 = Y.c4 ∧ Y2.R.fO ≤ Y.R.fO + 1 ∧ Y2.R.fL ≤ Y.R.fL + 1) → V.cell? ⟨q, 0, none⟩ = some (.pointer (some ⟨r, 0, none⟩)) ∧ V.cell? ⟨q, 4, none⟩ = some (.pointer (some ⟨r, 0, none⟩)) ∧ V.cell? ⟨q, 5, none⟩ = some (int i64 b.pb) ∧ V.cell? ⟨q, 6, none⟩ = some (int i64 b.tn) ∧ V.cell? ⟨q, 7, none⟩ = some (int i64 b.mr)) := fun V Y2 hV => by
  obtain ⟨g1, -, -, -, -, e1, e2, e3, e4, -⟩ := hV.out;obtain ⟨d0, -, -, -, d4, d5, d6, d7⟩ := g1.ok.cells;refine ⟨d0, ?_, ?_, ?_, ?_⟩
  ·rw [d4, e1]; exact congrArg some k1
  ·rw [d5, e2]; exact congrArg some k2
  ·rw [d6, e3]; exact congrArg some k3
  ·rw [d7, e4]; exact congrArg some k4
 have hR : Hid (Fr [] w1 w1) := Fr.refl _ _;have HW1 := kAA hw1;clear h hq1 hback k1 k2 k3 k4 c4 c5 c6 c7 hw1 hbr;go_enter func29, ntmps29
 go_wp2_with fail
 rw [HW1.out];clear HW1
 go_region_held3 (fun V => V.cell? ⟨q, 0, none⟩ = some (.pointer (some ⟨r, 0, none⟩)) ∧ V.cell? ⟨q, 4, none⟩ = some (.pointer (some ⟨r, 0, none⟩)) ∧ V.cell? ⟨q, 5, none⟩ = some (int i64 b.pb) ∧ V.cell? ⟨q, 6, none⟩ = some (int i64 b.tn))
  (first | exact HCl.out _ (kAF hR) | exact HCl.out _ hR | (obtain ⟨y0, y1, y2, y3, -⟩ := HCs.out _ _ hs2; exact ⟨y0, y1, y2, y3⟩))
  (first | (go_at_call 68; refine (HBk.out _ (kAF hR)).mono ?_; rintro e w2 ⟨rfl, Y2, hs2⟩))
 all_goals
  obtain ⟨z0, -, -, -, z7⟩ := HCs.out _ _ hs2;obtain ⟨g1, g2, g3, g4, g5, g6, g7, g8, g9, g10, g11⟩ := hs2.out;have HG : Hid (RQ q r Y w Y2 w2 ∧ Y2.M = M1 ∧ Y2.fN = Y.fN ∧ Y2.st = Y.st ∧ Y2.br = none ∧ Y2.R.fO ≤ Y.R.fO + 1 ∧ Y2.R.fL ≤ Y.R.fL + 1) := ⟨g1, g2, g3, g4, g5, g10, g11⟩
  have HM2 : Hid (Calls prog 64 #[.pointer (some ⟨r, 0, none⟩)] w2 fun e w' => e = .returned (int i64 M1.mark) ∧ w' = w2) := by
   have h5 := kId r Y2.R Y2.M w2 g1.ok.rep g1.ok.doc;rw [g2] at h5;exact h5
  clear g1 g2 g3 g4 g5 g6 g7 g8 g9 g10 g11 HBk HCs;rcases hE with rfl | rfl
  rotate_left
  ·go_wp2_with fail
   go_ret
   obtain ⟨g1, g2, g3, g4, g5, g6, g7⟩ := HG.out;exact ⟨rfl, Y2, g1, g2, g3, g4, g5, by omega, by omega⟩
  have HIde : Hid (b.mr = 0 ∨ M1.mark = 0 → RO' q r Y 3 false (abN M1 b.mr) Y.fN Y.st w w2) := fun hz => by
   obtain ⟨g1, g2, g3, g4, g5, g6, g7⟩ := HG.out;exact ⟨Y2, g1, by unfold abN; rw [jp hz]; exact g2, g3, g4, g5, by omega, by omega⟩
  by_cases hm0 : M1.mark = 0
  ·have HZ := kAA (HIde.out (.inr hm0));have hmz : ((M1.mark : Int) != 0) = false := by simpa using (by omega : (M1.mark : Int) = 0)
   clear hm0
   go_wp2_with (go_at_call 64; refine HM2.out.mono ?_; rintro e w' ⟨rfl, hw'⟩; rw [hw']; clear hw' w')
   go_ret
   exact ⟨rfl, HZ.out⟩
  ·have hmz : ((M1.mark : Int) != 0) = true := by simpa using (by omega : ¬ (M1.mark : Int) = 0)
   by_cases hk0 : b.mr = 0
   ·have HZ := kAA (HIde.out (.inl hk0));have hkz : ((b.mr : Int) != 0) = false := by simpa using (by omega : (b.mr : Int) = 0)
    clear hk0 hm0
    go_wp2_with (go_at_call 64; refine HM2.out.mono ?_; rintro e w' ⟨rfl, hw'⟩; rw [hw']; clear hw' w')
    go_ret
    exact ⟨rfl, HZ.out⟩
   ·have hkz : ((b.mr : Int) != 0) = true := by simpa using (by omega : ¬ (b.mr : Int) = 0)
    have hkM : isM (b.mr : Int) = true := by
     rcases hk with h | h
     ·exact absurd h hk0
     ·exact h
    have HMa : Hid (∀ V, Hid (Fr [] w2 V) → Calls prog 69 #[.pointer (some ⟨r, 0, none⟩), int i64 b.mr] V fun e w' => e = .returned (int i64 0) ∧ Hid (RO' q r Y 3 false (abN M1 b.mr) Y.fN Y.st w w' ∧ ∀ c, c = 0 ∨ c = 7 → w'.cell? ⟨q, c, none⟩ = w2.cell? ⟨q, c, none⟩)) := fun V hV => by
     obtain ⟨g1, g2, g3, g4, g5, g6, g7⟩ := HG.out;have hsV := g1.ok.fK hV.out;have hm := kLp (b.mr : Int) r Y2.R Y2.M V hsV.rep hsV.doc;rw [jp hkM, g2] at hm;refine hm.mono ?_;rintro e w' ⟨rfl, R3, n1, n2, n3, n4, n5⟩
     have e2 : kDO M1 (b.mr : Int) = abN M1 b.mr := by
      unfold kDO abN;rw [jp hkM, jn (fun h => by rcases h with h | h; exact hk0 h; exact hm0 h), show ((b.mr : Nat) : Int).toNat = b.mr from by omega]
     have hb5 := n5.bound;refine ⟨rfl, ⟨_, g1.trans ((RQ.heap hsV n1 n2 n3 n4).first hV.out), e2, g3, g4, g5, by show R3.fO ≤ _; omega, by show R3.fL ≤ _; omega⟩, fun c _ => ?_⟩;rw [n3.cell (p := ⟨q, c, none⟩) (kAB hsV.top) hsV.sepS];exact hV.out.cell (p := ⟨q, c, none⟩) (kAB g1.ok.top) (by simp)
    have HCm : Hid (∀ V, Hid (Fr [] w2 V) → V.cell? ⟨q, 0, none⟩ = some (.pointer (some ⟨r, 0, none⟩)) ∧ V.cell? ⟨q, 7, none⟩ = some (int i64 b.mr)) := fun V hV => by
     have hlt := kAB HG.out.1.ok.top;exact ⟨(hV.out.cell (p := ⟨q, 0, none⟩) hlt (by simp)).trans z0, (hV.out.cell (p := ⟨q, 7, none⟩) hlt (by simp)).trans z7⟩
    have HCn : Hid (∀ V, Hid (RO' q r Y 3 false (abN M1 b.mr) Y.fN Y.st w V ∧ ∀ c, c = 0 ∨ c = 7 → V.cell? ⟨q, c, none⟩ = w2.cell? ⟨q, c, none⟩) → V.cell? ⟨q, 0, none⟩ = some (.pointer (some ⟨r, 0, none⟩)) ∧ V.cell? ⟨q, 7, none⟩ = some (int i64 b.mr)) := fun V hV => ⟨(hV.out.2 0 (.inl rfl)).trans z0, (hV.out.2 7 (.inr rfl)).trans z7⟩
    have hR2 : Hid (Fr [] w2 w2) := Fr.refl _ _;clear hk0 hm0
    go_wp2_with (go_at_call 64; refine HM2.out.mono ?_; rintro e w' ⟨rfl, hw'⟩; rw [hw']; clear hw' w')
    go_region_held3 (fun V => V.cell? ⟨q, 0, none⟩ = some (.pointer (some ⟨r, 0, none⟩)) ∧ V.cell? ⟨q, 7, none⟩ = some (int i64 b.mr))
     (first | exact HCm.out _ (kAF hR2) | exact HCm.out _ hR2 | exact HCn.out _ hs4)
     (first | (go_at_call 69; refine (HMa.out _ (kAF hR2)).mono ?_; rintro e w4 ⟨rfl, hs4⟩))
    all_goals go_wp2_with fail
    all_goals
     go_ret
     exact ⟨rfl, hs4.out.1⟩
end
end Go.Proofs.YtflgicdbbogllaaGreatDoor
namespace Go.Proofs.YtflgicdbbogllaaGreatDoor
open Go.RowKit Tryz
open Value (int)
open IntKind (i64)
attribute [local go_sem ↓] wp_at_zero wp_at_succ
def NoS (w : World) (v : Value) : Prop := ∀ V, Fr [] w V → Calls prog 45 #[v] V fun e w' => e = .returned (.bool false) ∧ w' = V
theorem NoS.fK {w w' : World} {v : Value} (h : NoS w v) (hf : Fr [] w w') : NoS w' v := fun V hV => h V (hf.trans hV (by simp))
theorem kBf (w : World) : NoS w (.pointer none) := fun V _ => by
 go_enter func45, ntmps45
 go_wp2
 go_ret
 exact ⟨rfl, rfl⟩
theorem kIG (v : Value) (X A B : Int) (w : World) (h : NoS w v) : Calls prog 13 #[v, int i64 X, int i64 A, int i64 B] w fun e w' => e = .returned (.tuple #[int i64 0, int i64 2]) ∧ w' = w := by
 have HM := kAA h;clear h;go_enter func13, ntmps13
 go_wp2_with (go_at_call 45; refine Calls.mono (HM.out _ (by first | exact Fr.refl _ _ | exact Fr.alloc [] _ _)) ?_; rintro e w' ⟨rfl, hw'⟩; rw [hw']; clear hw' w')
 go_ret2
 exact ⟨rfl, rfl⟩
theorem kGz (v : Value) (A X : Int) (w : World) (h : NoS w v) : Calls prog 15 #[v, int i64 A, int i64 X] w fun e w' => e = .returned (int i64 2) ∧ w' = w := by
 have HM := kAA h;clear h;go_enter func15, ntmps15
 go_wp2_with (go_at_call 45; refine Calls.mono (HM.out _ (by first | exact Fr.refl _ _ | exact Fr.alloc [] _ _)) ?_; rintro e w' ⟨rfl, hw'⟩; rw [hw']; clear hw' w')
 go_ret
 exact ⟨rfl, rfl⟩
theorem kLu (v : Value) (A : Int) (w : World) (h : NoS w v) : Calls prog 17 #[v, int i64 A] w fun e w' => e = .returned (int i64 2) ∧ w' = w := by
 have HM := kAA h;clear h;go_enter func17, ntmps17
 go_wp2_with (go_at_call 45; refine Calls.mono (HM.out _ (by first | exact Fr.refl _ _ | exact Fr.alloc [] _ _)) ?_; rintro e w' ⟨rfl, hw'⟩; rw [hw']; clear hw' w')
 go_ret
 exact ⟨rfl, rfl⟩
theorem kOW (v : Value) (A : Int) (w : World) (h : NoS w v) : Calls prog 19 #[v, int i64 A] w fun e w' => e = .returned (.tuple #[int i64 0, int i64 2]) ∧ w' = w := by
 have HM := kAA h;clear h;go_enter func19, ntmps19
 go_wp2_with (go_at_call 45; refine Calls.mono (HM.out _ (by first | exact Fr.refl _ _ | exact Fr.alloc [] _ _)) ?_; rintro e w' ⟨rfl, hw'⟩; rw [hw']; clear hw' w')
 go_ret2
 exact ⟨rfl, rfl⟩
theorem kKf (v : Value) (ls : Option Addr) (ln lc : Nat) (w : World) (h : NoS w v) : Calls prog 57 #[v, .slice ls ln lc] w fun e w' => e = .returned (int i64 2) ∧ w' = w := by
 have HM := kAA h;clear h;go_enter func57, ntmps57
 go_wp2_with (go_at_call 45; refine Calls.mono (HM.out _ (by first | exact Fr.refl _ _ | exact Fr.alloc [] _ _)) ?_; rintro e w' ⟨rfl, hw'⟩; rw [hw']; clear hw' w')
 go_ret
 exact ⟨rfl, rfl⟩
theorem kOK (v : Value) (A : Int) (w : World) (h : NoS w v) : Calls prog 22 #[v, int i64 A] w fun e w' => e = .returned (int i64 2) ∧ w' = w := by
 have HM := kAA h;clear h;go_enter func22, ntmps22
 go_wp2_with (go_at_call 45; refine Calls.mono (HM.out _ (by first | exact Fr.refl _ _ | exact Fr.alloc [] _ _)) ?_; rintro e w' ⟨rfl, hw'⟩; rw [hw']; clear hw' w')
 go_ret
 exact ⟨rfl, rfl⟩
theorem kEg (v : Value) (w : World) (h : NoS w v) : Calls prog 24 #[v] w fun e w' => e = .returned (.tuple #[int i64 0, int i64 0, int i64 2]) ∧ w' = w := by
 have HM := kAA h;clear h;go_enter func24, ntmps24
 go_wp2_with (go_at_call 45; refine Calls.mono (HM.out _ (by first | exact Fr.refl _ _ | exact Fr.alloc [] _ _)) ?_; rintro e w' ⟨rfl, hw'⟩; rw [hw']; clear hw' w')
 refine bodyPost_ret (results_tmp3 rfl _ _ _) rfl ?_;exact ⟨rfl, rfl⟩
theorem kMH (v : Value) (w : World) (h : NoS w v) : Calls prog 26 #[v] w fun e w' => e = .returned (int i64 2) ∧ w' = w := by
 have HM := kAA h;have HC := kAA (kEg v w h);clear h;go_enter func26, ntmps26
 go_wp2_with (go_at_call 24; refine HC.out.mono ?_; rintro e w' ⟨rfl, hw'⟩; rw [hw']; clear hw' w')
 go_ret
 exact ⟨rfl, rfl⟩
theorem kIW (v : Value) (w : World) (h : NoS w v) : Calls prog 65 #[v] w fun e w' => e = .returned (.tuple #[.pointer none, int i64 2]) ∧ w' = w := by
 have HM := kAA h;clear h;go_enter func65, ntmps65
 go_wp2_with (go_at_call 45; refine Calls.mono (HM.out _ (by first | exact Fr.refl _ _ | exact Fr.alloc [] _ _)) ?_; rintro e w' ⟨rfl, hw'⟩; rw [hw']; clear hw' w')
 go_ret2
 exact ⟨rfl, rfl⟩
theorem kLm (v : Value) (w : World) (h : NoS w v) : Calls prog 28 #[v] w fun e w' => e = .returned (int i64 2) ∧ w' = w := by
 have HM := kAA h;have HC := kAA (kIW v w h);clear h;go_enter func28, ntmps28
 go_wp2_with (go_at_call 65; refine HC.out.mono ?_; rintro e w' ⟨rfl, hw'⟩; rw [hw']; clear hw' w')
 go_ret
 exact ⟨rfl, rfl⟩
theorem kIc (v : Value) (w : World) (h : NoS w v) : Calls prog 30 #[v] w fun e w' => e = .returned (int i64 2) ∧ w' = w := by
 have HM := kAA h;have HC := kAA (kIW v w h);clear h;go_enter func30, ntmps30
 go_wp2_with (go_at_call 65; refine HC.out.mono ?_; rintro e w' ⟨rfl, hw'⟩; rw [hw']; clear hw' w')
 go_ret
 exact ⟨rfl, rfl⟩
theorem kON (v : Value) (w : World) (h : NoS w v) : Calls prog 33 #[v] w fun e w' => e = .returned (.tuple #[int i64 0, int i64 0]) ∧ w' = w := by
 have HM := kAA h;clear h;go_enter func33, ntmps33
 go_wp2_with (go_at_call 45; refine Calls.mono (HM.out _ (by first | exact Fr.refl _ _ | exact Fr.alloc [] _ _)) ?_; rintro e w' ⟨rfl, hw'⟩; rw [hw']; clear hw' w')
 go_ret2
 exact ⟨rfl, rfl⟩
theorem kHB (v : Value) (w : World) (h : NoS w v) : Calls prog 35 #[v] w fun e w' => e = .returned (int i64 0) ∧ w' = w := by
 have HM := kAA h;clear h;go_enter func35, ntmps35
 go_wp2_with (go_at_call 45; refine Calls.mono (HM.out _ (by first | exact Fr.refl _ _ | exact Fr.alloc [] _ _)) ?_; rintro e w' ⟨rfl, hw'⟩; rw [hw']; clear hw' w')
 go_ret
 exact ⟨rfl, rfl⟩
theorem kOV (v : Value) (w : World) (h : NoS w v) : Calls prog 38 #[v] w fun e w' => e = .returned (.slice none 0 0) ∧ w' = w := by
 have HM := kAA h;clear h;go_enter func38, ntmps38
 go_wp2_with (go_at_call 45; refine Calls.mono (HM.out _ (by first | exact Fr.refl _ _ | exact Fr.alloc [] _ _)) ?_; rintro e w' ⟨rfl, hw'⟩; rw [hw']; clear hw' w')
 go_ret
 exact ⟨rfl, rfl⟩
theorem nsHeap (v : Value) (w : World) (h : NoS w v) : Calls prog 41 #[v] w fun e w' => e = .returned (.pointer none) ∧ w' = w := by
 have HM := kAA h;clear h;go_enter func41, ntmps41
 go_wp2_with (go_at_call 45; refine Calls.mono (HM.out _ (by first | exact Fr.refl _ _ | exact Fr.alloc [] _ _)) ?_; rintro e w' ⟨rfl, hw'⟩; rw [hw']; clear hw' w')
 go_ret
 exact ⟨rfl, rfl⟩
theorem kPz (X A B : Int) (w : World) : Calls prog 14 #[.pointer none, int i64 X, int i64 A, int i64 B] w fun e w' => e = .returned (.tuple #[int i64 0, int i64 2]) ∧ w' = w := by
 go_enter func14, ntmps14
 go_wp2_with fail
 go_ret2
 exact ⟨rfl, rfl⟩
theorem kKQ (A X : Int) (w : World) : Calls prog 16 #[.pointer none, int i64 A, int i64 X] w fun e w' => e = .returned (int i64 2) ∧ w' = w := by
 go_enter func16, ntmps16
 go_wp2_with fail
 go_ret
 exact ⟨rfl, rfl⟩
theorem kPr (A : Int) (w : World) : Calls prog 18 #[.pointer none, int i64 A] w fun e w' => e = .returned (int i64 2) ∧ w' = w := by
 go_enter func18, ntmps18
 go_wp2_with fail
 go_ret
 exact ⟨rfl, rfl⟩
theorem ndRoot (A : Int) (w : World) : Calls prog 20 #[.pointer none, int i64 A] w fun e w' => e = .returned (.tuple #[int i64 0, int i64 2]) ∧ w' = w := by
 go_enter func20, ntmps20
 go_wp2_with fail
 go_ret2
 exact ⟨rfl, rfl⟩
theorem kOH (ls : Option Addr) (ln lc : Nat) (w : World) : Calls prog 58 #[.pointer none, .slice ls ln lc] w fun e w' => e = .returned (int i64 2) ∧ w' = w := by
 go_enter func58, ntmps58
 go_wp2_with fail
 go_ret
 exact ⟨rfl, rfl⟩
theorem ndDrop (A : Int) (w : World) : Calls prog 23 #[.pointer none, int i64 A] w fun e w' => e = .returned (int i64 2) ∧ w' = w := by
 go_enter func23, ntmps23
 go_wp2_with fail
 go_ret
 exact ⟨rfl, rfl⟩
theorem kLY (w : World) : Calls prog 25 #[.pointer none] w fun e w' => e = .returned (.tuple #[int i64 0, int i64 0, int i64 2]) ∧ w' = w := by
 go_enter func25, ntmps25
 go_wp2_with fail
 refine bodyPost_ret (results_tmp3 rfl _ _ _) rfl ?_;exact ⟨rfl, rfl⟩
theorem kPv (w : World) : Calls prog 27 #[.pointer none] w fun e w' => e = .returned (int i64 2) ∧ w' = w := by
 go_enter func27, ntmps27
 go_wp2_with fail
 go_ret
 exact ⟨rfl, rfl⟩
theorem kPF (w : World) : Calls prog 29 #[.pointer none] w fun e w' => e = .returned (int i64 2) ∧ w' = w := by
 go_enter func29, ntmps29
 go_wp2_with fail
 go_ret
 exact ⟨rfl, rfl⟩
theorem kNV (w : World) : Calls prog 31 #[.pointer none] w fun e w' => e = .returned (int i64 2) ∧ w' = w := by
 go_enter func31, ntmps31
 go_wp2_with fail
 go_ret
 exact ⟨rfl, rfl⟩
theorem ndRoom (w : World) : Calls prog 34 #[.pointer none] w fun e w' => e = .returned (.tuple #[int i64 0, int i64 0]) ∧ w' = w := by
 go_enter func34, ntmps34
 go_wp2_with fail
 go_ret2
 exact ⟨rfl, rfl⟩
theorem kKq (w : World) : Calls prog 36 #[.pointer none] w fun e w' => e = .returned (int i64 0) ∧ w' = w := by
 go_enter func36, ntmps36
 go_wp2_with fail
 go_ret
 exact ⟨rfl, rfl⟩
theorem ndKept (w : World) : Calls prog 39 #[.pointer none] w fun e w' => e = .returned (.slice none 0 0) ∧ w' = w := by
 go_enter func39, ntmps39
 go_wp2_with fail
 go_ret
 exact ⟨rfl, rfl⟩
end Go.Proofs.YtflgicdbbogllaaGreatDoor
