import Derived.Test.YtflgicdbbogllaaGreatDoorPG24YCrn
import Derived.BigRegion
import Derived.Lib.SliceRun
import Derived.Maps.AppendAt
set_option maxHeartbeats 1000000
set_option maxRecDepth 20000
set_option linter.unusedSimpArgs false
set_option linter.unusedVariables false
namespace Go.Proofs.YtflgicdbbogllaaGreatDoor
open Go.RowKit Go.Maps Tryz
open Value (int)
open IntKind (i64)
attribute [local go_sem ↓] wp_at_zero wp_at_succ
variable {S : List Nat} {X : SpS} {a s : Nat} {l : Lay} {st' : List Int} {v' : Value} {w w' : World}
def ob (v : Value) : List Nat := v.ownBlock.toList
theorem kJU {g : Nat} (h : g ∈ [s]) : g = s := by simpa using h
theorem kCG (ss ts : List Int) (v u : Value) (w : World) (B : Nat) (h : w.ownsRow B 41 1 v ss.length (ss.map (int i64))) (hu : Rd w u ts) (hb : ss.length + ts.length ≤ 1099511627776) (hB : B ≤ w.heap.size) :
  ∃ v' w', (Builtin.append_ #[35, 35] 35 #[v, u]).run prog w = .ok v' w' ∧ w'.ownsRow B 41 1 v' (ss ++ ts).length ((ss ++ ts).map (int i64)) ∧ w.grownBy w' v.ownBlock ∧ (v'.ownBlock = v.ownBlock ∨ v'.ownBlock = some w.heap.size) := by
 obtain ⟨p, c, rfl, h1⟩ := hu.at_;obtain ⟨i33, ii, iz, is, ib⟩ := info_parts kCx
 cases p with
 | none =>
  have h0 : ts.length = 0 := by
   rcases Nat.eq_zero_or_pos ts.length with h0 | h0
   ·exact h0
   ·obtain ⟨g, off, e2, _⟩ := h1 h0; cases e2
  have hs : ts = [] := jBT.1 h0;have hc := hu.nil c rfl;subst hs;subst hc;rw [jAz];exact ⟨_, _, run_append_owned_none (P := prog) (w := w) B 35 35 41 i33 1 underlying35 ii _ _ _ h, h, ⟨rfl, rfl, rfl, jAD _, fun _ _ _ => rfl⟩, .inl rfl⟩
 | some ad =>
  have hnews : ∀ j x, (ts.map (int i64))[j]? = some x → w.cell? (ad.add j) = some x := fun j x hx => by
   rw [jAQ] at hx
   cases hz : ts[j]? with
   | none => rw [hz] at hx; simp at hx
   | some z =>
    rw [hz] at hx
    simp at hx
    obtain ⟨hj, hjz⟩ := jAc.1 hz;obtain ⟨g, off, e2, h2, h3⟩ := h1 (by omega);rw [Option.some.inj e2, Addr.add_mid, h3 j hj, jAA, hz, ← hx];rfl
  obtain ⟨v', w', hr, h2, h3, _, h5⟩ := run_append_own_at (P := prog) w B 35 35 41 i33 (int i64 0) 1 8 underlying35 ii iz is ib rfl (by decide) _ _ _ h ad ts.length c (ts.map (int i64)) (by simp) hnews (fun x hx => by obtain ⟨z, _, rfl⟩ := jAZ.1 hx; rfl) (by unfold maxLen; omega) (by omega) hB;refine ⟨v', w', hr, ?_, h3, h5⟩;rw [jAG, jAP];exact h2
theorem kGo (ss : List Int) (v : Value) (w : World) (h : Rd w v ss) (hl : ss.length ≤ 1000000) :
  Calls prog 87 #[v] w fun e w' => ∃ v', e = .returned v' ∧ w'.ownsRow w.heap.size 41 1 v' ss.length (ss.map (int i64)) ∧ Fr [] w w' := by
 have q29 : ∀ (w : World) (a : Option Addr) (n c n' c' : Nat), (binOp .eql 35 (.slice a n c) (.slice none n' c')).run prog w = .ok (.bool a.isNone) w := fun w a n c n' c' => Lib.run_eql_slice_nil w _ _ a n c n' c' underlying35
 obtain ⟨p, c, e, h1⟩ := h.at_
 cases p with
 | none =>
  have h0 : ss.length = 0 := by
   rcases Nat.eq_zero_or_pos ss.length with h0 | h0
   ·exact h0
   ·obtain ⟨g, off, e2, _⟩ := h1 h0; cases e2
  have hs : ss = [] := jBT.1 h0;subst hs;subst e;clear h h1;go_enter func87, ntmps87
  go_wp2
  go_ret
  exact ⟨_, rfl, jAS _ _ _ _, Fr.refl _ _⟩
 | some ad =>
  have F0 : Fr [] w (w.alloc (.cells #[] 41)) := Fr.alloc [] w _;obtain ⟨v', w', hr, ho, hg, -⟩ := kCG [] ss (.slice (some ⟨w.heap.size, 0, none⟩) 0 0) v (w.alloc (.cells #[] 41)) w.heap.size (World.ownsRow_made w #[] 0 (jAD _) (jAH _) rfl) (h.fK F0) (by simp; omega) (by simp);have HF : Hid (Fr [] w w') := kAA (F0.trans (Fr.grown (S := [w.heap.size]) hg (fun k hk => by simp [Value.ownBlock] at hk; simp [hk])) (by simp));rw [jBo] at ho;have HO := kAA ho;have HR := kAA hr;subst e;clear h h1 F0 hg ho hr;go_enter func87, ntmps87
  go_wp2_with (at_builtin; refine Lib.wpList_append_run _ rfl (.tmp 5) (.tmp 6) 35 35 rfl _ _ rfl rfl _ _ HR.out ?_)
  go_ret
  exact ⟨_, rfl, HO.out, HF.out⟩
theorem Spc.rd (h : Spc w s a l X) (hl : X.st.length ≤ 1000000) : Rd w X.sv X.st := kCC h.stk (by omega)
theorem kPU (h : Spc w s a l X) (hl : X.st.length ≤ 1000000) : Calls prog 38 #[.pointer (some ⟨s, 0, none⟩)] w fun e w' => ∃ v', e = .returned v' ∧ w'.ownsRow w.heap.size 41 1 v' X.st.length (X.st.map (int i64)) ∧ Fr [] w w' := by
 have HM := kAA (kAz h);have HS := kAA h;clear h;go_enter func38, ntmps38
 go_wp2_with fail
 refine HM.out.mono ?_;rintro e w1 ⟨rfl, hf⟩;have hs1 := HS.out.fK hf;obtain ⟨-, -, -, -, -, c5, -⟩ := hs1.cells;have HC := kAA (kGo X.st X.sv w1 (hs1.rd hl) hl);have HF := kAA hf;clear hf HM hs1
 go_wp2_with fail
 refine HC.out.mono ?_;rintro e w2 ⟨v', rfl, ho, hf2⟩;have HO : Hid (w2.ownsRow w.heap.size 41 1 v' X.st.length (X.st.map (int i64)) ∧ Fr [] w w2) := ⟨kAV ho HF.out.size, HF.out.trans hf2 (by simp)⟩;clear ho hf2 HC
 go_wp2_with fail
 go_ret
 exact ⟨_, rfl, HO.out.1, HO.out.2⟩
theorem kFZ (k : Int) (w : World) (h1 : 0 ≤ k) (h2 : k ≤ 1000000000) : Calls prog 131 #[int i64 k] w fun e w' => e = .returned (int i64 (4 * k)) ∧ w' = w := by
 go_enter func131, ntmps131
 go_wp2
 go_ret
 exact ⟨rfl, rfl⟩
theorem kGu (k : Int) (w : World) (h1 : 1 ≤ k) (h2 : k ≤ 65536) : Calls prog 91 #[int i64 k] w fun e w' => e = .returned (.tuple #[int i64 (4 * k), int i64 0]) ∧ w' = w := by
 have HO := kAA (kFZ k w (by omega) (by omega));go_enter func91, ntmps91
 go_wp2_with (go_at_call 131; refine HO.out.mono ?_; rintro e w' ⟨rfl, hw'⟩; rw [hw']; clear hw' w')
 go_ret2
 exact ⟨rfl, rfl⟩
theorem kHi (w : World) : Calls prog 91 #[int i64 0] w fun e w' => e = .returned (.tuple #[int i64 0, int i64 1]) ∧ w' = w := by
 go_enter func91, ntmps91
 go_wp2_with fail
 go_ret2
 exact ⟨rfl, rfl⟩
theorem kMA (z : Int) (w : World) (hT : Tab w) : Calls prog 110 #[int i64 z] w fun e w' => e = .returned (.bool (decide (kAJ z = 0))) ∧ w' = w := by
 have HK := kAA (kEO z w hT);generalize kAJ z = k at *
 by_cases h : k = 0
 ·subst h;clear hT;go_enter func110, ntmps110
  go_wp2_with (go_at_call 132; refine HK.out.mono ?_; rintro e w' ⟨rfl, hw'⟩; rw [hw']; clear hw' w')
  go_ret
  exact ⟨rfl, rfl⟩
 ·have hb : (k == 0) = false := by simpa using h
  have hd : Hid (decide (k = 0) = false) := decide_eq_false h;clear hT h;go_enter func110, ntmps110
  go_wp2_with (go_at_call 132; refine HK.out.mono ?_; rintro e w' ⟨rfl, hw'⟩; rw [hw']; clear hw' w')
  go_ret
  exact ⟨by rw [hd.out]; rfl, rfl⟩
def badW (ss : List Int) : Bool := ss.any fun z => decide (kAJ z = 0)
theorem kHJ (ss : List Int) (va : Value) (w : World) (ha : Rd w va ss) (hT : Tab w) :
  Calls prog 140 #[va, .func (.func 110) #[] #[]] w fun e w' => ∃ n : Int, e = .returned (int i64 n) ∧ (decide (0 ≤ n) = badW ss) ∧ w' = w := by
 obtain ⟨pa, ca, rfl, hpa⟩ := ha.at_;have hl := ha.short;have HA := kAA hpa;have HT := kAA hT;clear ha hpa hT;go_enter func140, ntmps140
 go_wp2_with fail
 go_loopw [8] (fun q wr => ∃ k : Nat, k ≤ ss.length ∧ q = int i64 k ∧ wr = w ∧ Hid (∀ z ∈ ss.take k, kAJ z ≠ 0)) (fun q _ => ss.length - (intOf q).toNat)
 case atStart => exact ⟨0, jAH _, rfl, rfl, kAA (by simp)⟩
 case round =>
  obtain ⟨k, hkn, rfl, rfl, HZ⟩ := hrel
  by_cases hlt : k < ss.length
  ·obtain ⟨ga, oa, rfl, -, hca⟩ := HA.out (by omega);have x1 := hca k hlt;have k1 := ng k;have k2 : (k : Int) < ss.length := by omega
   have HK := kAA (kMA (ss.getD k 0) wr HT.out)
   have HT1 : Hid (ss.take (k + 1) = ss.take k ++ [ss.getD k 0]) := by
    show ss.take (k + 1) = ss.take k ++ [ss.getD k 0];rw [jAO hlt, jAA, jAB hlt]; rfl
   have HM : Hid (ss.getD k 0 ∈ ss) := by
    show ss.getD k 0 ∈ ss;rw [jAA, jAB hlt]; exact jAT _
   clear hca HA;generalize ss.getD k 0 = z at *
   by_cases he : kAJ z = 0
   ·rw [decide_eq_true he] at HK;have HB : Hid (badW ss = true) := jBd.2 ⟨z, HM.out, decide_eq_true he⟩;clear HM HT1 HZ he
    go_wp2_with (go_at_call 110; refine HK.out.mono ?_; rintro e w' ⟨rfl, hw'⟩; rw [hw']; clear hw' w')
    go_ret
    exact ⟨_, rfl, by rw [HB.out]; exact decide_eq_true (by omega), rfl⟩
   ·rw [decide_eq_false he] at HK
    have HN : Hid (∀ y ∈ ss.take (k + 1), kAJ y ≠ 0) := by
     show ∀ y ∈ ss.take (k + 1), kAJ y ≠ 0
     intro y hy;rw [HT1.out] at hy;rcases jAC.1 hy with h1 | h1
     ·exact HZ.out y h1
     ·have : y = z := by simpa using h1
      rw [this]; exact he
    clear HM HT1 HZ he
    go_wp2_with (go_at_call 110; refine HK.out.mono ?_; rintro e w' ⟨rfl, hw'⟩; rw [hw']; clear hw' w')
    go_roundw
    case rel => exact ⟨k + 1, by omega, by go_num, trivial, HN⟩
    case measure => simp [intOf]; omega
  ·have hke : k = ss.length := by omega
   subst hke
   have HB : Hid (badW ss = false) := List.any_eq_false.2 fun z hz => by
    have := HZ.out;rw [jAV] at this
    simpa using this z hz
   clear HZ
   go_wp2_with fail
   go_ret
   exact ⟨_, rfl, by rw [HB.out]; exact decide_eq_false (by omega), rfl⟩
theorem kEy (ss : List Int) (va : Value) (w : World) (ha : Rd w va ss) (hT : Tab w) :
  Calls prog 109 #[va, .func (.func 110) #[] #[]] w fun e w' => e = .returned (.bool (badW ss)) ∧ w' = w := by
 have HI := kAA (kHJ ss va w ha hT);obtain ⟨pa, ca, rfl, -⟩ := ha.at_;clear ha hT;go_enter func109, ntmps109
 go_wp2_with fail
 refine HI.out.mono ?_;rintro e w1 ⟨n, rfl, hn, rfl⟩;have HN := kAA hn;clear hn HI
 by_cases h0 : 0 ≤ n
 ·have HB : Hid (badW ss = true) := by show badW ss = true; rw [← HN.out]; exact decide_eq_true h0
  go_wp2_with fail
  go_ret
  exact ⟨by rw [HB.out]; rfl, rfl⟩
 ·have HB : Hid (badW ss = false) := by show badW ss = false; rw [← HN.out]; exact decide_eq_false h0
  have hd : decide (0 ≤ n) = false := decide_eq_false h0;have h1 : n < 0 := by omega
  go_wp2_with fail
  go_ret
  exact ⟨by rw [HB.out]; rfl, rfl⟩
theorem kKJ (h : Spc w s a l X) (ss : List Int) (va : Value) (hr : Rd w va ss) (hT : Tab w) (hT0 : 0 < w.heap.size) (hl : X.st.length ≤ 65536) (E : Int) (hE : (badW ss = true ∧ E = 10) ∨ (badW ss = false ∧ 65536 < X.st.length + ss.length ∧ E = 22)) :
  Calls prog 57 #[.pointer (some ⟨s, 0, none⟩), va] w fun e w' => e = .returned (int i64 E) ∧ Fr [] w w' := by
 have HM := kAA (kAz h);have HS := kAA h;have HT : Hid (∀ V, Fr [] w V → Tab V) := fun V hV => hT.fr hV hT0
 have HR := kAA hr;have hsh := hr.short;obtain ⟨pa, ca, rfl, -⟩ := hr.at_;clear h hT hT0 hr;go_enter func57, ntmps57
 go_wp2_with fail
 refine HM.out.mono ?_;rintro e w1 ⟨rfl, hf⟩;have hs1 := HS.out.fK hf;obtain ⟨-, -, -, -, -, c5, -⟩ := hs1.cells;obtain ⟨p, c, hv⟩ := kAv hs1.stk;rw [hv] at c5;have HC := kAA (kEy ss _ w1 (HR.out.fK hf) (HT.out w1 hf));have HF := kAA hf;clear hs1 hf HM hv;rcases hE with ⟨hb, rfl⟩ | ⟨hb, hg, rfl⟩
 ·rw [hb] at HC;clear hb
  go_wp2_with (go_at_call 109; refine HC.out.mono ?_; rintro e w' ⟨rfl, hw'⟩; rw [hw']; clear hw' w')
  go_ret
  exact ⟨rfl, HF.out⟩
 ·rw [hb] at HC;have hg : (65536 : Int) < (X.st.length : Int) + (ss.length : Int) := by omega
  clear hb
  go_wp2_with (go_at_call 109; refine HC.out.mono ?_; rintro e w' ⟨rfl, hw'⟩; rw [hw']; clear hw' w')
  go_ret
  exact ⟨rfl, HF.out⟩
theorem Spc.stack {w1 : World} (h : Spc w s a l X) (ho : w1.ownsRow 0 41 1 v' st'.length (st'.map (int i64))) (hf : Fr S w w1) (hS : ∀ b ∈ S, X.sv.ownBlock = some b) (hn : ∀ g, v'.ownBlock = some g → X.sv.ownBlock = some g ∨ w.heap.size ≤ g) (hw : w' = w1.setCell ⟨s, 5, none⟩ v') : Spc w' s a l { X with sv := v', st := st' } ∧ Fr (s :: S) w w' := by
 have hsn : s ∉ S := fun hm => (h.sepV s (hS s hm)).2 rfl
 have ht := (hf.block s (kAB h.top) hsn).trans h.top;have f2 : Fr [s] w1 w' := by rw [hw]; exact Fr.setCell (S := [s]) w1 ⟨s, 5, none⟩ _ (by simp)
 have F : Fr (s :: S) w w' := (hf.mono (fun b hb => .inl (by simp [hb]))).trans f2 (fun b hb => .inl (by have e : b = s := (by simpa using hb); rw [e]; simp))
 have hd : ∀ g ∈ foot a l, g ∉ s :: S := fun g hg hm => by
  rcases jAF.1 hm with e | hm
  ·rw [e] at hg; exact h.sepS hg
  ·exact (h.sepV g (hS g hm)).1 hg
 have hv' : ∀ g, v'.ownBlock = some g → g ∉ foot a l ∧ g ≠ s := fun g hg => by
  rcases hn g hg with h1 | h1
  ·exact h.sepV g h1
  ·refine ⟨fun hm => ?_, fun e => ?_⟩
   ·have := h.rep.lt g hm; omega
   ·have := kAB h.top; omega
 refine ⟨⟨?_, h.rep.keep F hd, h.inv, ?_, h.sepS, hv', fun b hb => ?_⟩, F⟩
 ·rw [hw, kAI ht 5 _]; rfl
 ·refine kAE ho fun g hg => f2.block g (ho.lt g hg).2 ?_
  have := (hv' g hg).2
  simpa using this
 ·obtain ⟨h1, h2, h3, h4⟩ := h.bk b hb;have hlt := kAB h1;refine ⟨(F.block b.g hlt fun hm => ?_).trans h1, h2, h3, fun e => ?_⟩
  ·rcases jAF.1 hm with e | hm
   ·exact h3 e
   ·exact h4 (hS _ hm)
  ·rcases hn b.g e with q | q
   ·exact h4 q
   ·omega
theorem kPX (h : Spc w s a l X) (ss : List Int) (va : Value) (hr : Rd w va ss) (hT : Tab w) (hT0 : 0 < w.heap.size) (hb : badW ss = false) (hc : X.st.length + ss.length ≤ 65536) :
  Calls prog 57 #[.pointer (some ⟨s, 0, none⟩), va] w fun e w' => e = .returned (int i64 0) ∧ ∃ v', Spc w' s a l { X with sv := v', st := X.st ++ ss } ∧ Fr (s :: ob X.sv) w w' ∧ (∀ g, v'.ownBlock = some g → X.sv.ownBlock = some g ∨ w.heap.size ≤ g) := by
 have HM := kAA (kAz h);have HS := kAA h;have HT : Hid (∀ V, Fr [] w V → Tab V) := fun V hV => hT.fr hV hT0
 have HR := kAA hr;obtain ⟨pa, ca, rfl, -⟩ := hr.at_;clear h hT hT0 hr;go_enter func57, ntmps57
 go_wp2_with fail
 refine HM.out.mono ?_;rintro e w1 ⟨rfl, hf⟩;have hs1 := HS.out.fK hf;obtain ⟨-, -, -, -, -, c5, -⟩ := hs1.cells;have fz := kAD hs1.top 5;obtain ⟨p, c, hv⟩ := kAv hs1.stk;have HC := kAA (kEy ss _ w1 (HR.out.fK hf) (HT.out w1 hf));rw [hb] at HC;obtain ⟨v', w2, hrun, hown, hgrow, hblk⟩ := kCG X.st ss X.sv (.slice pa ss.length ca) w1 0 hs1.stk (HR.out.fK hf) (by omega) (by omega);have hne : ∀ g, X.sv.ownBlock = some g → g ≠ s := fun g hg => (hs1.sepV g hg).2
 have F12 : Fr (ob X.sv) w1 w2 := Fr.grown (S := ob X.sv) hgrow (fun k hk => by unfold ob; rw [hk]; simp);have hsb : s ∉ ob X.sv := fun hm => hne s (by simpa [ob] using hm) rfl
 have c5' : w2.cell? ⟨s, 5, none⟩ = some X.sv := (F12.cell (p := ⟨s, 5, none⟩) (kAB hs1.top) hsb).trans c5;have fz' : w2.frozen? ⟨s, 5, none⟩ = false := (F12.frozen (p := ⟨s, 5, none⟩) (kAB hs1.top) hsb).trans fz
 have hn1 : ∀ g, v'.ownBlock = some g → X.sv.ownBlock = some g ∨ w1.heap.size ≤ g := fun g hg => by
  rcases hblk with e | e
  ·exact .inl (by rw [← e]; exact hg)
  ·rw [e] at hg; injection hg with e2; right; omega
 have HZ : Hid (Spc (w2.setCell ⟨s, 5, none⟩ v') s a l { X with sv := v', st := X.st ++ ss } ∧ Fr (s :: ob X.sv) w (w2.setCell ⟨s, 5, none⟩ v') ∧ (∀ g, v'.ownBlock = some g → X.sv.ownBlock = some g ∨ w.heap.size ≤ g)) := by
  obtain ⟨z1, z2⟩ := hs1.stack hown F12 (fun b hb => by simpa [ob] using hb) hn1 rfl;refine ⟨z1, (hf.mono (by simp)).trans z2 (fun b hb => .inl hb), fun g hg => ?_⟩;rcases hn1 g hg with h1 | h1
  ·exact .inl h1
  ·have := hf.size; right; omega
 obtain ⟨p', c', hv'⟩ := kAv hown;have HRun := kAA hrun;rw [hv'] at HRun HZ;rw [jAG] at HRun HZ;rw [hv] at c5 c5' HRun;clear hs1 hf HM hv F12 hgrow hown hblk hne hsb hn1 hrun hv' HR HT
 go_wp2_with (first | (go_at_call 109; refine HC.out.mono ?_; rintro e w' ⟨rfl, hw'⟩; rw [hw']; clear hw' w') | (at_builtin; refine Lib.wpList_append_run _ rfl (.tmp 23) (.tmp 24) 35 35 rfl _ _ rfl rfl _ _ HRun.out ?_) | go_in)
 go_ret
 exact ⟨rfl, _, HZ.out⟩
theorem kPI (h : Spc w s a l X) (n : Nat) (hn : n ≤ X.st.length) (hl : X.st.length ≤ 65536) : Calls prog 22 #[.pointer (some ⟨s, 0, none⟩), int i64 n] w fun e w' => e = .returned (int i64 0) ∧ ∃ v', Spc w' s a l { X with sv := v', st := X.st.take (X.st.length - n) } ∧ Fr [s] w w' ∧ (∀ g, v'.ownBlock = some g → X.sv.ownBlock = some g) := by
 have HM := kAA (kAz h);have HS := kAA h;clear h;go_enter func22, ntmps22
 go_wp2_with fail
 refine HM.out.mono ?_;rintro e w1 ⟨rfl, hf⟩;have hs1 := HS.out.fK hf;obtain ⟨-, -, -, -, -, c5, -⟩ := hs1.cells;have fz := kAD hs1.top 5;obtain ⟨p, c, hv⟩ := kAv hs1.stk
 have hcap : X.st.length ≤ c := by
  have := hs1.stk.2;rw [hv] at this;rcases this with ⟨h2, h3⟩ | ⟨g, cap, cur, h2, h3, h4, h5, h6⟩
  ·injection h2 with e1 e2 e3; omega
  ·injection h2 with e1 e2 e3; omega
 have hcm : (c : Int) ≤ 9223372036854775807 := by
  have := hs1.stk.2;rw [hv] at this;rcases this with ⟨h2, h3⟩ | ⟨g, cap, cur, h2, h3, h4, h5, h6, h7⟩
  ·injection h2 with e1 e2 e3; omega
  ·injection h2 with e1 e2 e3; unfold maxLen at h6; omega
 have hown : w1.ownsRow 0 41 1 (.slice p (X.st.length - n) c) (X.st.take (X.st.length - n)).length ((X.st.take (X.st.length - n)).map (int i64)) := by
  have := hs1.stk;rw [hv] at this;have h2 := kDx this (k := X.st.length - n) (by omega);rw [jBS, jAk, jBK (by omega)];exact h2
 have HZ : Hid (∀ V, V.heap = (w1.setCell ⟨s, 5, none⟩ (.slice p (X.st.length - n) c)).heap → Fr [] (w1.setCell ⟨s, 5, none⟩ (.slice p (X.st.length - n) c)) V → Spc V s a l { X with sv := .slice p (X.st.length - n) c, st := X.st.take (X.st.length - n) } ∧ Fr [s] w V) := fun V hV hfV => by
  obtain ⟨z1, z2⟩ := hs1.stack (S := []) hown (Fr.refl _ _) (by simp) (fun g hg => .inl (by rw [hv]; cases p with | none => simp [Value.ownBlock] at hg | some q => exact hg)) rfl;exact ⟨z1.fK hfV, ((hf.mono (by simp)).trans z2 (fun b hb => .inl hb)).trans hfV (by simp)⟩
 have HB : Hid (∀ g, (Value.slice p (X.st.length - n) c).ownBlock = some g → X.sv.ownBlock = some g) := fun g hg => by rw [hv]; cases p with | none => simp [Value.ownBlock] at hg | some q => exact hg
 rw [hv] at c5;have n1 : ¬ (n : Int) < 0 := by omega
 have n2 : (n : Int) ≤ X.st.length := by omega
 have n3 : ((X.st.length - n : Nat) : Int) = (X.st.length : Int) - (n : Int) := by omega
 have n4 : (X.st.length : Int) - (n : Int) ≤ c := by omega
 have n5 : 0 ≤ (X.st.length : Int) - (n : Int) := by omega
 clear hs1 hf HM hv hown
 go_wp2_with fail
 go_region
 go_wp2_with fail
 go_ret
 obtain ⟨z1, z2⟩ := HZ.out (w1.setCell ⟨s, 5, none⟩ (.slice p (X.st.length - n) c)).drew rfl (Fr.drew [] _);exact ⟨rfl, _, z1, z2, HB.out⟩
theorem kKn (h : Spc w s a l X) : Calls prog 30 #[.pointer (some ⟨s, 0, none⟩)] w fun e w' =>
  (X.br = none ∧ e = .returned (int i64 25) ∧ Fr [] w w') ∨ (X.br ≠ none ∧ e = .returned (int i64 0) ∧ Spc w' s a l { X with br := none } ∧ Fr [s] w w') := by
 have HC := kAA (kEf h);clear h;go_enter func30, ntmps30
 go_wp2_with fail
 refine HC.out.mono ?_;rintro e w1 (⟨h1, rfl, h2⟩ | ⟨b, h1, rfl, h2, h3⟩)
 ·have H1 := kAA (And.intro h1 h2);clear h1 h2 HC
  go_wp2_with fail
  go_ret
  exact .inl ⟨H1.out.1, rfl, H1.out.2⟩
 ·have H1 := kAA (And.intro h1 (And.intro h2 h3));clear h1 h2 h3 HC
  go_wp2_with fail
  go_ret
  exact .inr ⟨by rw [H1.out.1]; simp, rfl, H1.out.2.1, H1.out.2.2⟩
theorem kOr (h : Spc w s a l X) (n : Int) (hn : n < 0 ∨ (X.st.length : Int) < n) : Calls prog 22 #[.pointer (some ⟨s, 0, none⟩), int i64 n] w fun e w' => e = .returned (int i64 28) ∧ Fr [] w w' := by
 have HM := kAA (kAz h);have HS := kAA h;clear h;go_enter func22, ntmps22
 go_wp2_with fail
 refine HM.out.mono ?_;rintro e w1 ⟨rfl, hf⟩;have hs1 := HS.out.fK hf;obtain ⟨-, -, -, -, -, c5, -⟩ := hs1.cells;obtain ⟨p, c, hv⟩ := kAv hs1.stk;rw [hv] at c5;have HF := kAA hf;clear hs1 hf HM hv;rcases hn with hn | hn
 ·go_wp2_with fail
  go_ret
  exact ⟨rfl, HF.out⟩
 ·have h0 : ¬ n < 0 := by omega
  go_wp2_with fail
  go_ret
  exact ⟨rfl, HF.out⟩
def kpE (st ss : List Int) : Int := if badW ss = true then 10 else if 65536 < st.length + ss.length then 22 else 0
def kpS (st ss : List Int) : List Int := if kpE st ss = 0 then st ++ ss else st
theorem PS.stk (h : Spc w' s a l { X with sv := v', st := st' }) (hf : Fr (s :: S) w w') (hS : ∀ b ∈ S, X.sv.ownBlock = some b) (hn : ∀ g, v'.ownBlock = some g → X.sv.ownBlock = some g ∨ w.heap.size ≤ g) : PS s a l X w l { X with sv := v', st := st' } w' := by
 refine ⟨h, hf.mono fun g hg => ?_, fun g hg => ?_⟩
 ·rcases jAF.1 hg with e | e
  ·exact .inl (kAT.2 (.inl e))
  ·exact .inl (kAT.2 (.inr (.inl (hS g e))))
 ·rcases kAT.1 hg with e | e | e | e
  ·exact .inl (kAT.2 (.inl e))
  ·rcases hn g e with q | q
   ·exact .inl (kAT.2 (.inr (.inl q)))
   ·exact .inr q
  ·exact .inl (kAT.2 (.inr (.inr (.inl e))))
  ·exact .inl (kAT.2 (.inr (.inr (.inr e))))
theorem kGn (h : Spc w s a l X) (ss : List Int) (va : Value) (hr : Rd w va ss) (hT : Tab w) (hT0 : 0 < w.heap.size) (hl : X.st.length ≤ 65536) :
  Calls prog 57 #[.pointer (some ⟨s, 0, none⟩), va] w fun e w' => e = .returned (int i64 (kpE X.st ss)) ∧ PO s a l X 0 false X.M X.fN (kpS X.st ss) w w' := by
 unfold kpS
 by_cases hb : badW ss = true
 ·have e : kpE X.st ss = 10 := jp hb;rw [e];exact (kKJ h ss va hr hT hT0 hl 10 (.inl ⟨hb, rfl⟩)).mono fun e w' ⟨h1, h2⟩ => ⟨h1, PO.fK h h2⟩
 ·have hb2 : badW ss = false := by simpa using hb
  by_cases hg : 65536 < X.st.length + ss.length
  ·have e : kpE X.st ss = 22 := by unfold kpE; rw [jn hb, jp hg]
   rw [e];exact (kKJ h ss va hr hT hT0 hl 22 (.inr ⟨hb2, hg, rfl⟩)).mono fun e w' ⟨h1, h2⟩ => ⟨h1, PO.fK h h2⟩
  ·have e : kpE X.st ss = 0 := by unfold kpE; rw [jn hb, jn hg]
   rw [e];refine (kPX h ss va hr hT hT0 hb2 (by omega)).mono ?_;rintro e w' ⟨rfl, v', h1, h2, h3⟩;exact ⟨rfl, l, _, PS.stk h1 h2 (fun b hb => by simpa [ob] using hb) h3, rfl, rfl, rfl, rfl, Old.refl _⟩
def dpE (st : List Int) (n : Int) : Int := if n < 0 ∨ (st.length : Int) < n then 28 else 0
def dpS (st : List Int) (n : Int) : List Int := if dpE st n = 0 then st.take (st.length - n.toNat) else st
theorem kLK (h : Spc w s a l X) (n : Int) (hl : X.st.length ≤ 65536) :
  Calls prog 22 #[.pointer (some ⟨s, 0, none⟩), int i64 n] w fun e w' => e = .returned (int i64 (dpE X.st n)) ∧ PO s a l X 0 false X.M X.fN (dpS X.st n) w w' := by
 unfold dpS
 by_cases hn : n < 0 ∨ (X.st.length : Int) < n
 ·have e : dpE X.st n = 28 := jp hn;rw [e];exact (kOr h n hn).mono fun e w' ⟨h1, h2⟩ => ⟨h1, PO.fK h h2⟩
 ·have e : dpE X.st n = 0 := jn hn;rw [e];obtain ⟨k, rfl⟩ : ∃ k : Nat, n = k := ⟨n.toNat, by omega⟩
  refine (kPI h k (by omega) hl).mono ?_;rintro e w' ⟨rfl, v', h1, h2, h3⟩;exact ⟨rfl, l, _, PS.stk (S := []) h1 h2 (by simp) (fun g hg => .inl (h3 g hg)), rfl, rfl, rfl, rfl, Old.refl _⟩
theorem kHV (h : Spc w s a l X) : Calls prog 30 #[.pointer (some ⟨s, 0, none⟩)] w fun e w' =>
  e = .returned (int i64 (if X.br = none then 25 else 0)) ∧ PO s a l X 3 false X.M X.fN X.st w w' := by
 refine (kKn h).mono ?_;rintro e w' (⟨h1, rfl, h2⟩ | ⟨h1, rfl, h2, h3⟩)
 ·exact ⟨by rw [jp h1], l, X, PS.fK h h2, rfl, rfl, rfl, h1, by omega⟩
 ·exact ⟨by rw [jn h1], l, _, PS.own h2 h3 rfl (.inr rfl), rfl, rfl, rfl, rfl, Nat.le_add_right _ _⟩
end Go.Proofs.YtflgicdbbogllaaGreatDoor
namespace Go.Proofs.YtflgicdbbogllaaGreatDoor
open Go.RowKit Tryz
open Value (int)
open IntKind (i64)
attribute [local go_sem ↓] wp_at_zero wp_at_succ
variable {H : HS} {M : MS} {R : RS} {q : Nat} {roots : List Int} {rs : List Nat}
def kEj (M : MS) (z : Int) : Bool := decide (kAJ z = 3) && mhas M (z / 4)
theorem kFg (hi : Inv H M) (z : Int) : kAi H z = kEj M z := by
 unfold kAi kEj;rw [hi.hasM]
def kQA (M : MS) (roots : List Int) (q : Nat) : Prop := ∀ X : Nat → Prop, (∀ z ∈ roots, kEj M z = true → X (z / 4).toNat) → (∀ q, X q → ∀ z ∈ lk M q, kEj M z = true → X (z / 4).toNat) → X q
open Classical in
noncomputable def livM (M : MS) (roots : List Int) : List Nat := (allM M).filter fun q => decide (kQA M roots q)
theorem kMX (hi : Inv H M) (h : Sr H M roots (rs, [])) (q : Nat) : q ∈ rs ↔ kQA M roots q := by
 constructor
 ·intro hq X h1 h2;exact h.least X ⟨fun z hz hn => h1 z hz (by rw [← kFg hi]; exact hn), fun p hp z hz hn => h2 p hp z hz (by rw [← kFg hi]; exact hn)⟩ q hq
 ·intro hL;refine hL (fun q => q ∈ rs) (fun z hz hn => h.fN z hz (by rw [kFg hi]; exact hn)) (fun p hp z hz hn => ?_);rcases h.on p hp with h1 | h1
  ·cases h1
  ·exact h1 z hz (by rw [kFg hi]; exact hn)
open Classical in
theorem kIb (hi : Inv H M) (h : Sr H M roots (rs, [])) : kKH H rs = livM M roots := by
 unfold kKH livM;rw [hi.allM];refine List.filter_congr fun q hq => ?_
 rw [jBZ, decide_eq_true_eq, decide_eq_true_eq];exact kMX hi h q
open Classical in
theorem kJB {r1 r2 : List Int} (h : ∀ z, kEj M z = true → (z ∈ r1 ↔ z ∈ r2)) : livM M r1 = livM M r2 := by
 unfold livM;refine List.filter_congr fun q hq => ?_
 rw [jBZ, decide_eq_true_eq, decide_eq_true_eq];unfold kQA;constructor
 ·intro hL X h1 h2;exact hL X (fun z hz hn => h1 z ((h z hn).1 hz) hn) h2
 ·intro hL X h1 h2;exact hL X (fun z hz hn => h1 z ((h z hn).2 hz) hn) h2
theorem kPP (h : q ∈ livM M roots) : 1 ≤ q ∧ (M.fA.getD (q - 1) noTh).fI = true := kEZ.1 (jBV.1 h).1
theorem kES (h : q ∈ livM M roots) : mhas M (q : Int) = true := by
 obtain ⟨h1, h2⟩ := kPP h;have := kDu (M := M) (q - 1) (kAs h2) h2;rw [show ((q - 1 : Nat) : Int) + 1 = (q : Int) from by omega] at this;exact this
theorem kET (M : MS) (roots : List Int) : (zs (livM M roots)).all (mhas M) = true := by
 rw [jBR]
 intro z hz;obtain ⟨q, h1, rfl⟩ := mem_zs.1 hz;exact kES h1
theorem kOE (M : MS) : (allM M).length ≤ M.fA.length + 1 := by
 unfold allM;have := jBH (fun o => decide (1 ≤ o) && (M.fA.getD (o - 1) noTh).fI) (List.range (M.fA.length + 1));rw [List.length_range] at this;exact this
theorem kEb (M : MS) (roots : List Int) : (livM M roots).length ≤ M.fA.length + 1 := jAU (jBH _ _) (kOE M)
theorem kCk (l : List Nat) : (zs l).length = l.length := jAR _
noncomputable def colN (M : MS) (roots : List Int) : MS := kCq M (zs (livM M roots))
theorem kPm (M : MS) (roots : List Int) : (colN M roots).fH = M.fH ∧ (colN M roots).fM = M.fM := by
 unfold colN kCq
 split <;> exact ⟨rfl, rfl⟩
noncomputable def colA (M : MS) (roots : List Int) : Int × Int × Int := kDi M (zs (livM M roots))
theorem kLC (M : MS) (roots : List Int) : (colA M roots).2.2 = 0 := by
 unfold colA kDi;rw [jp (kET M roots)]
theorem kLP (ks : List Nat) : (zs ks).map (int i64) = ks.map I := by unfold zs; rw [jAa]; rfl
theorem Inv.things_le (hi : Inv H M) : M.fA.length ≤ 65538 := by
 have := hi.model.len;omega
theorem Inv.col (hi : Inv H M) (roots : List Int) (ha : H.age ≤ 1000000000) : ∃ G, Inv G (colN M roots) ∧ G.age ≤ H.age + 1 := by
 obtain ⟨h1, h2⟩ := hi.keep (livM M roots) (fun j hj => kES hj) ha
 have e : colN M roots = { M with fA := kDf M.fA (livM M roots) } := by
  unfold colN kCq;rw [jp (kET M roots)];unfold zs;rw [kCn]
 rw [e];exact ⟨_, h2, by unfold kFf; first | exact jAD _ | (show _ ≤ _; simp)⟩
section
variable {H : HS} {M : MS}
theorem kMB (a : Nat) (l : Lay) (p : Option Addr) (c : Nat) (roots : List Int) (w : World) (h : Rep w a l H) (hi : Inv H M) (hT : Tab w) (hr : Rd w (.slice p roots.length c) roots) :
  Calls prog 81 #[.pointer (some ⟨a, 0, none⟩), .slice p roots.length c] w fun e w' => ∃ pv cv, e = .returned (.tuple #[.slice pv (livM M roots).length cv, int i64 0]) ∧ w'.ownsRow w.heap.size 3 1 (.slice pv (livM M roots).length cv) (livM M roots).length ((livM M roots).map I) ∧ Fr [] w w' := by
 refine (kNY a l H M p c roots w h hi hT hr).mono ?_;rintro e w' ⟨v, rfl, rs, h1, h2, h3⟩;have e2 : ((kAq H H.fD.length).filter fun x => decide (x ∈ rs)) = livM M roots := kIb hi h1;rw [e2] at h2;obtain ⟨pv, cv, rfl⟩ := kAv h2;exact ⟨pv, cv, rfl, h2, h3⟩
theorem pRun (a : Nat) (l : Lay) (p : Option Addr) (c : Nat) (roots : List Int) (w : World) (h : Rep w a l H) (hi : Inv H M) (hT : Tab w) (hr : Rd w (.slice p roots.length c) roots) (hage : H.age ≤ 1000000000) :
  Calls prog 59 #[.pointer (some ⟨a, 0, none⟩), .slice p roots.length c] w fun e w' => e = .returned (.tuple #[int i64 (colA M roots).1, int i64 (colA M roots).2.1, int i64 0]) ∧ PN true a l H (colN M roots) w w' := by
 have HRe := kAA (kMB a l p c roots w h hi hT hr)
 have HK : Hid (∀ w2 pv cv, Fr [] w w2 → w2.ownsRow w.heap.size 3 1 (.slice pv (livM M roots).length cv) (livM M roots).length ((livM M roots).map I) → Calls prog 111 #[.pointer (some ⟨a, 0, none⟩), .slice pv (livM M roots).length cv] w2 fun e w' => e = .returned (.tuple #[int i64 (colA M roots).1, int i64 (colA M roots).2.1, int i64 0]) ∧ PN true a l H (colN M roots) w w') := fun w2 pv cv hf ho => by
  have hlb := kEb M roots;have hth := hi.things_le
  have := pKeep (zs (livM M roots)) pv cv a l H M w2 (h.keep hf (by simp)) hi hage (fun j hj => by
   obtain ⟨p2, c2, e2, h2⟩ := kCZ (ss := zs (livM M roots)) (by rw [kCk, kLP]; exact ho);rw [kCk] at e2
   injection e2 with e3 e4 e5
   subst e3;obtain ⟨g, e6, h3⟩ := h2 (by omega);subst e6;have hg := ho.lt g rfl;refine ⟨g, rfl, hg.2, fun hm => ?_, h3 j hj⟩;have := h.lt g hm;omega) (by rw [kCk]; omega)
  rw [kET, kCk] at this;have ea := kLC M roots;unfold colA at ea ⊢;rw [ea] at this;refine this.mono ?_;rintro e w' ⟨rfl, l', H', q1, q2, q3, q4⟩
  exact ⟨rfl, l', H', q1, q2, ⟨(hf.mono (by simp)).trans q3.1 (fun b hb => .inl hb), fun b hb => by
   rcases q3.2 b hb with q | q
   ·exact .inl q
   ·right; have := hf.size; omega⟩, q4⟩
 clear h hi hT hr;generalize (livM M roots).length = n at *;generalize (colA M roots).1 = x at *;generalize (colA M roots).2.1 = y at *;go_enter func59, ntmps59
 go_wp2_with fail
 refine HRe.out.mono ?_;rintro e w2 ⟨pv, cv, rfl, ho, hf⟩;have HK2 := kAA (HK.out w2 pv cv hf ho);clear HRe HK ho hf
 go_wp2_with fail
 refine HK2.out.mono ?_;rintro e w3 ⟨rfl, hp⟩;have HP := kAA hp;clear hp HK2
 go_wp2_with fail
 refine bodyPost_ret (results_tmp3 rfl _ _ _) rfl ?_;exact ⟨rfl, HP.out⟩
theorem Doc.tw (hi : Inv H M) (hd : Doc M R) : Tw H M R := by
 refine ⟨fun z => ?_, fun k hk => ?_⟩
 ·rw [hi.hasM, hd.no]
  cases mhas M z <;> simp
 ·obtain ⟨h1, h2, h3⟩ := hd.is (q := ((R.fE.getD k noRO).oop : Int)) (k := k) ⟨hk, rfl⟩;rw [show (((R.fE.getD k noRO).oop : Nat) : Int).toNat = (R.fE.getD k noRO).oop from by omega] at h3;obtain ⟨-, e2, -, e4, e5⟩ := kAg h3;unfold lk kBy;rw [e2, e4, e5]
theorem Doc.uniq (hd : Doc M R) : ∀ q j k, RIs R q j → RIs R q k → j = k := fun q j k hj hk => by
 obtain ⟨L, hs, -⟩ := hd.ex;obtain ⟨-, ho⟩ := hd.oopsL hs;have hn := hs.nodup;rw [← ho] at hn
 have e : (R.fE.map fun o => o.oop)[j]'(by simpa using hj.1) = (R.fE.map fun o => o.oop)[k]'(by simpa using hk.1) := by
  have h1 := hj.2;have h2 := hk.2;rw [kBx hj.1] at h1;rw [kBx hk.1] at h2;rw [jBL, jBL];omega
 exact (List.getElem_inj hn).1 e
theorem Doc.ras (hi : Inv H M) (hd : Doc M R) : RAs R (kAq H H.fD.length) := by
 rw [hi.allM];have hb := hd.bd hi;refine ⟨?_, fun q => ?_, ?_, fun q hq => ?_⟩
 ·unfold allM;exact List.Pairwise.filter _ List.pairwise_lt_range
 ·rw [kEZ];constructor
  ·rintro ⟨h1, h2⟩;have := kDu (M := M) (q - 1) (kAs h2) h2;rw [show ((q - 1 : Nat) : Int) + 1 = (q : Int) from by omega] at this;exact hd.yes this
  ·intro hn
   cases hx : mhas M (q : Int) with
   | false => exact absurd ((hd.no _).2 hx) hn
   | true =>
    obtain ⟨k, e, hk, hbk⟩ := kAx hx;have e2 : q = k + 1 := by omega
    rw [e2, jAJ];exact ⟨by omega, hbk⟩
 ·obtain ⟨L, hs, -⟩ := hd.ex;rw [hd.len, ← hs.len]
  have hnd : (allM M).Nodup := by
   unfold allM;exact List.Nodup.sublist List.filter_sublist List.nodup_range
  exact List.Perm.length_eq ((List.perm_ext_iff_of_nodup hnd hs.nodup).2 (fun x => by rw [kEZ, hs.mem]))
 ·obtain ⟨h1, h2⟩ := kEZ.1 hq;have := kAs h2;have := hb.fA;exact ⟨h1, by omega⟩
theorem kIM (r : Nat) (p : Option Addr) (c : Nat) (roots : List Int) (w : World) (h : RRep w 0 r R) (hi : Inv H M) (hd : Doc M R) (hr : Rd w (.slice p roots.length c) roots) :
  Calls prog 84 #[.pointer (some ⟨r, 0, none⟩), .slice p roots.length c] w fun e w' => ∃ pv cv, e = .returned (.tuple #[.slice pv (livM M roots).length cv, int i64 0]) ∧ w'.ownsRow w.heap.size 3 1 (.slice pv (livM M roots).length cv) (livM M roots).length ((livM M roots).map I) ∧ Fr [] w w' := by
 refine (kKF H M 0 r R p c roots w h (hd.bd hi).ok (hd.tw hi) hd.uniq hi (hd.ras hi) hr).mono ?_;rintro e w' ⟨v, rfl, rs, h1, h2, h3⟩;rw [kIb hi h1] at h2;obtain ⟨pv, cv, rfl⟩ := kAv h2;exact ⟨pv, cv, rfl, h2, h3⟩
theorem rRun (r : Nat) (p : Option Addr) (c : Nat) (roots : List Int) (w : World) (h : RRep w 0 r R) (hi : Inv H M) (hd : Doc M R) (hr : Rd w (.slice p roots.length c) roots) (ht : R.fO ≤ 1000000000) :
  Calls prog 49 #[.pointer (some ⟨r, 0, none⟩), .slice p roots.length c] w fun e w' => e = .returned (.tuple #[int i64 (colA M roots).1, int i64 (colA M roots).2.1, int i64 0]) ∧ RN true r R (colN M roots) w w' := by
 have HRe := kAA (kIM r p c roots w h hi hd hr)
 have HK : Hid (∀ w2 pv cv, Fr [] w w2 → w2.ownsRow w.heap.size 3 1 (.slice pv (livM M roots).length cv) (livM M roots).length ((livM M roots).map I) → Calls prog 101 #[.pointer (some ⟨r, 0, none⟩), .slice pv (livM M roots).length cv] w2 fun e w' => e = .returned (.tuple #[int i64 (colA M roots).1, int i64 (colA M roots).2.1, int i64 0]) ∧ RN true r R (colN M roots) w w') := fun w2 pv cv hf ho => by
  have hlb := kEb M roots;have hth := hi.things_le;have hrd : Rd w2 (.slice pv (zs (livM M roots)).length cv) (zs (livM M roots)) := kCC (by rw [kCk, kLP]; exact ho) (by rw [kCk]; omega);have := rKeepM (zs (livM M roots)) pv cv r R M w2 (h.keepF hf (by simp)) hi hd (hd.bd hi) ht hrd (by rw [kCk]; omega);rw [kET, kCk] at this;have ea := kLC M roots;unfold colA at ea ⊢;rw [ea] at this;refine this.mono ?_;rintro e w' ⟨rfl, R', q1, q2, q3, q4, q5⟩
  exact ⟨rfl, R', q1, q2, (hf.mono (by simp)).trans q3 (fun b hb => .inl hb), fun b hb => by
   rcases q4 b hb with q | q
   ·exact .inl q
   ·right; have := hf.size; omega, q5⟩
 clear h hi hd hr;generalize (livM M roots).length = n at *;generalize (colA M roots).1 = x at *;generalize (colA M roots).2.1 = y at *;go_enter func49, ntmps49
 go_wp2_with fail
 refine HRe.out.mono ?_;rintro e w2 ⟨pv, cv, rfl, ho, hf⟩;have HK2 := kAA (HK.out w2 pv cv hf ho);clear HRe HK ho hf
 go_wp2_with fail
 refine HK2.out.mono ?_;rintro e w3 ⟨rfl, hp⟩;have HP := kAA hp;clear hp HK2
 go_wp2_with fail
 refine bodyPost_ret (results_tmp3 rfl _ _ _) rfl ?_;exact ⟨rfl, HP.out⟩
end
end Go.Proofs.YtflgicdbbogllaaGreatDoor
namespace Go.Proofs.YtflgicdbbogllaaGreatDoor
open Go.RowKit Go.Maps Tryz
open Value (int)
open IntKind (i64)
attribute [local go_sem ↓] wp_at_zero wp_at_succ
variable {H : HS} {M : MS}
def rtsP (fN : Int) (st : List Int) : List Int := st ++ (if fN = 0 then [] else [4 * fN])
def rtsR (fN : Int) (st : List Int) : List Int := (4 * fN) :: st
theorem kJd (M : MS) : kEj M (4 * 0) = false := by
 unfold kEj;rw [decide_eq_false (by decide)];rfl
theorem kIm (M : MS) (fN : Int) (st : List Int) : livM M (rtsP fN st) = livM M (rtsR fN st) := by
 refine kJB fun z hn => ?_
 unfold rtsP rtsR;rw [jAC, jAF]
 by_cases h0 : fN = 0
 ·rw [jp h0];constructor
  ·rintro (h | h)
   ·exact .inr h
   ·cases h
  ·rintro (h | h)
   ·rw [h, h0, kJd] at hn; cases hn
   ·exact .inl h
 ·rw [jn h0, jAp];exact ⟨fun h => h.symm, fun h => h.symm⟩
theorem kEW (M : MS) (fN : Int) (st : List Int) : colN M (rtsP fN st) = colN M (rtsR fN st) ∧ colA M (rtsP fN st) = colA M (rtsR fN st) := by
 unfold colN colA;rw [kIm];exact ⟨rfl, rfl⟩
theorem kMj (fN : Int) (st : List Int) : (rtsP fN st).length ≤ st.length + 1 := by
 unfold rtsP;rw [jAG]
 split <;> simp
theorem rd_one (w : World) (z : Int) : Rd (w.alloc (.cells #[int i64 z] 41)) (.slice (some ⟨w.heap.size, 0, none⟩) 1 1) [z] := by
 refine ⟨⟨some ⟨w.heap.size, 0, none⟩, 1, rfl, fun _ => ⟨w.heap.size, 0, rfl, by simp, fun i hi => ?_⟩⟩, fun c hc => (by injection hc with e; cases e), by simp⟩;have e : i = 0 := by simpa using hi
 subst e;rw [kAC (heap_alloc_new w (.cells #[int i64 z] 41))];rfl
section
variable {w : World} {s a : Nat} {l : Lay} {X : SpS}
theorem kNA (h : Spc w s a l X) (hl : X.st.length ≤ 100000) (hr : X.fN = 0 ∨ (1 ≤ X.fN ∧ X.fN ≤ 65536)) :
  Calls prog 60 #[.pointer (some ⟨s, 0, none⟩)] w fun e w' => ∃ v', e = .returned v' ∧ w'.ownsRow w.heap.size 41 1 v' (rtsP X.fN X.st).length ((rtsP X.fN X.st).map (int i64)) ∧ Fr [] w w' := by
 obtain ⟨RT, hRT⟩ := jxe (rtsP X.fN X.st);rw [hRT];have HC := kAA (kGo X.st X.sv w (h.rd (by omega)) (by omega));have HS := kAA h;obtain ⟨-, -, -, -, -, c5, -⟩ := h.cells;clear h;go_enter func60, ntmps60
 go_wp2_with fail
 refine HC.out.mono ?_;rintro e w1 ⟨v', rfl, ho, hf⟩;obtain ⟨-, -, -, -, c4, -⟩ := (HS.out.fK hf).cells;obtain ⟨p, c, rfl⟩ := kAv ho;have HF := kAA hf;have HO := kAA ho;have z1 := hf.size;clear ho hf HC c5
 by_cases h0 : X.fN = 0
 ·have HR : Hid (RT = X.st) := by show RT = X.st; rw [← hRT]; unfold rtsP; rw [jp h0, jAz]
  rw [h0] at c4;clear h0 hr hRT
  go_wp2_with (first | (go_at_call 91; refine Calls.mono (kHi _) ?_; rintro e w' ⟨rfl, hw'⟩; rw [hw']; clear hw' w') | go_in)
  go_ret
  exact ⟨_, rfl, by rw [HR.out]; exact HO.out, HF.out⟩
 ·have hr2 : 1 ≤ X.fN ∧ X.fN ≤ 65536 := by omega
  have HR : Hid (RT = X.st ++ [4 * X.fN]) := by show RT = _; rw [← hRT]; unfold rtsP; rw [jn h0]
  have HOb := kAA (kGu X.fN w1 hr2.1 hr2.2);have F2 : Fr [] w1 (w1.alloc (.cells #[int i64 (4 * X.fN)] 41)) := Fr.alloc [] _ _;obtain ⟨v2, w2, r2, o2, g2, -⟩ := kCG X.st [4 * X.fN] (.slice p X.st.length c) (.slice (some ⟨w1.heap.size, 0, none⟩) 1 1) (w1.alloc (.cells #[int i64 (4 * X.fN)] 41)) w.heap.size (HO.out.alloc _) (rd_one w1 _) (by simp; omega) (by simp; omega)
  have HF2 : Hid (Fr [] w w2) := by
   have h1 := HF.out.trans F2 (by simp);refine ⟨g2.os.trans h1.os, g2.tape.trans h1.tape, g2.output.trans h1.output, jAU h1.size g2.size, fun i hi hn => ?_⟩;rw [g2.block i (jAb hi h1.size) (fun e => ?_)]
   ·exact h1.block i hi hn
   ·have := (HO.out.lt i e.symm).1;omega
  obtain ⟨p2, c2, rfl⟩ := kAv o2;have HO2 := kAA o2;have HR2 := kAA r2;generalize hz : 4 * X.fN = z at *;clear hz r2 o2 g2 F2 h0 hr hr2 hRT;generalize X.fN = q at *
  go_wp2_with (first | (go_at_call 91; refine HOb.out.mono ?_; rintro e w' ⟨rfl, hw'⟩; rw [hw']; clear hw' w') | (at_builtin; refine Lib.wpList_append_run _ rfl (.tmp 21) (.tmp 23) 35 35 rfl _ _ rfl rfl _ _ HR2.out ?_) | go_in)
  go_ret
  have hlz : (X.st ++ [z]).length = X.st.length + 1 := by simp
  have ho3 := HO2.out;rw [hlz] at ho3;exact ⟨_, rfl, by rw [HR.out, hlz]; exact ho3, HF2.out⟩
theorem kKi {w1 : World} (h : Spc w1 s a l X) (hl : X.st.length ≤ 100000) (hr : X.fN = 0 ∨ (1 ≤ X.fN ∧ X.fN ≤ 65536)) : ∀ V, Hid (Fr [] w1 V) → Calls prog 60 #[.pointer (some ⟨s, 0, none⟩)] V fun e w' => ∃ p c, e = .returned (.slice p (rtsP X.fN X.st).length c) ∧ Hid (Rd w' (.slice p (rtsP X.fN X.st).length c) (rtsP X.fN X.st)) ∧ Hid (Fr [] w1 w') := fun V hV => by
 refine (kNA (h.fK hV.out) hl hr).mono ?_;rintro e w2 ⟨v2, rfl, ho2, hf2⟩;obtain ⟨p2, c2, rfl⟩ := kAv ho2;refine ⟨p2, c2, rfl, kCC ho2 ?_, hV.out.trans hf2 (by simp)⟩;have := kMj X.fN X.st;omega
theorem kEp (h : Spc w s a l X) (hb : X.br ≠ none) : Calls prog 24 #[.pointer (some ⟨s, 0, none⟩)] w fun e w' => e = .returned (.tuple #[int i64 0, int i64 0, int i64 25]) ∧ Fr [] w w' := by
 have HM := kAA (kAz h);have HS := kAA h;clear h;go_enter func24, ntmps24
 go_wp2_with fail
 refine HM.out.mono ?_;rintro e w1 ⟨rfl, hf⟩;obtain ⟨-, c1, -, -, -, -, c6⟩ := (HS.out.fK hf).cells;obtain ⟨b, hb2⟩ := jBX.1 hb;rw [hb2] at c6;dsimp only [Option.map] at c6;have HF := kAA hf;clear hf HM;generalize b.p = bp at *
 go_wp2_with fail
 refine bodyPost_ret (results_tmp3 rfl _ _ _) rfl ?_;exact ⟨rfl, HF.out⟩
theorem kDR (h : Spc w s a l X) (hb : X.br = none) (hl : X.st.length ≤ 100000) (hr : X.fN = 0 ∨ (1 ≤ X.fN ∧ X.fN ≤ 65536)) (hage : X.H.age ≤ 1000000000) (hT : Tab w) (hT0 : 0 < w.heap.size) :
  Calls prog 24 #[.pointer (some ⟨s, 0, none⟩)] w fun e w' => e = .returned (.tuple #[int i64 (colA X.M (rtsP X.fN X.st)).1, int i64 (colA X.M (rtsP X.fN X.st)).2.1, int i64 0]) ∧ PO s a l X 0 true (colN X.M (rtsP X.fN X.st)) X.fN X.st w w' := by
 have HM := kAA (kAz h);have HS := kAA h;have HT : Hid (∀ V, Fr [] w V → Tab V) := fun V hV => hT.fr hV hT0
 obtain ⟨x, hx⟩ := jxe ((colA X.M (rtsP X.fN X.st)).1);obtain ⟨y, hy⟩ := jxe ((colA X.M (rtsP X.fN X.st)).2.1);rw [hx, hy];clear h hT hT0;go_enter func24, ntmps24
 go_wp2_with fail
 refine HM.out.mono ?_;rintro e w1 ⟨rfl, hf⟩;have hs1 := HS.out.fK hf;obtain ⟨-, c1, -, -, -, -, c6⟩ := hs1.cells;have HF := kAA hf;rw [hb] at c6;dsimp only [Option.map] at c6;have HRo := kAA (kKi hs1 hl hr)
 have HRn : Hid (∀ V p c, Hid (Fr [] w1 V) → Hid (Rd V (.slice p (rtsP X.fN X.st).length c) (rtsP X.fN X.st)) → Calls prog 59 #[.pointer (some ⟨a, 0, none⟩), .slice p (rtsP X.fN X.st).length c] V fun e w' => e = .returned (.tuple #[int i64 x, int i64 y, int i64 0]) ∧ Hid (PO s a l X 0 true (colN X.M (rtsP X.fN X.st)) X.fN X.st w w')) := fun V p c hV hrd => by
  have hsV := hs1.fK hV.out;rw [← hx, ← hy];refine (pRun a l p c (rtsP X.fN X.st) V hsV.rep hsV.inv (HT.out V (HF.out.trans hV.out (by simp))) hrd.out hage).mono ?_;rintro e w3 ⟨rfl, q1⟩;exact ⟨rfl, (PO.of hsV q1 (kPm _ _)).first (HF.out.trans hV.out (by simp))⟩
 have HCl : Hid (∀ V, Hid (Fr [] w1 V) → V.cell? ⟨s, 1, none⟩ = some (.pointer (some ⟨a, 0, none⟩))) := fun V hV => (hs1.fK hV.out).cells.2.1
 have HCs : Hid (∀ V, Hid (PO s a l X 0 true (colN X.M (rtsP X.fN X.st)) X.fN X.st w V) → V.cell? ⟨s, 1, none⟩ = some (.pointer (some ⟨a, 0, none⟩))) := fun V hV => by
  obtain ⟨l', X', h1, -⟩ := hV.out;exact h1.ok.cells.2.1
 have hR : Hid (Fr [] w1 w1) := Fr.refl _ _;clear hf HM hs1;clear hx hy;generalize (rtsP X.fN X.st).length = rn at *
 go_wp2_with fail
 go_region_held3 (fun V => V.cell? ⟨s, 1, none⟩ = some (.pointer (some ⟨a, 0, none⟩)))
  (first | exact HCl.out _ (kAF hR) | exact HCl.out _ hR | exact HCs.out _ hp3 | exact HCl.out _ hg2)
  (first | (go_at_call 60; refine (HRo.out _ (kAF hR)).mono ?_; rintro e w2 ⟨p2, c2, rfl, hrd2, hg2⟩) | (go_at_call 59; refine (HRn.out _ _ _ hg2 hrd2).mono ?_; rintro e w3 ⟨rfl, hp3⟩))
 all_goals go_wp2_with fail
 all_goals
  refine bodyPost_ret (results_tmp3 rfl _ _ _) rfl ?_;exact ⟨rfl, hp3.out⟩
theorem kMg (hi : Inv H M) (h : M.fM ≠ kAG M.fA M.fA.length) : 1 ≤ kAf M.fA ∧ kAf M.fA ≤ 65536 := by
 have h1 := hi.low_le;have h2 := (kDH M.fA).2;have h3 := hi.count;have h4 := hi.safe.small.count;have h5 := hi.safe.small.fM;have h6 := hi.fM;omega
theorem kHE (hi : Inv H M) (X A B : Int) : (kAO M X A B).2 = 0 ∧ 1 ≤ (kAO M X A B).1 ∧ (kAO M X A B).1 ≤ 65536 ∨ (kAO M X A B).2 ≠ 0 ∧ (kAO M X A B).1 = 0 := by
 unfold kAO
 split
 ·exact .inr ⟨by decide, rfl⟩
 ·split
  ·exact .inr ⟨by decide, rfl⟩
  ·split
   ·exact .inr ⟨by decide, rfl⟩
   ·split
    ·exact .inr ⟨by decide, rfl⟩
    ·rename_i h3 h4
     left
     have h5 := kMg hi (fun e => h3 (.inl e));exact ⟨rfl, by show (1 : Int) ≤ ((kAf M.fA : Nat) : Int); omega, by show ((kAf M.fA : Nat) : Int) ≤ 65536; omega⟩
theorem kFe (h : Spc w s a l X) (cl n f : Int) (hT : Tab w) (hT2 : kCQ w) (ha : 2 ≤ a) :
  Calls prog 46 #[.func (.func 47) #[.pointer (some ⟨a, 0, none⟩)] #[], int i64 cl, int i64 n, int i64 f] w fun e w' => e = .returned (.tuple #[int i64 (4 * (kAO X.M cl n f).1), int i64 (kAO X.M cl n f).2]) ∧ PO s a l X 0 false (kAe X.M cl n f) X.fN X.st w w' := by
 have HA : Hid (Calls prog 47 #[.pointer (some ⟨a, 0, none⟩), int i64 cl, int i64 n, int i64 f] w fun e w' => e = .returned (.tuple #[int i64 (kAO X.M cl n f).1, int i64 (kAO X.M cl n f).2]) ∧ PO s a l X 0 false (kAe X.M cl n f) X.fN X.st w w') := (pAlloc cl n f a l X.H X.M w h.rep h.inv hT hT2 ha).mono fun e w' ⟨h1, h2⟩ => ⟨h1, PO.of h h2 (kLU _ _ _ _)⟩
 have hbd := kHE h.inv cl n f;clear h hT hT2;generalize kAe X.M cl n f = M' at *;generalize (kAO X.M cl n f).1 = q at *;generalize (kAO X.M cl n f).2 = E at *;go_enter func46, ntmps46
 go_wp2_with fail
 refine HA.out.mono ?_;rintro e w1 ⟨rfl, hp⟩;have HP := kAA hp;clear hp HA;rcases hbd with ⟨rfl, h1, h2⟩ | ⟨h1, rfl⟩
 ·have HO := kAA (kGu q w1 h1 h2)
  go_wp2_with (first | (go_at_call 91; refine HO.out.mono ?_; rintro e w' ⟨rfl, hw'⟩; rw [hw']; clear hw' w') | go_in)
  first | exact ⟨rfl, HP.out⟩ | (go_ret2; exact ⟨rfl, HP.out⟩)
 ·have hb : (E != 0) = true := by simpa using h1
  clear h1
  go_wp2_with fail
  first | exact ⟨rfl, HP.out⟩ | (go_ret2; exact ⟨rfl, HP.out⟩)
noncomputable def salA (M : MS) (rt : List Int) (op : Bool) (cl n f : Int) : Int × Int := if (kAO M cl n f).2 = 23 ∧ op = false then kAO (colN M rt) cl n f else kAO M cl n f
noncomputable def salN (M : MS) (rt : List Int) (op : Bool) (cl n f : Int) : MS := if (kAO M cl n f).2 = 23 ∧ op = false then kAe (colN M rt) cl n f else kAe M cl n f
theorem kHM {cl n f : Int} (h : (kAO M cl n f).2 = 23) : kAe M cl n f = M := by
 unfold kAO at h;unfold kAe
 split
 ·rfl
 ·rename_i h1
  rw [jn h1] at h
  split
  ·rfl
  ·rename_i h2
   rw [jn h2] at h
   split
   ·rfl
   ·rename_i h3
    rw [jn h3] at h
    split at h
    ·simp at h
    ·simp at h
theorem kHg (h : Spc w s a l X) (cl n f : Int) (hT : Tab w) (hT0 : 0 < w.heap.size) (hT2 : ∀ V, Fr [] w V → kCQ V) (ha : 2 ≤ a) (hc : (kAO X.M cl n f).2 ≠ 23 ∨ X.br ≠ none) :
  Calls prog 13 #[.pointer (some ⟨s, 0, none⟩), int i64 cl, int i64 n, int i64 f] w fun e w' => e = .returned (.tuple #[int i64 (4 * (kAO X.M cl n f).1), int i64 (kAO X.M cl n f).2]) ∧ PO s a l X 0 false (kAe X.M cl n f) X.fN X.st w w' := by
 have HM := kAA (kAz h);have HS := kAA h;have HT : Hid (∀ V, Fr [] w V → Tab V ∧ kCQ V) := fun V hV => ⟨hT.fr hV hT0, hT2 V hV⟩
 have HA0 : Hid (∀ V, Fr [] w V → Tab V → kCQ V → Calls prog 46 #[.func (.func 47) #[.pointer (some ⟨a, 0, none⟩)] #[], int i64 cl, int i64 n, int i64 f] V fun e w' => e = .returned (.tuple #[int i64 (4 * (kAO X.M cl n f).1), int i64 (kAO X.M cl n f).2]) ∧ PO s a l X 0 false (kAe X.M cl n f) X.fN X.st V w') := fun V hV t1 t2 => kFe (h.fK hV) cl n f t1 t2 ha
 generalize (kAO X.M cl n f).2 = E at *;generalize 4 * (kAO X.M cl n f).1 = wd at *;clear h hT hT2 hT0;go_enter func13, ntmps13
 go_wp2_with fail
 refine HM.out.mono ?_;rintro e w1 ⟨rfl, hf⟩;have hs1 := HS.out.fK hf;obtain ⟨-, c1, -, -, -, -, -⟩ := hs1.cells;have HA := kAA (HA0.out w1 hf (HT.out w1 hf).1 (HT.out w1 hf).2);have HF := kAA hf;clear hs1 hf HM
 go_wp2_with fail
 refine HA.out.mono ?_;rintro e w2 ⟨rfl, hp⟩
 have c6 : w2.cell? ⟨s, 6, none⟩ = some (.pointer (X.br.map Bx.p)) := by
  obtain ⟨l', X', h1, -, -, -, h2, -⟩ := hp;have := h1.ok.cells.2.2.2.2.2.2;rw [h2] at this;exact this
 have HZ : Hid (PO s a l X 0 false (kAe X.M cl n f) X.fN X.st w w2) := hp.first HF.out
 clear hp HA
 by_cases h23 : E = 23
 ·have hbr : X.br ≠ none := by rcases hc with h | h; exact absurd h23 h; exact h
  obtain ⟨b, hb⟩ := jBX.1 hbr;rw [hb] at c6;dsimp only [Option.map] at c6;subst h23;generalize b.p = bp at *;clear hc hbr
  go_wp2_with fail
  go_ret2
  exact ⟨rfl, HZ.out⟩
 ·have hb : (E != 23) = true := by simpa using h23
  clear hc h23
  go_wp2_with fail
  go_ret2
  exact ⟨rfl, HZ.out⟩
theorem kHv (h : Spc w s a l X) (cl n f : Int) (hl : X.st.length ≤ 65536) (hr : X.fN = 0 ∨ (1 ≤ X.fN ∧ X.fN ≤ 65536)) (hage : X.H.age ≤ 100000000) (hTb : Tbs w) (hlo : ∀ g ∈ spF s a l X, 2 ≤ g) (hc : (kAO X.M cl n f).2 = 23) (hb : X.br = none) :
  Calls prog 13 #[.pointer (some ⟨s, 0, none⟩), int i64 cl, int i64 n, int i64 f] w fun e w' => e = .returned (.tuple #[int i64 (4 * (kAO (colN X.M (rtsP X.fN X.st)) cl n f).1), int i64 (kAO (colN X.M (rtsP X.fN X.st)) cl n f).2]) ∧ PO s a l X 1 false (kAe (colN X.M (rtsP X.fN X.st)) cl n f) X.fN X.st w w' := by
 have ha : 2 ≤ a := hlo a (kAT.2 (.inr (.inr (.inr (by simp [foot])))));have HM := kAA (kAz h);have HS := kAA h
 have HT : Hid (∀ V, Fr (spF s a l X) w V → Tab V ∧ kCQ V ∧ 0 < V.heap.size) := fun V hV => by
  have h1 := hTb.keep hV hlo;exact ⟨h1.t, h1.u, by have := h1.s; omega⟩
 obtain ⟨E, hE⟩ := jxe ((kAO (colN X.M (rtsP X.fN X.st)) cl n f).2);obtain ⟨wd2, hwd⟩ := jxe (4 * (kAO (colN X.M (rtsP X.fN X.st)) cl n f).1);rw [hE, hwd];have HE := kAA (And.intro hE hwd);clear h hTb hlo hE hwd;go_enter func13, ntmps13
 go_wp2_with fail
 refine HM.out.mono ?_;rintro e w1 ⟨rfl, hf⟩;have hs1 := HS.out.fK hf;obtain ⟨-, c1, -, -, -, -, -⟩ := hs1.cells;have hf1 : Fr (spF s a l X) w w1 := hf.mono (by simp);have HA := kAA (kFe hs1 cl n f (HT.out w1 hf1).1 (HT.out w1 hf1).2.1 ha);have HF := kAA hf;have HN := kAA (kHM hc);have HP1 := kAA (PS.fK HS.out hf);clear hs1 hf hf1 HM;rw [hc] at HA;generalize 4 * (kAO X.M cl n f).1 = wd at *
 go_wp2_with fail
 refine HA.out.mono ?_;rintro e w2 ⟨rfl, l2, X2, p2, m2, r2, t2, b2, o2⟩;rw [HN.out] at m2;have hP2 := HP1.out.trans p2;obtain ⟨-, d1, -, -, -, -, c6⟩ := p2.ok.cells;rw [b2, hb] at c6;dsimp only [Option.map] at c6;have hg2 := o2.bound;have HC := kAA (kDR p2.ok (by rw [b2]; exact hb) (by rw [t2]; omega) (by rw [r2]; exact hr) (by omega) (HT.out w2 hP2.fr).1 (HT.out w2 hP2.fr).2.2);rw [m2, r2, t2] at HC;have HP2 := kAA hP2
 have HA2 : Hid (X2.H.age ≤ X.H.age) := by
  rcases o2 with ⟨-, q, -⟩ | ⟨q, -⟩
  ·exact Nat.le_of_eq q
  ·cases q
 have HB0 : Hid (X.br = none) := hb;have HB2 : Hid (X2.br = none) := by show X2.br = none; rw [b2]; exact hb
 clear HA HF p2 hP2 hc d1 b2 o2 hg2 hb
 go_wp2_with fail
 refine HC.out.mono ?_;rintro e w3 ⟨rfl, l3, X3, p3, m3, r3, t3, b3, o3⟩;have hP3 := HP2.out.trans p3;obtain ⟨-, k1, -, -, -, -, -⟩ := p3.ok.cells;have HA3 := kAA (kFe p3.ok cl n f (HT.out w3 hP3.fr).1 (HT.out w3 hP3.fr).2.1 ha);rw [m3, r3, t3] at HA3;have HP3 := kAA hP3;have HA4 : Hid (X3.H.age ≤ X.H.age + 1) := by have h1 := HA2.out; have h2 := o3.bound; show X3.H.age ≤ _; omega
 have HB3 : Hid (X3.br = none) := by show X3.br = none; rw [b3]; exact HB2.out
 clear HC p3 hP3 b3 o3 HA2;rw [HE.out.1, HE.out.2] at HA3
 go_wp2_with fail
 refine HA3.out.mono ?_;rintro e w4 ⟨rfl, l4, X4, p4, m4, r4, t4, b4, o4⟩;have HZ : Hid (PO s a l X 1 false (kAe (colN X.M (rtsP X.fN X.st)) cl n f) X.fN X.st w w4) := ⟨l4, X4, HP3.out.trans p4, m4, r4, t4, HB0.out, by rw [b4]; exact HB3.out, by have h1 := HA4.out; have h2 := o4.bound; omega⟩;clear p4 b4 o4 HA3
 go_wp2_with fail
 go_ret2
 exact ⟨rfl, HZ.out⟩
end
end Go.Proofs.YtflgicdbbogllaaGreatDoor
