import Derived.Test.YtdflpoldlokijaaDoorSCStpA
import Derived.Test.YtdflpoldlokijaaDoorSG25CWlk0
import Derived.Test.YtdflpoldlokijaaDoorSG13CJmp
import Derived.Test.YtdflpoldlokijaaDoorSG24CLook
import Derived.Test.YtdflpoldlokijaaDoorSG26CMk
namespace Go.Proofs.YtdflpoldlokijaaDoor
open Go.RowKit
set_option linter.unusedVariables false
set_option linter.unusedSimpArgs false
attribute [local go_sem ↓] Go.wp_at_zero Go.wp_at_succ
/-- what a walk leaves -/
def WalkP (w : World) (B x : Nat) (F : Fx) (pls : List Pl) (inf : List Inf) (dep : List Int) (e : Ending) (w' : World) : Prop :=
  e = .returned (.bool true) ∧ Kw B w w' ∧ ∃ s' pi' ci' ins', WK w' B x F s' pi' ci' ins' ∧ ins'.length ≤ 2000 ∧ ∀ u ∈ ins', BodyOk pls inf dep u.b u.e u.sc
section
variable {w : World} {B x : Nat} {F : Fx} {s : WS} {pi : Option Addr} {ci : Nat} {pls : List Pl} {inf : List Inf} {dep : List Int} {t k : Nat}
set_option maxRecDepth 100000 in
set_option maxHeartbeats 4000000 in
theorem walks_ok (S : Safe F.C t F.h.stack pls inf dep) (h : WK w B x F s pi ci []) (hB : B ≤ w.heap.size) (hinf : inf[k - 1]? = some (F.sc, F.b0, F.e0)) (iv : Iv pls dep F k s) (hst : F.steps ≤ 2000) :
    Calls Tryd.prog 12 #[.pointer (some ⟨x, 0, none⟩)] w fun e w' => WalkP w B x F pls inf dep e w' := by
  have HS := mkHid S
  have HI := mkHid hinf
  have HW := mkHid h
  have HV := mkHid iv
  have HB := mkHid hB
  clear S h hinf iv hB
  go_enter Tryd.func12, Tryd.ntmps12
  go_wp2_with fail
  go_loopw [3] (fun q wr => ∃ i : Nat, q = .int .i64 i ∧ i ≤ F.steps ∧ Hid (∃ s pi ci ins, WK wr B x F s pi ci ins ∧ Kw B w wr ∧ Iv pls dep F k s ∧ ins.length ≤ i ∧ ∀ u ∈ ins, BodyOk pls inf dep u.b u.e u.sc)) (fun q _ => F.steps - (intOf q).toNat)
  case atStart => exact ⟨0, rfl, Nat.zero_le _, s, pi, ci, [], HW.out, Kw.refl _ _, HV.out, Nat.le_refl _, fun u hu => by simp at hu⟩
  case round =>
    clear HW HV
    obtain ⟨i, rfl, hi, hst2⟩ := hrel
    obtain ⟨s, pi, ci, ins, hk, hkw, hiv, hn, hu⟩ := hst2.out
    have i0 : (0 : Int) ≤ (i : Int) := by omega
    have c14 : wr.cell? ⟨x, 14, none⟩ = some (.int .i64 (F.steps : Int)) := hk.cell 14
    by_cases hlt : i < F.steps
    · have i1 : (i : Int) < (F.steps : Int) := by omega
      cases hdn : s.done
      · have c16 : wr.cell? ⟨x, 16, none⟩ = some (.bool false) := by rw [hk.cell 16]; show some (Value.bool s.done) = _; rw [hdn]
        obtain ⟨hd, hb⟩ := hiv.go hdn
        obtain ⟨y1, y2, -, -, -⟩ := there HS.out HI.out s.at_ (by rw [hd]; have := hk.dp; omega) hb
        have c12 : wr.cell? ⟨x, 12, none⟩ = some (.int .i64 (s.at_ : Int)) := hk.cell 12
        have c9 : wr.cell? ⟨x, 9, none⟩ = some (.int .i64 (F.b0 : Int)) := hk.cell 9
        have c10 : wr.cell? ⟨x, 10, none⟩ = some (.int .i64 (F.e0 : Int)) := hk.cell 10
        have d1 : decide ((s.at_ : Int) < (F.b0 : Int)) = false := decide_eq_false (by omega)
        have d2 : decide ((F.e0 : Int) ≤ (s.at_ : Int)) = false := decide_eq_false (by omega)
        have HSt : Hid (∀ n, Calls Tryd.prog 19 #[.pointer (some ⟨x, 0, none⟩)] (wr.drewN n) fun e w' => StepP (wr.drewN n) B x F pls inf dep k ins e w') := fun n => step_any HS.out (hk.dr n) (Nat.le_trans HB.out hkw.size) HI.out hiv hdn (by omega)
        have HKd : Hid (∀ n, Kw B w (wr.drewN n)) := fun n => hkw.trans ((Fr.drewN [] wr n).kw (Nat.le_trans HB.out hkw.size) (by simp))
        have HU := mkHid hu
        have HAf : Hid (∀ V s2 pi2 ci2 ins2, WK V B x F s2 pi2 ci2 ins2 → Iv pls dep F k s2 → V.cell? ⟨x, 17, none⟩ = some (.bool false) ∧ V.cell? ⟨x, 18, none⟩ = some (.int .i64 (s2.loose : Int)) ∧ V.cell? ⟨x, 4, none⟩ = some (.slice F.pw F.C.ws.length F.cw) ∧ s2.loose ≤ F.C.ws.length) := fun V s2 pi2 ci2 ins2 hV hv => ⟨by rw [hV.cell 17]; show some (Value.bool s2.wild) = _; rw [hv.wild], hV.cell 18, hV.cell 4, by have := hv.lo; have := hv.hi; have := hV.en; omega⟩
        generalize F.b0 = b0 at *
        generalize F.e0 = e0 at *
        generalize s.at_ = sa at *
        clear hst2 hk hkw hiv hu hd hb
        go_wp2_with fail
        go_quiet (fail)
        have HSn := mkHid (HSt.out nq)
        have HKn := mkHid (HKd.out nq)
        clear HSt HKd
        generalize wr.drewN nq = V at *
        go_wp2_with (go_at_call 19; refine HSn.out.mono ?_; rintro e w2 ⟨rfl, kw2, s2, pi2, ci2, ins2, k2, iv2, n2, u2⟩; obtain ⟨z17, z18, z4, zd⟩ := HAf.out _ _ _ _ _ k2 iv2; have HK2 := mkHid k2; have HI2 := mkHid iv2; have HKw2 := mkHid (HKn.out.trans kw2); have HU2 := mkHid u2; clear k2 iv2 kw2 u2)
        go_quiet (fail)
        go_wp2_with fail
        go_roundw
        case rel => exact ⟨i + 1, by go_num, by omega, s2, pi2, ci2, ins2, HK2.out.dr _, HKw2.out.trans ((Fr.drewN [] w2 _).kw (Nat.le_trans HB.out HKw2.out.size) (by simp)), HI2.out, by omega, fun u hm => (HU2.out u hm).elim (fun h => HU.out u h) id⟩
        case measure => simp [intOf]; omega
      · have c16 : wr.cell? ⟨x, 16, none⟩ = some (.bool true) := by rw [hk.cell 16]; show some (Value.bool s.done) = _; rw [hdn]
        have HE : Hid (WalkP w B x F pls inf dep (.returned (.bool true)) wr) := ⟨rfl, hkw, s, pi, ci, ins, hk, by omega, hu⟩
        clear hst2 hk hkw hiv hu
        go_wp2_with fail
        go_ret
        exact HE.out
    · have i1 : ¬ (i : Int) < (F.steps : Int) := by omega
      have i2 : decide ((i : Int) < (F.steps : Int)) = false := decide_eq_false i1
      have HE : Hid (WalkP w B x F pls inf dep (.returned (.bool true)) wr) := ⟨rfl, hkw, s, pi, ci, ins, hk, by omega, hu⟩
      clear hst2 hk hkw hiv hu
      go_wp2_with fail
      go_ret
      exact HE.out
end
end Go.Proofs.YtdflpoldlokijaaDoor
namespace Go.Proofs.YtdflpoldlokijaaDoor
open Go.RowKit
set_option linter.unusedVariables false
set_option linter.unusedSimpArgs false
attribute [local go_sem ↓] Go.wp_at_zero Go.wp_at_succ
def noB : Bn := ⟨0, 0, 0, 0⟩
theorem litsR_nil (w : World) : LitsR w none 0 [] := .mk none 0 [] (fun _ => rfl) (fun h => by simp at h) (by simp) (fun t ht => by simp at ht) (fun t ht => by simp at ht)
theorem codeR_row {w : World} (g : Nat) (ws : List Int) (hg : w.heap[g]? = some (.cells (ws.map (Value.int .i64)).toArray 3 (0, 0))) (htb : Tb w) (hl : ws.length ≤ 4096) (hr : ∀ x ∈ ws, -1000 ≤ x ∧ x ≤ 1000) (b : Bn) : CodeR w ⟨ws, 0, b⟩ [] none 0 (some ⟨g, 0, none⟩) ws.length := by
  refine ⟨⟨⟨_, _, rfl, fun hp => ⟨g, 0, rfl, lt_of_heap hg, fun i hi => ?_⟩⟩, fun c e => (by injection e with e; cases e), by show ws.length ≤ _; omega⟩, Nat.le_refl _, litsR_nil w, rfl, fun i => ?_, htb⟩
  · rw [Nat.zero_add, cell_in hg]
    show (ws.map (Value.int .i64)).toArray[i]? = some (.int .i64 (ws.getD i 0))
    have hi' : i < ws.length := hi
    simp [hi']
  · show _ ≤ ws.getD i 0 ∧ ws.getD i 0 ≤ _
    by_cases hi : i < ws.length
    · rw [List.getD_eq_getElem?_getD, List.getElem?_eq_getElem hi]
      have := hr ws[i] (List.getElem_mem hi)
      show _ ≤ ws[i] ∧ ws[i] ≤ _
      omega
    · rw [List.getD_eq_getElem?_getD, List.getElem?_eq_none (by omega)]
      decide
theorem dep1 : depthsP ⟨[1, 20], 0, noB⟩ ⟨0, 0, 1⟩ 0 = (0, [0, 1]) := by decide
theorem dep2 : (depthsP ⟨[20], 0, noB⟩ ⟨0, 0, 0⟩ 0).1 = 113 := by decide
theorem dep3 : (depthsP ⟨[26, 2], 0, noB⟩ ⟨0, 0, 0⟩ 0).1 = 112 := by decide
set_option maxRecDepth 100000 in
set_option maxHeartbeats 4000000 in
theorem works_ok (w : World) (ht : Tb w) : Calls Tryd.prog 10 #[] w fun e w' => e = .returned (.bool true) ∧ Fr [] w w' := by
  have HBz : Hid (∀ V, Fr [] (w.alloc (.cells #[.int .i64 0, .int .i64 0, .int .i64 0, .int .i64 0] 27)) V → V.cell? ⟨w.heap.size, 0, none⟩ = some (.int .i64 0) ∧ V.cell? ⟨w.heap.size, 1, none⟩ = some (.int .i64 0) ∧ V.cell? ⟨w.heap.size, 2, none⟩ = some (.int .i64 0) ∧ V.cell? ⟨w.heap.size, 3, none⟩ = some (.int .i64 0) ∧ w.heap.size < V.heap.size) := fun V hV => by
    have := hV.hb (heap_alloc_new w (.cells #[.int .i64 0, .int .i64 0, .int .i64 0, .int .i64 0] 27))
    exact ⟨by rw [cell_in this]; rfl, by rw [cell_in this]; rfl, by rw [cell_in this]; rfl, by rw [cell_in this]; rfl, lt_of_heap this⟩
  have H1 : Hid (Calls Tryd.prog 14 #[.agg #[.int .i64 0, .int .i64 0, .int .i64 1, .slice none 0 0, .slice (some ⟨w.heap.size + 1, 0, none⟩) 2 2], .agg #[.int .i64 0, .int .i64 0, .int .i64 0, .int .i64 0]] ((w.alloc (.cells #[.int .i64 0, .int .i64 0, .int .i64 0, .int .i64 0] 27)).alloc (.cells #[.int .i64 1, .int .i64 20] 3)) fun e w' => ∃ v, e = .returned (.tuple #[v, .int .i64 0]) ∧ Fr [] ((w.alloc (.cells #[.int .i64 0, .int .i64 0, .int .i64 0, .int .i64 0] 27)).alloc (.cells #[.int .i64 1, .int .i64 20] 3)) w' ∧ Rd w' v [0, 1]) := by
    have f : Fr [] w ((w.alloc (.cells #[.int .i64 0, .int .i64 0, .int .i64 0, .int .i64 0] 27)).alloc (.cells #[.int .i64 1, .int .i64 20] 3)) := ((Fr.refl [] w).al _).al _
    have hc := codeR_row (w := (w.alloc (.cells #[.int .i64 0, .int .i64 0, .int .i64 0, .int .i64 0] 27)).alloc (.cells #[.int .i64 1, .int .i64 20] 3)) (w.heap.size + 1) [1, 20] (new_at _ _ _ (by simp)) (ht.idle f) (by decide) (by decide) noB
    refine (depths_ok ⟨[1, 20], 0, noB⟩ ⟨0, 0, 1⟩ [] none 0 (some ⟨w.heap.size + 1, 0, none⟩) 2 _ hc).mono ?_
    rintro e w' ⟨lk, v, rfl, f', z, o, -⟩
    have hz := z rfl
    subst hz
    rw [dep1] at o
    rw [dep1]
    have o2 := o rfl
    exact ⟨v, rfl, f', own_rd (ss := [0, 1]) o2 (by decide)⟩
  have H23 : Hid (∀ V ws E, Fr [] (w.alloc (.cells #[.int .i64 0, .int .i64 0, .int .i64 0, .int .i64 0] 27)) V → (ws = [20] ∧ E = 113 ∨ ws = [26, 2] ∧ E = 112) → Calls Tryd.prog 8 #[.agg #[.int .i64 0, .int .i64 0, .int .i64 0, .slice none 0 0, .slice (some ⟨V.heap.size, 0, none⟩) ws.length ws.length], .agg #[.int .i64 0, .int .i64 0, .int .i64 0, .int .i64 0]] (V.alloc (.cells (ws.map (Value.int .i64)).toArray 3)) fun e w' => e = .returned (.int .i64 E) ∧ Fr [] V w') := fun V ws E hV hw => by
    have f : Fr [] w (V.alloc (.cells (ws.map (Value.int .i64)).toArray 3)) := (((Fr.refl [] w).al _).tr0 hV).al _
    have hc := codeR_row (w := V.alloc (.cells (ws.map (Value.int .i64)).toArray 3)) V.heap.size ws (heap_alloc_new V _) (ht.idle f) (by rcases hw with ⟨rfl, -⟩ | ⟨rfl, -⟩ <;> decide) (by rcases hw with ⟨rfl, -⟩ | ⟨rfl, -⟩ <;> decide) noB
    refine (check_ok ⟨ws, 0, noB⟩ ⟨0, 0, 0⟩ [] none 0 (some ⟨V.heap.size, 0, none⟩) ws.length _ hc).mono ?_
    rintro e w' ⟨lk, rfl, f', z⟩
    have hz := z rfl
    subst hz
    refine ⟨?_, (Fr.alloc [] V _).tr0 f'⟩
    rcases hw with ⟨rfl, rfl⟩ | ⟨rfl, rfl⟩
    · rw [dep2]
    · rw [dep3]
  have HNum := mkHid num_ok
  have HSame : Hid (∀ V v, Rd V v [0, 1] → Calls Tryd.prog 16 #[v, .slice (some ⟨V.heap.size, 0, none⟩) 2 2] (V.alloc (.cells #[.int .i64 0, .int .i64 1] 3)) fun e w' => e = .returned (.bool true) ∧ Fr [] V w') := fun V v hv => by
    have hc := codeR_row (w := V.alloc (.cells #[.int .i64 0, .int .i64 1] 3)) V.heap.size [0, 1] (heap_alloc_new V _)
    have hr : Rd (V.alloc (.cells #[.int .i64 0, .int .i64 1] 3)) (.slice (some ⟨V.heap.size, 0, none⟩) 2 2) [0, 1] := by
      refine ⟨⟨_, _, rfl, fun _ => ⟨V.heap.size, 0, rfl, by simp, fun i hi => ?_⟩⟩, fun c e => (by injection e with e; cases e), by decide⟩
      rw [Nat.zero_add, cell_in (heap_alloc_new V _)]
      have hi : i < 2 := hi
      rcases i with _ | _ | i
      · rfl
      · rfl
      · omega
    refine (same_ok [0, 1] v _ _ (hv.idle (Fr.alloc [] V _)) hr).mono ?_
    rintro e w' ⟨rfl, f⟩
    exact ⟨rfl, (Fr.alloc [] V _).tr0 f⟩
  have F0 : Hid (Fr [] w (w.alloc (.cells #[.int .i64 0, .int .i64 0, .int .i64 0, .int .i64 0] 27))) := Fr.alloc [] w _
  clear ht
  go_enter Tryd.func10, Tryd.ntmps10
  go_wp2_with (first
    | (go_at_call 14; refine H1.out.mono ?_; rintro e w1 ⟨v1, rfl, f1, r1⟩; have F1 := mkHid ((Fr.alloc [] _ _).tr0 f1); obtain ⟨a0, a1, a2, a3, a4⟩ := HBz.out w1 F1.out; have R1 := mkHid r1; clear f1 r1)
    | (go_at_call 8; fail))
  refine (H23.out w1 [20] 113 F1.out (.inl ⟨rfl, rfl⟩)).mono ?_
  rintro e w2 ⟨rfl, f2⟩
  have F2 := mkHid (F1.out.tr0 f2)
  have R2 := mkHid (R1.out.idle f2)
  obtain ⟨b0, b1, b2, b3, b4⟩ := HBz.out w2 F2.out
  clear f2 a0 a1 a2 a3
  go_wp2_with (go_at_call 8; fail)
  refine (H23.out w2 [26, 2] 112 F2.out (.inr ⟨rfl, rfl⟩)).mono ?_
  rintro e w3 ⟨rfl, f3⟩
  have F3 := mkHid (F2.out.tr0 f3)
  have R3 := mkHid (R2.out.idle f3)
  clear f3 b0 b1 b2 b3
  go_wp2_with (first
    | (go_at_call 9; refine (HNum.out _ _).mono ?_; rintro e w' ⟨rfl, hw'⟩; rw [hw']; clear hw' w')
    | (go_at_call 16; refine (HSame.out w3 v1 R3.out).mono ?_; rintro e w4 ⟨rfl, f4⟩; have F4 := mkHid (F0.out.tr0 (F3.out.tr0 f4)); clear f4))
  go_ret
  exact ⟨rfl, F4.out⟩
end Go.Proofs.YtdflpoldlokijaaDoor
namespace Go.Proofs.YtdflpoldlokijaaDoor
open Go.RowKit
set_option linter.unusedVariables false
set_option linter.unusedSimpArgs false
attribute [local go_sem ↓] Go.wp_at_zero Go.wp_at_succ
set_option maxHeartbeats 1000000 in
theorem clipped_ok (n lo hi : Int) (w : World) (h1 : 0 ≤ lo) (h2 : lo ≤ hi) (h3 : hi ≤ 1073741824) (hn1 : -9223372036854775808 ≤ n) (hn2 : n ≤ 9223372036854775807) : Calls Tryd.prog 11 #[.int .i64 n, .int .i64 lo, .int .i64 hi] w fun e w' => ∃ m : Int, e = .returned (.int .i64 m) ∧ lo ≤ m ∧ m ≤ hi ∧ w' = w := by
  by_cases c1 : lo ≤ n
  · by_cases c2 : n ≤ hi
    · go_enter Tryd.func11, Tryd.ntmps11
      go_wp2_with fail
      go_ret
      exact ⟨n, rfl, c1, c2, rfl⟩
    · have d2 : decide (n ≤ hi) = false := decide_eq_false c2
      have hk : (0 : Int) < hi - lo + 1 := by omega
      have r1 : 0 ≤ n % (hi - lo + 1) := Int.emod_nonneg _ (by omega)
      have r2 : n % (hi - lo + 1) < hi - lo + 1 := Int.emod_lt_of_pos _ hk
      have dz : (hi - lo + 1 == 0) = false := beq_eq_false_iff_ne.2 (by omega)
      go_enter Tryd.func11, Tryd.ntmps11
      go_wp2_with fail
      all_goals go_ret
      all_goals refine ⟨_, rfl, ?_, ?_, rfl⟩
      all_goals generalize n % (hi - lo + 1) = r at *
      all_goals (try unfold wrap64)
      all_goals omega
  · have d1 : decide (lo ≤ n) = false := decide_eq_false c1
    have hk : (0 : Int) < hi - lo + 1 := by omega
    have r1 : -(hi - lo + 1) < n.tmod (hi - lo + 1) := Int.lt_tmod_of_pos _ hk
    have r2 : n.tmod (hi - lo + 1) < hi - lo + 1 := Int.tmod_lt_of_pos _ hk
    have dz : (hi - lo + 1 == 0) = false := beq_eq_false_iff_ne.2 (by omega)
    go_enter Tryd.func11, Tryd.ntmps11
    go_wp2_with fail
    all_goals go_ret
    all_goals refine ⟨_, rfl, ?_, ?_, rfl⟩
    all_goals generalize n.tmod (hi - lo + 1) = r at *
    all_goals (try unfold wrap64)
    all_goals omega
end Go.Proofs.YtdflpoldlokijaaDoor
namespace Go.Proofs.YtdflpoldlokijaaDoor
open Go.RowKit
set_option linter.unusedVariables false
set_option linter.unusedSimpArgs false
attribute [local go_sem ↓] Go.wp_at_zero Go.wp_at_succ
theorem info54 : (Tryd.prog.info? 54).map (fun i => (i.zero, i.size, i.bytes)) = some (some (.agg #[.int .i64 0, .string ⟨#[]⟩, .int .i64 0, .slice none 0 0]), 4, 56) := by kernel_rfl
/-- literals whose blocks are all of a kind -/
inductive LitsO (w : World) (Ok : Nat → Prop) : Option Addr → Nat → List LitT → Prop
  | mk (p : Option Addr) (c : Nat) (ts : List LitT) (nil : p = none → c = 0) (at_ : 0 < ts.length → ∃ g off, p = some ⟨g, off, none⟩ ∧ g < w.heap.size ∧ Ok g ∧ ∀ i t, ts[i]? = some t → LitAt w g (off + i * 4) t) (short : ts.length ≤ 2513169434916) (txt : ∀ t ∈ ts, t.text.size ≤ 140737488355328)
      (kids : ∀ t ∈ ts, LitsO w Ok t.p t.c t.kids) : LitsO w Ok p c ts
theorem LitsO.keep {w w' : World} {Ok Ok' : Nat → Prop} {S : List Nat} {p : Option Addr} {c : Nat} {ts : List LitT} (h : LitsO w Ok p c ts) (hf : Fr S w w') (hS : ∀ g, Ok g → g < w.heap.size → g ∉ S) (hO : ∀ g, Ok g → g < w.heap.size → Ok' g) : LitsO w' Ok' p c ts := by
  induction h with
  | mk p c ts nil at_ short txt kids ih =>
    refine .mk p c ts nil (fun hp => ?_) short txt ih
    obtain ⟨g, off, e, hg, ho, hc⟩ := at_ hp
    have hn := hS g ho hg
    exact ⟨g, off, e, Nat.lt_of_lt_of_le hg hf.size, hO g ho hg, fun i t ht => by
      have hl := hc i t ht
      exact ⟨(hf.cell (p := ⟨g, off + i * 4, none⟩) hg hn).trans hl.c0, (hf.cell (p := ⟨g, off + i * 4 + 1, none⟩) hg hn).trans hl.c1, (hf.cell (p := ⟨g, off + i * 4 + 2, none⟩) hg hn).trans hl.c2, (hf.cell (p := ⟨g, off + i * 4 + 3, none⟩) hg hn).trans hl.c3⟩⟩
theorem LitsO.plain {w : World} {Ok : Nat → Prop} {p : Option Addr} {c : Nat} {ts : List LitT} (h : LitsO w Ok p c ts) : LitsR w p c ts := by
  induction h with
  | mk p c ts nil at_ short txt kids ih =>
    refine .mk p c ts nil (fun hp => ?_) short txt ih
    obtain ⟨g, off, e, hg, ho, hc⟩ := at_ hp
    exact ⟨g, off, e, hg, hc⟩
def litCells (l : List LitT) : List Value := l.flatMap litc
theorem litCells_at (l : List LitT) : ∀ i t j, l[i]? = some t → j < 4 → (litCells l)[i * 4 + j]? = (litc t)[j]? := by
  induction l with
  | nil => intro i t j h; simp at h
  | cons q l ih =>
    intro i t j hi hj
    have e : litCells (q :: l) = litc q ++ litCells l := by simp [litCells]
    rw [e]
    cases i with
    | zero =>
      have : q = t := by simpa using hi
      subst this
      rw [List.getElem?_append_left (by simp [litc]; omega)]; simp
    | succ i =>
      rw [List.getElem?_append_right (by simp [litc]; omega), show (i + 1) * 4 + j - (litc q).length = i * 4 + j from by simp [litc]; omega]
      exact ih i t j (by simpa using hi) hj
/-- a row of literals of one's own can be read -/
theorem row_lits {w : World} {B : Nat} {Ok : Nat → Prop} {p : Option Addr} {n c : Nat} {us rest : List LitT} (h : w.ownsRow B 54 4 (.slice p n c) n (litCells (us ++ rest))) (hn : (us ++ rest).length = n) (hp : 0 < n) (hOk : ∀ g, g ∈ blk p → Ok g) (hs : us.length ≤ 2513169434916) (ht : ∀ t ∈ us, t.text.size ≤ 140737488355328) (hk : ∀ t ∈ us, LitsO w Ok t.p t.c t.kids) : LitsO w Ok p c us := by
  rcases h.2 with ⟨e, e0⟩ | ⟨g, cap, cur, e, q1, q2, q3, q4⟩
  · omega
  · injection e with e1 _ e3
    subst e1 e3
    refine .mk _ _ us (fun h0 => by cases h0) (fun _ => ⟨g, 0, rfl, lt_of_heap q2, hOk g (by simp [blk]), fun i t hit => ?_⟩) hs ht hk
    have hlt : i < us.length := (List.getElem?_eq_some_iff.1 hit).1
    have hit2 : (us ++ rest)[i]? = some t := by rw [List.getElem?_append_left hlt]; exact hit
    have hc : ∀ j, j < 4 → w.cell? ⟨g, i * 4 + j, none⟩ = (litc t)[j]? := fun j hj => by
      rw [h.cellAt (i * 4 + j) (by simp at hn; omega)]
      exact litCells_at _ i t j hit2 hj
    rw [Nat.zero_add]
    exact ⟨hc 0 (by omega), hc 1 (by omega), hc 2 (by omega), hc 3 (by omega)⟩
end Go.Proofs.YtdflpoldlokijaaDoor
namespace Go.Proofs.YtdflpoldlokijaaDoor
open Go.RowKit
set_option linter.unusedVariables false
set_option linter.unusedSimpArgs false
attribute [local go_sem ↓] Go.wp_at_zero Go.wp_at_succ
def TwP (w : World) (n : Nat) (e : Ending) (w' : World) : Prop := ∃ p' c' us, e = .returned (.slice p' n c') ∧ us.length = n ∧ Fr [] w w' ∧ LitsO w' (fun g => w.heap.size ≤ g) p' c' us
/-- a row of copies under way -/
def Tw (w wr : World) (i : Nat) (p' : Option Addr) (c' : Nat) (us : List LitT) : Prop := us.length = i ∧ wr.ownsRow w.heap.size 54 4 (.slice p' i c') i (litCells us) ∧ (∀ u ∈ us, u.text.size ≤ 140737488355328 ∧ LitsO wr (fun g => w.heap.size ≤ g ∧ g ∉ blk p') u.p u.c u.kids) ∧ Fr [] w wr
def markL : LitT := .mk (-7) ⟨#[]⟩ 0 none 0 []
theorem markL_kids (w : World) (Ok : Nat → Prop) : LitsO w Ok markL.p markL.c markL.kids := .mk none 0 [] (fun _ => rfl) (fun h => by simp at h) (by simp) (fun t ht => by simp at ht) (fun t ht => by simp at ht)
/-- one copy more -/
theorem Tw.push {w wr V : World} {i : Nat} {p' : Option Addr} {c' : Nat} {us : List LitT} (h : Tw w wr i p' c' us) (hi : i ≤ 2513169434916) (S : List Nat) (hf : Fr S wr V) (hS : ∀ g ∈ S, wr.heap.size ≤ g) (u : LitT) (hu : u.text.size ≤ 140737488355328) (hk : LitsO V (fun g => w.heap.size ≤ g ∧ g ∉ blk p') u.p u.c u.kids) :
    ∃ p2 c2 w3, (Builtin.append_ #[22, 22] 22 #[.slice p' i c', .slice (some ⟨V.heap.size, 0, none⟩) 1 1]).run Tryd.prog (V.alloc (.cells (litc u).toArray 54)) = .ok (.slice p2 (i + 1) c2) w3 ∧ Tw w w3 (i + 1) p2 c2 (us ++ [u]) := by
  obtain ⟨hl, ho, hks, hfr⟩ := h
  have hb := fun g (hg : g ∈ blk p') => own_lt ho g ((blk_own _ _ _ _).2 hg)
  have ho2 : V.ownsRow w.heap.size 54 4 (.slice p' i c') i (litCells us) := own_congr ho fun g hg => hf.block g (own_lt ho g hg).2 (fun hm => by have := hS g hm; have := (own_lt ho g hg).2; omega)
  have hFV : Fr [] w V := hfr.trans hf (fun g hg => .inr (Nat.le_trans hfr.size (hS g hg)))
  obtain ⟨p2, c2, w3, r, o3, m⟩ := pushS (t := 22) (e := 54) Tryd.underlying22 info54 rfl (by decide) V w.heap.size p' c' i (litCells us) (litc u) rfl ho2 (by simp [litc, Value.oneCell', LitT.items]) (by unfold maxLen; omega) (by omega) hFV.size
  have hksV : ∀ y ∈ us, LitsO V (fun g => w.heap.size ≤ g ∧ g ∉ blk p') y.p y.c y.kids := fun y hy => (hks y hy).2.keep hf (fun g hg hl hm => by have := hS g hm; omega) (fun g hg _ => hg)
  have hall : ∀ y ∈ us ++ [u], y.text.size ≤ 140737488355328 ∧ LitsO V (fun g => w.heap.size ≤ g ∧ g ∉ blk p') y.p y.c y.kids := fun y hy => by
    rcases List.mem_append.1 hy with hy | hy
    · exact ⟨(hks y hy).1, hksV y hy⟩
    · have : y = u := by simpa using hy
      subst this; exact ⟨hu, hk⟩
  refine ⟨p2, c2, w3, r, by simp [hl], ?_, fun y hy => ⟨(hall y hy).1, ?_⟩, ?_⟩
  · have e : litCells (us ++ [u]) = litCells us ++ litc u := by simp [litCells]
    rw [e]; exact o3
  · rcases m with ⟨rfl, -, e3⟩ | ⟨e1, e2⟩
    · exact (hall y hy).2.keep e3 (fun g hg _ => hg.2) (fun g hg _ => hg)
    · exact (hall y hy).2.keep e1 (fun g hg _ => by simp) (fun g hg hl => ⟨hg.1, fun hm => by have := e2 g hm; omega⟩)
  · rcases m with ⟨-, -, e3⟩ | ⟨e1, -⟩
    · exact hFV.trans e3 (fun g hg => .inr (hb g hg).1)
    · exact hFV.tr0 e1
set_option maxRecDepth 100000 in
set_option maxHeartbeats 4000000 in
theorem twin_ok (w0 : World) (p : Option Addr) (c : Nat) (ts : List LitT) (h : LitsR w0 p c ts) : ∀ w, Fr [] w0 w → Calls Tryd.prog 7 #[.slice p ts.length c] w fun e w' => TwP w ts.length e w' := by
  induction h with
  | mk p c ts nil at_ short txt kids ih =>
    intro w hf
    have HAt := mkHid at_
    have HIh := mkHid ih
    have HTx := mkHid txt
    have HF := mkHid hf
    clear at_ ih txt hf nil kids
    go_enter Tryd.func7, Tryd.ntmps7
    go_wp2_with fail
    go_loopw [3, 4] (fun m q wr => ∃ i : Nat, i ≤ ts.length ∧ q = .int .i64 i ∧ ∃ p' c', m = .slice p' i c' ∧ Hid (∃ us, Tw w wr i p' c' us)) (fun _ q _ => ts.length - (intOf q).toNat)
    case atStart => exact ⟨0, Nat.zero_le _, rfl, none, 0, rfl, [], rfl, ⟨rfl, .inl ⟨rfl, rfl⟩⟩, fun u hu => by simp at hu, Fr.refl _ _⟩
    case round =>
      obtain ⟨i, hin, rfl, p', c', rfl, hst⟩ := hrel
      obtain ⟨us, htw⟩ := hst.out
      have i0 : (0 : Int) ≤ (i : Int) := by omega
      by_cases hlt : i < ts.length
      · have i1 : (i : Int) < (ts.length : Int) := by omega
        obtain ⟨ge, oe, rfl, hge, hce⟩ := HAt.out (by omega)
        obtain ⟨t2, ht2⟩ : ∃ t2, ts[i]? = some t2 := ⟨_, List.getElem?_eq_getElem hlt⟩
        have F0 : Fr [] w0 wr := HF.out.tr0 htw.2.2.2
        have hl := (hce i t2 ht2).idle F0
        have hmem := List.mem_of_getElem? ht2
        obtain ⟨y0, y1, y2, y3'⟩ := hl
        have y3 : wr.cell? ⟨ge, oe + i * 4 + 3, none⟩ = some (.slice t2.p t2.kids.length t2.c) := y3'
        have HTw := mkHid htw
        have HTx2 := mkHid (HTx.out t2 hmem)
        have HCall : Hid (∀ o, Calls Tryd.prog 7 #[.slice t2.p t2.kids.length t2.c] (wr.alloc o) fun e w' => TwP (wr.alloc o) t2.kids.length e w') := fun o => HIh.out t2 hmem (wr.alloc o) (F0.al o)
        have hgw : ge < wr.heap.size := Nat.lt_of_lt_of_le hge F0.size
        have HPush : Hid (∀ w1 o p1 c1 us1, us1.length = t2.kids.length → Fr [] (wr.alloc o) w1 → LitsO w1 (fun g => (wr.alloc o).heap.size ≤ g) p1 c1 us1 → ∃ p2 c2 w3, (Builtin.append_ #[22, 22] 22 #[.slice p' i c', .slice (some ⟨w1.heap.size, 0, none⟩) 1 1]).run Tryd.prog ((w1.setCell ⟨wr.heap.size, 3, none⟩ (.slice p1 t2.kids.length c1)).alloc (.cells #[.int .i64 t2.kind, .string t2.text, .int .i64 t2.num, .slice p1 t2.kids.length c1] 54)) = .ok (.slice p2 (i + 1) c2) w3 ∧ ∃ us', Tw w w3 (i + 1) p2 c2 us') := fun w1 o p1 c1 us1 hlen f1 o1 => by
          have fs : Fr [wr.heap.size] w1 (w1.setCell ⟨wr.heap.size, 3, none⟩ (.slice p1 t2.kids.length c1)) := Fr.setCell (S := [wr.heap.size]) w1 ⟨wr.heap.size, 3, none⟩ _ (by simp)
          have fV : Fr [wr.heap.size] wr (w1.setCell ⟨wr.heap.size, 3, none⟩ (.slice p1 t2.kids.length c1)) := (((Fr.alloc [] wr o).tr0 f1).mono (S' := [wr.heap.size]) (by simp)).trans fs (fun g hg => .inl hg)
          have hsz : (wr.alloc o).heap.size = wr.heap.size + 1 := by simp
          have hk : LitsO (w1.setCell ⟨wr.heap.size, 3, none⟩ (.slice p1 t2.kids.length c1)) (fun g => w.heap.size ≤ g ∧ g ∉ blk p') p1 c1 us1 := o1.keep fs (fun g hg _ hm => by simp at hm; omega) (fun g hg _ => ⟨by have := HTw.out.2.2.2.size; omega, fun hm => by have := (own_lt HTw.out.2.1 g ((blk_own _ _ _ _).2 hm)).2; omega⟩)
          obtain ⟨p2, c2, w3, r, tw⟩ := HTw.out.push (V := w1.setCell ⟨wr.heap.size, 3, none⟩ (.slice p1 t2.kids.length c1)) (by omega) [wr.heap.size] fV (by simp) (.mk t2.kind t2.text t2.num p1 c1 us1) HTx2.out hk
          have es : (w1.setCell ⟨wr.heap.size, 3, none⟩ (.slice p1 t2.kids.length c1)).heap.size = w1.heap.size := by simp
          rw [es] at r
          refine ⟨p2, c2, w3, ?_, _, tw⟩
          have el : (litc (.mk t2.kind t2.text t2.num p1 c1 us1)).toArray = #[.int .i64 t2.kind, .string t2.text, .int .i64 t2.num, .slice p1 t2.kids.length c1] := by
            show #[Value.int .i64 t2.kind, .string t2.text, .int .i64 t2.num, .slice p1 us1.length c1] = _
            rw [hlen]
          rw [el] at r
          exact r
        clear hst htw hce F0 hmem ht2 y3'
        generalize t2.kind = k0 at *
        generalize t2.text = k1 at *
        generalize t2.num = k2 at *
        generalize t2.p = tp at *
        generalize t2.c = tc at *
        generalize t2.kids.length = tn at *
        go_wp2_with (first
          | (go_at_call 7; refine (HCall.out _).mono ?_; rintro e w1 ⟨p1, c1, us1, rfl, hl1, f1, o1⟩; have x0 : w1.heap[wr.heap.size]? = some (.cells #[.int .i64 k0, .string k1, .int .i64 k2, .slice tp tn tc] 54 (0, 0)) := f1.hb (heap_alloc_new wr _); obtain ⟨p2, c2, w3, r3, tw3⟩ := HPush.out w1 _ p1 c1 us1 hl1 f1 o1; have u0 : w1.cell? ⟨wr.heap.size, 0, none⟩ = some (.int .i64 k0) := by rw [cell_in x0]; rfl
             have u1 : w1.cell? ⟨wr.heap.size, 1, none⟩ = some (.string k1) := by rw [cell_in x0]; rfl
             have u2 : w1.cell? ⟨wr.heap.size, 2, none⟩ = some (.int .i64 k2) := by rw [cell_in x0]; rfl
             have u3 : w1.cell? ⟨wr.heap.size, 3, none⟩ = some (.slice tp tn tc) := by rw [cell_in x0]; rfl
             have z3 := frozen_in x0 3
             have R3 := mkHid r3
             have T3 := mkHid tw3
             clear x0 r3 tw3 f1 o1 hl1)
          | (at_builtin; refine Lib.wpList_append_run _ rfl (.tmp 23) (.tmp 25) 22 22 rfl _ _ rfl rfl _ _ R3.out ?_))
        go_roundw
        case rel => exact ⟨i + 1, by omega, by go_num, p2, c2, rfl, T3.out⟩
        case measure => simp [intOf]; omega
      · have i1 : ¬ (i : Int) < (ts.length : Int) := by omega
        have d1 : decide ((i : Int) < (ts.length : Int)) = false := decide_eq_false i1
        have hie : i = ts.length := by omega
        subst hie
        obtain ⟨p2, c2, w3, r, tw⟩ := htw.push (V := wr) (by omega) [] (Fr.refl [] wr) (by simp) markL (by decide) (markL_kids wr _)
        have R := mkHid r
        obtain ⟨g2, hp2, hc2⟩ : ∃ g2, p2 = some ⟨g2, 0, none⟩ ∧ ts.length + 1 ≤ c2 := by
          rcases tw.2.1.2 with ⟨e, e0⟩ | ⟨g, cap, cur, e, q1, q2, q3, q4⟩
          · omega
          · injection e with e1 _ e3
            exact ⟨g, e1, by omega⟩
        subst hp2
        have HEnd : Hid (TwP w ts.length (.returned (.slice (some ⟨g2, 0, none⟩) ts.length c2)) w3) := by
          refine ⟨some ⟨g2, 0, none⟩, c2, us, rfl, htw.1, tw.2.2.2, ?_⟩
          refine row_lits (rest := [markL]) tw.2.1 tw.1 (by omega) (fun g hg => (own_lt tw.2.1 g ((blk_own _ _ _ _).2 hg)).1) (by rw [htw.1]; exact short) (fun t ht => (tw.2.2.1 t (by simp [ht])).1) (fun t ht => (tw.2.2.1 t (by simp [ht])).2.keep (Fr.refl [] w3) (fun _ _ _ => by simp) (fun g hg _ => hg.1))
        have q1 : (ts.length : Int) ≤ (c2 : Int) := by omega
        clear hst htw tw r
        go_wp2_with (at_builtin; refine Lib.wpList_append_run _ rfl (.tmp 27) (.tmp 29) 22 22 rfl _ _ rfl rfl _ _ R.out ?_)
        go_ret
        exact HEnd.out
end Go.Proofs.YtdflpoldlokijaaDoor
namespace Go.Proofs.YtdflpoldlokijaaDoor
open Go.RowKit
set_option linter.unusedVariables false
set_option linter.unusedSimpArgs false
attribute [local go_sem ↓] Go.wp_at_zero Go.wp_at_succ
/-- a level of literals: its cells can be read, and what is in them was there at first -/
structure LvR (w0 w : World) (p : Option Addr) (c : Nat) (ts : List LitT) : Prop where
  at_ : 0 < ts.length → ∃ g off, p = some ⟨g, off, none⟩ ∧ g < w.heap.size ∧ ∀ i t, ts[i]? = some t → LitAt w g (off + i * 4) t
  short : ts.length ≤ 2513169434916
  txt : ∀ t ∈ ts, t.text.size ≤ 140737488355328
  kids : ∀ t ∈ ts, LitsR w0 t.p t.c t.kids
theorem LvR.idle {w0 w w' : World} {p : Option Addr} {c : Nat} {ts : List LitT} (h : LvR w0 w p c ts) (hf : Fr [] w w') : LvR w0 w' p c ts :=
  ⟨fun hp => by obtain ⟨g, off, e, hg, hc⟩ := h.at_ hp; exact ⟨g, off, e, Nat.lt_of_lt_of_le hg hf.size, fun i t ht => (hc i t ht).idle hf⟩, h.short, h.txt, h.kids⟩
theorem litCells_len (l : List LitT) : (litCells l).length = l.length * 4 := by
  induction l with
  | nil => rfl
  | cons q l ih => rw [show litCells (q :: l) = litc q ++ litCells l by simp [litCells], List.length_append, ih]; simp [litc]; omega
theorem lit_one (l : List LitT) : ∀ x ∈ litCells l, x.oneCell' = true := fun x hx => by
  obtain ⟨t, _, ht⟩ := List.mem_flatMap.1 hx
  simp only [litc, List.mem_cons, List.not_mem_nil, or_false] at ht
  rcases ht with rfl | rfl | rfl | rfl <;> rfl
/-- all of a list of literals behind an own row -/
theorem push_lits {w0 w : World} {B : Nat} {p : Option Addr} {n c : Nat} {us : List LitT} (h : w.ownsRow B 54 4 (.slice p n c) n (litCells us)) (hl : us.length = n) {q : Option Addr} {d : Nat} {ks : List LitT} (hk : LitsR w0 q d ks) (hf : Fr [] w0 w) (hn : n + ks.length ≤ 2000000) (hB : B ≤ w.heap.size) :
    ∃ p' c' w', (Builtin.append_ #[22, 22] 22 #[.slice p n c, .slice q ks.length d]).run Tryd.prog w = .ok (.slice p' (n + ks.length) c') w' ∧ w'.ownsRow B 54 4 (.slice p' (n + ks.length) c') (n + ks.length) (litCells (us ++ ks)) ∧ Fr (blk p) w w' := by
  obtain ⟨i54, ii, iz, is, ib⟩ := info_parts info54
  cases hk with
  | mk _ _ _ nil at_ short txt kids =>
  have e : litCells (us ++ ks) = litCells us ++ litCells ks := by simp [litCells]
  cases q with
  | none =>
    have h0 : ks.length = 0 := by
      rcases Nat.eq_zero_or_pos ks.length with h0 | h0
      · exact h0
      · obtain ⟨g, off, e2, _⟩ := at_ h0; cases e2
    have hs : ks = [] := List.length_eq_zero_iff.1 h0
    have hc := nil rfl
    subst hs
    subst hc
    refine ⟨p, c, w, run_append_owned_none (P := Tryd.prog) (w := w) B 22 22 54 i54 4 Tryd.underlying22 ii _ _ _ h, by rw [List.append_nil]; exact h, Fr.refl _ _⟩
  | some ad =>
    have hnews : ∀ j x, (litCells ks)[j]? = some x → w.cell? (ad.add j) = some x := fun j x hx => by
      have hj : j < (litCells ks).length := (List.getElem?_eq_some_iff.1 hx).1
      rw [litCells_len] at hj
      obtain ⟨g, off, e2, hg, hc⟩ := at_ (by omega)
      have hi : j / 4 < ks.length := by omega
      have ht := List.getElem?_eq_getElem hi
      have hl4 := (hc (j / 4) _ ht).idle hf
      have hx2 := litCells_at ks (j / 4) _ (j % 4) ht (Nat.mod_lt _ (by decide))
      rw [show j / 4 * 4 + j % 4 = j by omega, hx] at hx2
      rw [Option.some.inj e2, Addr.add_mid, show off + j = off + j / 4 * 4 + j % 4 by omega]
      have hm : j % 4 < 4 := Nat.mod_lt _ (by decide)
      generalize j % 4 = m at *
      rcases m with _ | _ | _ | _ | m
      · rw [Nat.add_zero, hl4.c0]; exact hx2.symm
      · rw [hl4.c1]; exact hx2.symm
      · rw [hl4.c2]; exact hx2.symm
      · rw [hl4.c3]; exact hx2.symm
      · omega
    obtain ⟨v', w', hr, h2, h3, _, h5⟩ := run_append_own_at (P := Tryd.prog) w B 22 22 54 i54 _ 4 56 Tryd.underlying22 ii iz is ib rfl (by decide) _ _ _ h ad ks.length d (litCells ks) (by rw [litCells_len]) hnews (lit_one ks) (by unfold maxLen; omega) (by omega) hB
    obtain ⟨p', c', rfl⟩ : ∃ p' c', v' = .slice p' (n + ks.length) c' := by
      rcases h2.2 with ⟨rfl, e0⟩ | ⟨g', cap, cur, rfl, _⟩
      · exact ⟨none, 0, by rw [e0]⟩
      · exact ⟨_, _, rfl⟩
    refine ⟨p', c', w', hr, by rw [e]; exact h2, Fr.grown h3 (fun k hk => (blk_own p n c k).1 hk)⟩
end Go.Proofs.YtdflpoldlokijaaDoor
