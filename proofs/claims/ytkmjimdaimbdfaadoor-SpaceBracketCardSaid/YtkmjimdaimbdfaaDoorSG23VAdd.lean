import Derived.Test.YtkmjimdaimbdfaaDoorSG22TRts
import Derived.Maps.AppendAt
namespace Go.Proofs.YtkmjimdaimbdfaaDoor
open Go.RowKit Go.Maps
set_option linter.unusedVariables false
set_option linter.unusedSimpArgs false
attribute [local go_sem ↓] Go.wp_at_zero Go.wp_at_succ
theorem LowK.le {ks : List Key} {q : Nat} (h : LowK ks q) : q ≤ ks.length + 1 := by
  have h1 := nodup_sub (List.range' 1 (q - 1)) (ks.map fun k => k.1.toNat) (List.nodup_range') (fun x hx => by
    rw [List.mem_range'_1] at hx
    obtain ⟨k, k1, k2⟩ := h.below x (by omega) (by omega)
    exact List.mem_map.2 ⟨k, k1, by omega⟩)
  rw [List.length_range', List.length_map] at h1
  omega
theorem aErrK_room {words oops mark : Nat} {ks : List Key} {cl n f : Int} (h : aErrK words oops mark ks cl n f = 0) : oops ≠ ks.length := by
  unfold aErrK at h
  split at h
  · omega
  · split at h
    · omega
    · split at h
      · omega
      · rename_i h3
        exact fun e => h3 (.inl e)
section
variable {words oops mark : Nat} {ks : List Key} {H : HS} {M : MS}
/-- what an allocation leaves, taken or not -/
def AlcP (words oops mark : Nat) (ks : List Key) (H : HS) (M : MS) (a : Nat) (l : Lay) (cl n f : Int) (w : World) (e : Ending) (w' : World) : Prop :=
  (aErrK words oops mark ks cl n f ≠ 0 ∧ e = .returned (.tuple #[.int .i64 0, .int .i64 (aErrK words oops mark ks cl n f)]) ∧ ∃ H' M', Rep w' a l H' ∧ KA words oops (if aErrK words oops mark ks cl n f = 24 then 0 else mark) ks H' M' ∧ Ext M M' ∧ H'.age = H.age ∧ Nx a l l w w') ∨
  (aErrK words oops mark ks cl n f = 0 ∧ ∃ q l' H' M', LowK ks q ∧ q ≤ 65536 ∧ e = .returned (.tuple #[.int .i64 (4 * (q : Int)), .int .i64 0]) ∧ Rep w' a l' H' ∧ KA words oops (mark - 1) (ks ++ [newKey q cl n.toNat f.toNat]) H' M' ∧ Ext M M' ∧ H'.age = H.age ∧ Nx a l l' w w')
set_option maxRecDepth 20000 in
set_option maxHeartbeats 1000000 in
theorem tried_ok (cl n f : Int) (a : Nat) (l : Lay) (w : World) (hR : Rep w a l H) (h : KA words oops mark ks H M) (hT : Tab w) (hT2 : Tab64 w) (ha : 2 ≤ a) :
    Calls Tryd.prog 49 #[.func (.func 50) #[.pointer (some ⟨a, 0, none⟩)] #[], .int .i64 cl, .int .i64 n, .int .i64 f] w (AlcP words oops mark ks H M a l cl n f w) := by
  have HA := mkHid (alloc_at cl n f a l w hR h hT hT2 ha)
  have hsm := h.small
  have hcn := h.count
  have hco := h.inv.safe.small.count
  have hoo := h.oops
  clear hR h hT hT2
  obtain ⟨Qp, hQp⟩ : ∃ Qp, Qp = AlcP words oops mark ks H M a l cl n f w := ⟨_, rfl⟩
  rw [← hQp]
  have HQ := mkHid hQp
  clear hQp
  go_enter Tryd.func49, Tryd.ntmps49
  go_wp2_with fail
  refine Calls.mono HA.out ?_
  rintro e w1 (⟨h1, rfl, h2⟩ | ⟨h1, q, l', H', M', h2, rfl, h3⟩)
  · obtain ⟨E, hE⟩ : ∃ E, E = aErrK words oops mark ks cl n f := ⟨_, rfl⟩
    rw [← hE] at h1
    rw [← hE]
    have hb : (E != 0) = true := by simpa using h1
    have H1 := mkHid h1
    have HE := mkHid hE
    have H2 := mkHid h2
    clear h1 h2 hE HA
    go_wp2_with fail
    rw [HQ.out]
    unfold AlcP
    exact .inl ⟨by rw [← HE.out]; exact H1.out, by rw [← HE.out]; rfl, H2.out⟩
  · have hq := h2.le
    have hne := aErrK_room h1
    have hq2 : (q : Int) ≤ 65536 := by omega
    have hq1 : (1 : Int) ≤ (q : Int) := by have := h2.pos; omega
    have HO := mkHid (Object_ok (q : Int) w1 hq1 hq2)
    have H1 := mkHid h1
    have H2 := mkHid h2
    have H3 := mkHid h3
    clear h1 h2 h3 HA hne hq
    go_wp2_with (first | (go_at_call 74; refine Calls.mono HO.out ?_; rintro e w' ⟨rfl, hw'⟩; rw [hw']; clear hw' w') | go_in)
    rw [HQ.out]
    unfold AlcP
    exact .inr ⟨H1.out, q, l', H', M', H2.out, by omega, rfl, H3.out⟩
end
end Go.Proofs.YtkmjimdaimbdfaaDoor
namespace Go.Proofs.YtkmjimdaimbdfaaDoor
open Go.RowKit Go.Maps
set_option linter.unusedVariables false
set_option linter.unusedSimpArgs false
attribute [local go_sem ↓] Go.wp_at_zero Go.wp_at_succ
/-- an allocation of a space that is not collected for it -/
def AlcQ (X : SpS) (cl n f : Int) (s a : Nat) (l : Lay) (w : World) (e : Ending) (w' : World) : Prop :=
  (aErrK X.words X.oops X.mark X.ks cl n f ≠ 0 ∧ e = .returned (.tuple #[.int .i64 0, .int .i64 (aErrK X.words X.oops X.mark X.ks cl n f)]) ∧ ∃ H' M', Spc w' s a l { X with mark := (if aErrK X.words X.oops X.mark X.ks cl n f = 24 then 0 else X.mark), H := H', M := M' } ∧ Ext X.M M' ∧ H'.age = X.H.age ∧ Nx a l l w w') ∨
  (aErrK X.words X.oops X.mark X.ks cl n f = 0 ∧ ∃ q l' H' M', LowK X.ks q ∧ q ≤ 65536 ∧ e = .returned (.tuple #[.int .i64 (4 * (q : Int)), .int .i64 0]) ∧ Spc w' s a l' { X with mark := X.mark - 1, ks := X.ks ++ [newKey q cl n.toNat f.toNat], H := H', M := M' } ∧ Ext X.M M' ∧ H'.age = X.H.age ∧ Nx a l l' w w')
theorem AlcP.spc {X : SpS} {cl n f : Int} {s a : Nat} {l : Lay} {w w' : World} {e : Ending} (h : Spc w s a l X) (hp : AlcP X.words X.oops X.mark X.ks X.H X.M a l cl n f w e w') : AlcQ X cl n f s a l w e w' := by
  rcases hp with ⟨h1, h2, H', M', h3, h4, h5, h6, h7⟩ | ⟨h1, q, l', H', M', h2, h3, h4, h5, h6, h7, h8, h9⟩
  · exact .inl ⟨h1, h2, H', M', h.heap h3 h4 h7, h5, h6, h7⟩
  · exact .inr ⟨h1, q, l', H', M', h2, h3, h4, h.heap h5 h6 h9, h7, h8, h9⟩
theorem AlcQ.err {X : SpS} {cl n f : Int} {s a : Nat} {l : Lay} {w w' : World} {e : Ending} (h : AlcQ X cl n f s a l w e w') : ∃ wd, e = .returned (.tuple #[.int .i64 wd, .int .i64 (aErrK X.words X.oops X.mark X.ks cl n f)]) := by
  rcases h with ⟨h1, h2, -⟩ | ⟨h1, q, l', H', M', h2, h3, h4, -⟩
  · exact ⟨0, h2⟩
  · exact ⟨_, by rw [h4, h1]⟩
/-- a tried allocation of a space -/
theorem stried_ok {w : World} {s a : Nat} {l : Lay} {X : SpS} (h : Spc w s a l X) (cl n f : Int) (hT : Tab w) (hT2 : Tab64 w) (ha : 2 ≤ a) :
    Calls Tryd.prog 49 #[.func (.func 50) #[.pointer (some ⟨a, 0, none⟩)] #[], .int .i64 cl, .int .i64 n, .int .i64 f] w (AlcQ X cl n f s a l w) :=
  (tried_ok cl n f a l w h.rep h.ka hT hT2 ha).mono fun e w' hp => hp.spc h
set_option maxRecDepth 20000 in
set_option maxHeartbeats 1000000 in
/-- Alloc where nothing is collected for it -/
theorem salloc_once {w : World} {s a : Nat} {l : Lay} {X : SpS} (h : Spc w s a l X) (cl n f : Int) (hT : Tab w) (hT0 : 0 < w.heap.size) (hT2 : ∀ V, Fr [] w V → Tab64 V) (ha : 2 ≤ a) (hc : aErrK X.words X.oops X.mark X.ks cl n f ≠ 23 ∨ X.br ≠ none) :
    Calls Tryd.prog 18 #[.pointer (some ⟨s, 0, none⟩), .int .i64 cl, .int .i64 n, .int .i64 f] w fun e w' => ∃ V, Fr [] w V ∧ AlcQ X cl n f s a l V e w' := by
  have HM := mkHid (smade_ok h)
  have HS := mkHid h
  have HT : Hid (∀ V, Fr [] w V → Tab V ∧ Tab64 V) := fun V hV => ⟨hT.fr hV hT0, hT2 V hV⟩
  clear h hT hT2 hT0
  go_enter Tryd.func18, Tryd.ntmps18
  go_wp2_with fail
  refine Calls.mono HM.out ?_
  rintro e w1 ⟨rfl, hf⟩
  have hs1 := HS.out.idle hf
  obtain ⟨-, c1, -, -, -, -, -⟩ := hs1.cells
  have HA := mkHid (stried_ok hs1 cl n f (HT.out w1 hf).1 (HT.out w1 hf).2 ha)
  have HF := mkHid hf
  clear hs1 hf HM
  go_wp2_with fail
  refine Calls.mono HA.out ?_
  intro e w2 hq
  obtain ⟨wd, rfl⟩ := hq.err
  have c6 : w2.cell? ⟨s, 6, none⟩ = some (.pointer X.br) := by
    rcases hq with ⟨-, -, H', M', h3, -⟩ | ⟨-, q, l', H', M', -, -, -, h3, -⟩
    · exact h3.cells.2.2.2.2.2.2
    · exact h3.cells.2.2.2.2.2.2
  have HZ : Hid (∃ V, Fr [] w V ∧ AlcQ X cl n f s a l V (.returned (.tuple #[.int .i64 wd, .int .i64 (aErrK X.words X.oops X.mark X.ks cl n f)])) w2) := ⟨w1, HF.out, hq⟩
  obtain ⟨E, hE⟩ : ∃ E, E = aErrK X.words X.oops X.mark X.ks cl n f := ⟨_, rfl⟩
  rw [← hE] at HZ hc
  rw [← hE]
  clear hq HA hE
  by_cases h23 : E = 23
  · have hbr : X.br ≠ none := by rcases hc with h | h; exact absurd h23 h; exact h
    obtain ⟨b, hb⟩ := Option.ne_none_iff_exists'.1 hbr
    rw [hb] at c6
    subst h23
    clear hc hbr
    go_wp2_with fail
    go_ret2
    exact HZ.out
  · have hb : (E != 23) = true := by simpa using h23
    clear hc h23
    go_wp2_with fail
    go_ret2
    exact HZ.out
set_option maxRecDepth 20000 in
set_option maxHeartbeats 1000000 in
/-- Alloc where there is no room: what nothing leads to is taken away first -/
theorem salloc_full {w : World} {s a : Nat} {l : Lay} {X : SpS} (h : Spc w s a l X) (cl n f : Int) (hl : X.st.length ≤ 100000) (hr : X.root = 0 ∨ (1 ≤ X.root ∧ X.root ≤ 65536)) (hage : X.H.age ≤ 1000) (hT : Tab w) (hT0 : 0 < w.heap.size) (hTf : ∀ V, Fr (foot a l) w V → Tab V ∧ Tab64 V ∧ 0 < V.heap.size) (ha : 2 ≤ a) (hc : aErrK X.words X.oops X.mark X.ks cl n f = 23) (hb : X.br = none) :
    Calls Tryd.prog 18 #[.pointer (some ⟨s, 0, none⟩), .int .i64 cl, .int .i64 n, .int .i64 f] w fun e w' => ∃ V st M0 H' M', Ext X.M M0 ∧ Fr (foot a l) w V ∧ (∃ H0, KA X.words X.oops X.mark X.ks H0 M0 ∧ Sts H0 M0 (rootsOf X) st) ∧ H'.age = X.H.age + 1 ∧ AlcQ { X with ks := keepK X.ks st, H := H', M := M' } cl n f s a l V e w' := by
  have HM := mkHid (smade_ok h)
  have HS := mkHid h
  have HT := mkHid hTf
  clear h hTf hT
  go_enter Tryd.func18, Tryd.ntmps18
  go_wp2_with fail
  refine Calls.mono HM.out ?_
  rintro e w1 ⟨rfl, hf⟩
  have hs1 := HS.out.idle hf
  obtain ⟨-, c1, -, -, -, -, -⟩ := hs1.cells
  have hf1 : Fr (foot a l) w w1 := hf.mono (by simp)
  have HA := mkHid (stried_ok hs1 cl n f (HT.out w1 hf1).1 (HT.out w1 hf1).2.1 ha)
  have HF := mkHid hf1
  clear hs1 hf hf1 HM
  go_wp2_with fail
  refine Calls.mono HA.out ?_
  intro e w2 hq
  rcases hq with ⟨h1, rfl, H0, M0, h3, h4, h5, h6⟩ | ⟨h1, -⟩
  rotate_left
  · rw [hc] at h1; cases h1
  rw [hc] at h3 ⊢
  rw [if_neg (by decide)] at h3
  have hF2 : Fr (foot a l) w w2 := HF.out.trans h6.1 (fun b hb => .inl hb)
  obtain ⟨-, d1, -, -, -, -, c6⟩ := h3.cells
  have c6 : w2.cell? ⟨s, 6, none⟩ = some (.pointer none) := by rw [c6]; show some (Value.pointer X.br) = _; rw [hb]
  have HC := mkHid (collect_ok h3 hl hr (by show H0.age ≤ 1000; rw [h5]; exact hage) (HT.out w2 hF2).1 (HT.out w2 hF2).2.2)
  have HX := mkHid (And.intro h4 (And.intro h3.ka h5))
  have HF2 := mkHid hF2
  clear h1 h3 h4 h5 h6 hF2 HA HF hc d1
  go_wp2_with fail
  refine Calls.mono HC.out ?_
  rintro e w3 (⟨g1, -⟩ | ⟨-, st, H', M', g2, rfl, g4, g5, g6⟩)
  · exact absurd hb g1
  have hs3 : Spc w3 s a l { X with ks := keepK X.ks st, H := H', M := M' } := g4
  have hF3 : Fr (foot a l) w w3 := HF2.out.trans g6.1 (fun b hb => .inl hb)
  obtain ⟨-, k1, -, -, -, -, -⟩ := hs3.cells
  have HA3 := mkHid (stried_ok hs3 cl n f (HT.out w3 hF3).1 (HT.out w3 hF3).2.1 ha)
  have HZ : Hid (Ext X.M M0 ∧ Fr (foot a l) w w3 ∧ (∃ H0, KA X.words X.oops X.mark X.ks H0 M0 ∧ Sts H0 M0 (rootsOf X) st) ∧ H'.age = X.H.age + 1) := ⟨HX.out.1, hF3, ⟨H0, HX.out.2.1, g2⟩, by rw [g5]; show H0.age + 1 = _; rw [HX.out.2.2]⟩
  obtain ⟨Y, hY⟩ : ∃ Y : SpS, Y = { X with ks := keepK X.ks st, H := H', M := M' } := ⟨_, rfl⟩
  rw [← hY] at HA3
  have HY := mkHid hY
  clear g2 g4 g5 g6 hs3 hF3 HC HX HF2 hY
  go_wp2_with fail
  refine Calls.mono HA3.out ?_
  intro e w4 hq
  obtain ⟨wd, rfl⟩ := hq.err
  have HQ := mkHid hq
  clear hq HA3
  go_wp2_with fail
  go_ret2
  have hz := HZ.out
  have hq := HQ.out
  rw [HY.out] at hq
  exact ⟨w3, st, M0, H', M', hz.1, hz.2.1, hz.2.2.1, hz.2.2.2, by first | exact hq | (rw [HY.out]; exact hq)⟩
end Go.Proofs.YtkmjimdaimbdfaaDoor
namespace Go.Proofs.YtkmjimdaimbdfaaDoor
open Go.RowKit Go.Maps
set_option linter.unusedVariables false
set_option linter.unusedSimpArgs false
attribute [local go_sem ↓] Go.wp_at_zero Go.wp_at_succ
set_option maxRecDepth 20000 in
set_option maxHeartbeats 1000000 in
theorem commit_ok {w : World} {s a : Nat} {l : Lay} {X : SpS} (h : Spc w s a l X) : Calls Tryd.prog 21 #[.pointer (some ⟨s, 0, none⟩)] w fun e w' =>
    (X.br = none ∧ e = .returned (.int .i64 25) ∧ Fr [] w w') ∨ (X.br ≠ none ∧ e = .returned (.int .i64 0) ∧ Spc w' s a l { X with br := none } ∧ Fr [s] w w') := by
  have HC := mkHid (closed_ok h)
  clear h
  go_enter Tryd.func21, Tryd.ntmps21
  go_wp2_with fail
  refine Calls.mono HC.out ?_
  rintro e w1 (⟨h1, rfl, h2⟩ | ⟨b, h1, rfl, h2, h3⟩)
  · have H1 := mkHid (And.intro h1 h2)
    clear h1 h2 HC
    go_wp2_with fail
    go_ret
    exact .inl ⟨H1.out.1, rfl, H1.out.2⟩
  · have H1 := mkHid (And.intro h1 (And.intro h2 h3))
    clear h1 h2 h3 HC
    go_wp2_with fail
    go_ret
    exact .inr ⟨by rw [H1.out.1]; simp, rfl, H1.out.2.1, H1.out.2.2⟩
set_option maxRecDepth 20000 in
set_option maxHeartbeats 1000000 in
theorem drop_no {w : World} {s a : Nat} {l : Lay} {X : SpS} (h : Spc w s a l X) (n : Int) (hn : n < 0 ∨ (X.st.length : Int) < n) : Calls Tryd.prog 39 #[.pointer (some ⟨s, 0, none⟩), .int .i64 n] w fun e w' => e = .returned (.int .i64 28) ∧ Fr [] w w' := by
  have HM := mkHid (smade_ok h)
  have HS := mkHid h
  clear h
  go_enter Tryd.func39, Tryd.ntmps39
  go_wp2_with fail
  refine Calls.mono HM.out ?_
  rintro e w1 ⟨rfl, hf⟩
  have hs1 := HS.out.idle hf
  obtain ⟨-, -, -, -, -, c5, -⟩ := hs1.cells
  obtain ⟨p, c, hv⟩ := row_is hs1.stk
  rw [hv] at c5
  have HF := mkHid hf
  clear hs1 hf HM hv
  rcases hn with hn | hn
  · go_wp2_with fail
    go_ret
    exact ⟨rfl, HF.out⟩
  · have h0 : ¬ n < 0 := by omega
    go_wp2_with fail
    go_ret
    exact ⟨rfl, HF.out⟩
end Go.Proofs.YtkmjimdaimbdfaaDoor
namespace Go.Proofs.YtkmjimdaimbdfaaDoor
open Go.RowKit
set_option linter.unusedVariables false
/-- the place of an oop in a list of keys -/
def atK (ks : List Key) (q : Int) : Option Nat := ks.findIdx? fun k => decide (k.1 = q)
/-- the place of what a word names -/
def nmK (ks : List Key) (z : Int) : Option Nat := if kindOf z = 3 then atK ks (z / 4) else none
/-- a place as a number -/
def plN (o : Option Nat) : Int := match o with | some i => (i : Int) | none => -1
/-- places with one that may be new -/
def addP (l : List Nat) (o : Option Nat) : List Nat := match o with | some i => if i ∈ l then l else l ++ [i] | none => l
/-- the words by which an object leads on -/
def lkK (k : Key) : List Int := k.2.1 :: (if k.2.2.1 = 0 then k.2.2.2 else [])
def noK : Key := (0, 0, 0, [])
theorem atK_some {ks : List Key} {q : Int} {i : Nat} (h : atK ks q = some i) : i < ks.length ∧ (ks.getD i noK).1 = q ∧ ∀ j, j < i → (ks.getD j noK).1 ≠ q := by
  unfold atK at h
  rw [List.findIdx?_eq_some_iff_getElem] at h
  obtain ⟨h1, h2, h3⟩ := h
  refine ⟨h1, ?_, fun j hj => ?_⟩
  · rw [List.getD_eq_getElem?_getD, List.getElem?_eq_getElem h1]
    simpa using h2
  · rw [List.getD_eq_getElem?_getD, List.getElem?_eq_getElem (by omega)]
    simpa using h3 j hj
theorem atK_none {ks : List Key} {q : Int} (h : atK ks q = none) : ∀ k ∈ ks, k.1 ≠ q := by
  unfold atK at h
  rw [List.findIdx?_eq_none_iff] at h
  intro k hk
  simpa using h k hk
theorem keyD_mem {ks : List Key} {i : Nat} (h : i < ks.length) : ks.getD i noK ∈ ks := by
  rw [List.getD_eq_getElem?_getD, List.getElem?_eq_getElem h]
  exact List.getElem_mem h
theorem atK_is {ks : List Key} {q : Int} {i : Nat} (h1 : i < ks.length) (h2 : (ks.getD i noK).1 = q) (h3 : ∀ j, j < i → (ks.getD j noK).1 ≠ q) : atK ks q = some i := by
  cases h : atK ks q with
  | none => exact absurd h2 (atK_none h _ (keyD_mem h1))
  | some j =>
    obtain ⟨a, b, c⟩ := atK_some h
    rcases Nat.lt_trichotomy i j with e | e | e
    · exact absurd h2 (c i e)
    · rw [e]
    · exact absurd b (h3 j e)
theorem nmK_lt {ks : List Key} {z : Int} {i : Nat} (h : nmK ks z = some i) : i < ks.length := by
  unfold nmK at h
  split at h
  · exact (atK_some h).1
  · cases h
theorem addP_mem (l : List Nat) (o : Option Nat) (i : Nat) : i ∈ addP l o ↔ i ∈ l ∨ o = some i := by
  unfold addP
  cases o with
  | none => simp
  | some j =>
    dsimp only
    split
    · rename_i h
      constructor
      · exact .inl
      · rintro (h1 | h1)
        · exact h1
        · injection h1 with e; rw [← e]; exact h
    · rw [List.mem_append]
      simp [eq_comm]
theorem addP_nodup {l : List Nat} (o : Option Nat) (h : l.Nodup) : (addP l o).Nodup := by
  unfold addP
  cases o with
  | none => exact h
  | some j =>
    dsimp only
    split
    · exact h
    · rename_i hj; exact nodup_snoc h hj
theorem addP_pre (l : List Nat) (o : Option Nat) : ∃ t, addP l o = l ++ t := by
  unfold addP
  cases o with
  | none => exact ⟨[], by simp⟩
  | some j =>
    dsimp only
    split
    · exact ⟨[], by simp⟩
    · exact ⟨[j], rfl⟩
/-- the walk: n places are gone through, of the words of the next one the list zs is left -/
structure Lv (ks : List Key) (roots : List Int) (l : List Nat) (rz : List Int) (n : Nat) (zs : List Int) : Prop where
  nd : l.Nodup
  lt : ∀ i ∈ l, i < ks.length
  root : ∀ z ∈ roots, z ∈ rz ∨ ∀ i, nmK ks z = some i → i ∈ l
  on : ∀ j, j < n → ∀ z ∈ lkK (ks.getD (l.getD j 0) noK), ∀ i, nmK ks z = some i → i ∈ l
  at_ : zs ≠ [] → n < l.length ∧ ∀ z ∈ lkK (ks.getD (l.getD n 0) noK), z ∈ zs ∨ ∀ i, nmK ks z = some i → i ∈ l
  le : n ≤ l.length
  sub : zs ≠ [] → ∀ z ∈ zs, z ∈ lkK (ks.getD (l.getD n 0) noK)
  rsub : ∀ z ∈ rz, z ∈ roots
  least : ∀ X : Nat → Prop, (∀ z ∈ roots, ∀ i, nmK ks z = some i → X i) → (∀ k, X k → ∀ z ∈ lkK (ks.getD k noK), ∀ i, nmK ks z = some i → X i) → ∀ i ∈ l, X i
theorem Lv.len {ks : List Key} {roots : List Int} {l : List Nat} {rz : List Int} {n : Nat} {zs : List Int} (h : Lv ks roots l rz n zs) : l.length ≤ ks.length := nodup_len _ _ h.nd h.lt
theorem Lv.begin (ks : List Key) (roots : List Int) : Lv ks roots [] roots 0 [] :=
  ⟨List.nodup_nil, fun i hi => by simp at hi, fun z hz => .inl hz, fun j hj => by omega, fun h => absurd rfl h, by simp, fun h => absurd rfl h, fun z hz => hz, fun X _ _ i hi => by simp at hi⟩
theorem getD_app (l t : List Nat) (j : Nat) (hj : j < l.length) : (l ++ t).getD j 0 = l.getD j 0 := by
  rw [List.getD_eq_getElem?_getD, List.getD_eq_getElem?_getD, List.getElem?_append_left hj]
/-- one root is gone through -/
theorem Lv.rootStep {ks : List Key} {roots : List Int} {l : List Nat} {z : Int} {rz : List Int} (h : Lv ks roots l (z :: rz) 0 []) : Lv ks roots (addP l (nmK ks z)) rz 0 [] := by
  refine ⟨addP_nodup _ h.nd, fun i hi => ?_, fun y hy => ?_, fun j hj => by omega, fun h => absurd rfl h, by omega, fun h => absurd rfl h, fun y hy => h.rsub y (by simp [hy]), fun X h1 h2 i hi => ?_⟩
  · rcases (addP_mem _ _ _).1 hi with h1 | h1
    · exact h.lt i h1
    · exact nmK_lt h1
  · rcases h.root y hy with h1 | h1
    · rcases List.mem_cons.1 h1 with e | h2
      · exact .inr fun i hi => (addP_mem _ _ _).2 (.inr (by rw [← e]; exact hi))
      · exact .inl h2
    · exact .inr fun i hi => (addP_mem _ _ _).2 (.inl (h1 i hi))
  · rcases (addP_mem _ _ _).1 hi with h3 | h3
    · exact h.least X h1 h2 i h3
    · exact h1 z (h.rsub z (by simp)) i h3
/-- one word of the object under way is gone through -/
theorem Lv.step {ks : List Key} {roots : List Int} {l : List Nat} {n : Nat} {z : Int} {zs : List Int} (h : Lv ks roots l [] n (z :: zs)) (hz : zs ≠ []) : Lv ks roots (addP l (nmK ks z)) [] n zs := by
  obtain ⟨t, ht⟩ := addP_pre l (nmK ks z)
  obtain ⟨a1, a2⟩ := h.at_ (by simp)
  have hs := h.sub (by simp)
  have hm : ∀ i, i ∈ l → i ∈ addP l (nmK ks z) := fun i hi => (addP_mem _ _ _).2 (.inl hi)
  have hg : ∀ j, j < l.length → (addP l (nmK ks z)).getD j 0 = l.getD j 0 := fun j hj => by rw [ht]; exact getD_app l t j hj
  have hll : l.length ≤ (addP l (nmK ks z)).length := by rw [ht]; simp
  refine ⟨addP_nodup _ h.nd, fun i hi => ?_, fun y hy => ?_, fun j hj y hy i hi => ?_, fun _ => ⟨by omega, fun y hy => ?_⟩, by omega, fun _ y hy => ?_, fun y hy => by simp at hy, fun X h1 h2 i hi => ?_⟩
  · rcases (addP_mem _ _ _).1 hi with h1 | h1
    · exact h.lt i h1
    · exact nmK_lt h1
  · rcases h.root y hy with h1 | h1
    · simp at h1
    · exact .inr fun i hi => hm i (h1 i hi)
  · rw [hg j (by omega)] at hy
    exact hm i (h.on j hj y hy i hi)
  · rw [hg n a1] at hy
    rcases a2 y hy with h1 | h1
    · rcases List.mem_cons.1 h1 with e | h2
      · exact .inr fun i hi => (addP_mem _ _ _).2 (.inr (by rw [← e]; exact hi))
      · exact .inl h2
    · exact .inr fun i hi => hm i (h1 i hi)
  · rw [hg n a1]
    exact hs y (by simp [hy])
  · rcases (addP_mem _ _ _).1 hi with h3 | h3
    · exact h.least X h1 h2 i h3
    · refine h2 (l.getD n 0) (h.least X h1 h2 _ ?_) z (hs z (by simp)) i h3
      rw [List.getD_eq_getElem?_getD, List.getElem?_eq_getElem a1]
      exact List.getElem_mem a1
/-- its last word -/
theorem Lv.last {ks : List Key} {roots : List Int} {l : List Nat} {n : Nat} {z : Int} (h : Lv ks roots l [] n [z]) : Lv ks roots (addP l (nmK ks z)) [] (n + 1) [] := by
  obtain ⟨t, ht⟩ := addP_pre l (nmK ks z)
  obtain ⟨a1, a2⟩ := h.at_ (by simp)
  have hs := h.sub (by simp)
  have hm : ∀ i, i ∈ l → i ∈ addP l (nmK ks z) := fun i hi => (addP_mem _ _ _).2 (.inl hi)
  have hg : ∀ j, j < l.length → (addP l (nmK ks z)).getD j 0 = l.getD j 0 := fun j hj => by rw [ht]; exact getD_app l t j hj
  have hll : l.length ≤ (addP l (nmK ks z)).length := by rw [ht]; simp
  refine ⟨addP_nodup _ h.nd, fun i hi => ?_, fun y hy => ?_, fun j hj y hy i hi => ?_, fun h => absurd rfl h, by omega, fun h => absurd rfl h, fun y hy => by simp at hy, fun X h1 h2 i hi => ?_⟩
  · rcases (addP_mem _ _ _).1 hi with h1 | h1
    · exact h.lt i h1
    · exact nmK_lt h1
  · rcases h.root y hy with h1 | h1
    · simp at h1
    · exact .inr fun i hi => hm i (h1 i hi)
  · rw [hg j (by omega)] at hy
    by_cases hjn : j < n
    · exact hm i (h.on j hjn y hy i hi)
    · have e : j = n := by omega
      rw [e] at hy
      rcases a2 y hy with h1 | h1
      · have e2 : y = z := by simpa using h1
        exact (addP_mem _ _ _).2 (.inr (by rw [← e2]; exact hi))
      · exact hm i (h1 i hi)
  · rcases (addP_mem _ _ _).1 hi with h3 | h3
    · exact h.least X h1 h2 i h3
    · refine h2 (l.getD n 0) (h.least X h1 h2 _ ?_) z (hs z (by simp)) i h3
      rw [List.getD_eq_getElem?_getD, List.getElem?_eq_getElem a1]
      exact List.getElem_mem a1
/-- the next object -/
theorem Lv.next {ks : List Key} {roots : List Int} {l : List Nat} {n : Nat} (h : Lv ks roots l [] n []) (hn : n < l.length) : Lv ks roots l [] n (lkK (ks.getD (l.getD n 0) noK)) :=
  ⟨h.nd, h.lt, h.root, h.on, fun _ => ⟨hn, fun z hz => .inl hz⟩, h.le, fun _ z hz => hz, h.rsub, h.least⟩
/-- the walk is at its end -/
def LvE (ks : List Key) (roots : List Int) (l : List Nat) : Prop := Lv ks roots l [] l.length []
section
variable {words oops mark : Nat} {ks : List Key} {H : HS} {M : MS}
theorem KA.name (h : KA words oops mark ks H M) (z : Int) : namesB H z = true ↔ ∃ i, nmK ks z = some i := by
  unfold namesB nmK
  rw [Bool.and_eq_true, decide_eq_true_eq, h.has]
  constructor
  · rintro ⟨h1, h2⟩
    rw [if_pos h1]
    obtain ⟨k, k1, k2⟩ := List.any_eq_true.1 h2
    cases ha : atK ks (z / 4) with
    | some i => exact ⟨i, rfl⟩
    | none => exact absurd (by simpa using k2) (atK_none ha k k1)
  · rintro ⟨i, hi⟩
    split at hi
    · rename_i hk
      obtain ⟨a, b, -⟩ := atK_some hi
      exact ⟨hk, List.any_eq_true.2 ⟨_, keyD_mem a, by rw [beq_iff_eq]; exact b⟩⟩
    · cases hi
theorem KA.nameAt (h : KA words oops mark ks H M) {z : Int} {i : Nat} (hi : nmK ks z = some i) : namesB H z = true ∧ (ks.getD i noK).1.toNat = (z / 4).toNat := by
  refine ⟨(h.name z).2 ⟨i, hi⟩, ?_⟩
  unfold nmK at hi
  split at hi
  · rw [(atK_some hi).2.1]
  · cases hi
theorem KA.lk (h : KA words oops mark ks H M) {i : Nat} (hi : i < ks.length) : lk M (ks.getD i noK).1.toNat = lkK (ks.getD i noK) := by
  obtain ⟨b0, b1, b2, b3, b4⟩ := h.at_ _ (keyD_mem hi)
  unfold Go.Proofs.YtkmjimdaimbdfaaDoor.lk leadsOf lkK
  rw [b2, b4]
  by_cases hz : (ks.getD i noK).2.2.1 = 0
  · rw [if_pos hz, if_pos (by omega)]
  · rw [if_neg hz, if_neg (by omega)]
/-- what the law's walk finds is what stays -/
theorem KA.live (h : KA words oops mark ks H M) {r1 r2 : List Int} {l st : List Nat} (hs : Sts H M r1 st) (hl : LvE ks r2 l) (he : ∀ z, z ∈ r1 ↔ z ∈ r2) (i : Nat) (hi : i < ks.length) : i ∈ l ↔ (ks.getD i noK).1.toNat ∈ st := by
  obtain ⟨rs, hr, rfl⟩ := hs
  rw [mem_stays h.inv hr.there]
  constructor
  · intro hm
    refine hl.least (fun k => k < ks.length → (ks.getD k noK).1.toNat ∈ rs) (fun z hz k hk _ => ?_) (fun k hX z hz j hj _ => ?_) i hm hi
    · obtain ⟨a, b⟩ := h.nameAt hk
      rw [b]
      exact hr.root z ((he z).2 hz) a
    · obtain ⟨a, b⟩ := h.nameAt hj
      rw [b]
      have hkl : k < ks.length := by
        rcases Nat.lt_or_ge k ks.length with h1 | h1
        · exact h1
        · have e : ks.getD k noK = noK := by rw [List.getD_eq_getElem?_getD, List.getElem?_eq_none h1]; rfl
          rw [e] at hz
          have : z = 0 := by simpa [lkK, noK] using hz
          subst this
          have := nmK_lt hj
          unfold nmK at hj
          rw [if_neg (by rw [kind3]; omega)] at hj
          cases hj
      rcases hr.on _ (hX hkl) with h1 | h1
      · simp at h1
      · exact h1 z (by rw [h.lk hkl]; exact hz) a
  · intro hm
    have := hr.least (fun q => ∃ k, k ∈ l ∧ (ks.getD k noK).1.toNat = q) ⟨fun z hz hb => ?_, fun q hq z hz hb => ?_⟩ _ hm
    · obtain ⟨k, k1, k2⟩ := this
      have hkl := hl.lt k k1
      have e : k = i := by
        have hn := h.nodup
        rcases Nat.lt_trichotomy k i with e | e | e
        · have := List.pairwise_iff_getElem.1 hn k i (by simpa using hkl) (by simpa using hi) e
          rw [List.getElem_map, List.getElem_map] at this
          rw [List.getD_eq_getElem?_getD, List.getElem?_eq_getElem hkl, List.getD_eq_getElem?_getD, List.getElem?_eq_getElem hi] at k2
          exact absurd k2 this
        · exact e
        · have := List.pairwise_iff_getElem.1 hn i k (by simpa using hi) (by simpa using hkl) e
          rw [List.getElem_map, List.getElem_map] at this
          rw [List.getD_eq_getElem?_getD, List.getElem?_eq_getElem hkl, List.getD_eq_getElem?_getD, List.getElem?_eq_getElem hi] at k2
          exact absurd k2.symm this
      rw [← e]; exact k1
    · obtain ⟨k, hk⟩ := (h.name z).1 hb
      refine ⟨k, ?_, (h.nameAt hk).2⟩
      rcases hl.root z ((he z).1 hz) with h1 | h1
      · simp at h1
      · exact h1 k hk
    · obtain ⟨j, j1, j2⟩ := hq
      obtain ⟨k, hk⟩ := (h.name z).1 hb
      refine ⟨k, ?_, (h.nameAt hk).2⟩
      have hjl := hl.lt j j1
      obtain ⟨p, p1, p2⟩ := List.getElem_of_mem j1
      refine hl.on p p1 z ?_ k hk
      rw [List.getD_eq_getElem?_getD (l := l), List.getElem?_eq_getElem p1, Option.getD_some, p2, ← h.lk hjl, j2]
      exact hz
end
/-- how long the objects at these places are -/
def sumK (ks : List Key) : List Nat → Int
  | [] => 0
  | i :: t => lenOf ((ks.getD i noK).2.2.2.length : Int) (ks.getD i noK).2.2.1 + sumK ks t
theorem sumK_snoc (ks : List Key) (l : List Nat) (i : Nat) : sumK ks (l ++ [i]) = sumK ks l + lenOf ((ks.getD i noK).2.2.2.length : Int) (ks.getD i noK).2.2.1 := by
  induction l with
  | nil => simp [sumK]
  | cons x l ih => simp only [List.cons_append, sumK, ih]; omega
theorem sumK_perm (ks : List Key) {l m : List Nat} (h : l.Perm m) : sumK ks l = sumK ks m := by
  induction h with
  | nil => rfl
  | cons x _ ih => simp only [sumK, ih]
  | swap x y l => simp only [sumK]; omega
  | trans _ _ h1 h2 => exact h1.trans h2
theorem range_filter_key (p : Key → Bool) : ∀ ks : List Key, (((List.range ks.length).filter fun i => p (ks.getD i noK)).length = (ks.filter p).length) ∧ sumK ks ((List.range ks.length).filter fun i => p (ks.getD i noK)) = endK (ks.filter p) := by
  intro ks
  have key : ∀ n, n ≤ ks.length → (((List.range n).filter fun i => p (ks.getD i noK)).length = ((ks.take n).filter p).length) ∧ sumK ks ((List.range n).filter fun i => p (ks.getD i noK)) = endK ((ks.take n).filter p) := by
    intro n
    induction n with
    | zero => intro _; simp [sumK, endK]
    | succ n ih =>
      intro hn
      obtain ⟨i1, i2⟩ := ih (by omega)
      have hk : ks[n]? = some (ks.getD n noK) := by rw [List.getD_eq_getElem?_getD, List.getElem?_eq_getElem (by omega)]; rfl
      rw [List.range_succ, List.filter_append, List.take_add_one, hk, List.filter_append]
      cases hp : p (ks.getD n noK) with
      | true =>
        have e1 : List.filter (fun i => p (ks.getD i noK)) [n] = [n] := by rw [List.filter_cons, if_pos hp]; rfl
        have e2 : List.filter p (some (ks.getD n noK)).toList = [ks.getD n noK] := by rw [Option.toList_some, List.filter_cons, if_pos hp]; rfl
        rw [e1, e2, sumK_snoc, endK_append, List.length_append, List.length_append, i1, i2]
        exact ⟨rfl, by simp [endK]⟩
      | false =>
        have e1 : List.filter (fun i => p (ks.getD i noK)) [n] = [] := by rw [List.filter_cons, if_neg (by rw [hp]; simp)]; rfl
        have e2 : List.filter p (some (ks.getD n noK)).toList = [] := by rw [Option.toList_some, List.filter_cons, if_neg (by rw [hp]; simp)]; rfl
        rw [e1, e2, List.append_nil, List.append_nil]
        exact ⟨i1, i2⟩
  have := key ks.length (Nat.le_refl _)
  rwa [List.take_length] at this
/-- how many they are, and how long -/
theorem KA.liveSum {words oops mark : Nat} {ks : List Key} {H : HS} {M : MS} (h : KA words oops mark ks H M) {r1 r2 : List Int} {l st : List Nat} (hs : Sts H M r1 st) (hl : LvE ks r2 l) (he : ∀ z, z ∈ r1 ↔ z ∈ r2) : l.length = (keepK ks st).length ∧ sumK ks l = endK (keepK ks st) := by
  have hp : l.Perm ((List.range ks.length).filter fun i => decide ((ks.getD i noK).1.toNat ∈ st)) := by
    refine (List.perm_ext_iff_of_nodup hl.nd (List.Pairwise.filter _ List.nodup_range)).2 fun i => ?_
    rw [List.mem_filter, List.mem_range, decide_eq_true_eq]
    constructor
    · intro hi
      have := hl.lt i hi
      exact ⟨this, (h.live hs hl he i this).1 hi⟩
    · rintro ⟨a, b⟩
      exact (h.live hs hl he i a).2 b
  obtain ⟨r1, r2⟩ := range_filter_key (fun k => decide (k.1.toNat ∈ st)) ks
  exact ⟨hp.length_eq.trans r1, (sumK_perm ks hp).trans r2⟩
theorem keepK_mem {ks : List Key} {st : List Nat} {k : Key} : k ∈ keepK ks st ↔ k ∈ ks ∧ k.1.toNat ∈ st := by unfold keepK; rw [List.mem_filter, decide_eq_true_eq]
theorem KA.liveMem {words oops mark : Nat} {ks : List Key} {H : HS} {M : MS} (h : KA words oops mark ks H M) {r1 r2 : List Int} {l st : List Nat} (hs : Sts H M r1 st) (hl : LvE ks r2 l) (he : ∀ z, z ∈ r1 ↔ z ∈ r2) (i : Nat) (hi : i ∈ l) : ks.getD i noK ∈ keepK ks st :=
  keepK_mem.2 ⟨keyD_mem (hl.lt i hi), (h.live hs hl he i (hl.lt i hi)).1 hi⟩
end Go.Proofs.YtkmjimdaimbdfaaDoor
namespace Go.Proofs.YtkmjimdaimbdfaaDoor
open Go.RowKit
set_option linter.unusedVariables false
set_option linter.unusedSimpArgs false
attribute [local go_sem ↓] Go.wp_at_zero Go.wp_at_succ
/-- a state's objects, by keys -/
structure Sat (w : World) (ov : Value) (ks : List Key) : Prop where
  at_ : ∃ p c, ov = .slice p ks.length c ∧ (0 < ks.length → ∃ g off, p = some ⟨g, off, none⟩ ∧ ∀ k, k < ks.length → ∃ pv cv, w.cell? ⟨g, off + k * 4, none⟩ = some (.int .i64 (ks.getD k noK).1) ∧ w.cell? ⟨g, off + k * 4 + 1, none⟩ = some (.int .i64 (ks.getD k noK).2.1) ∧ w.cell? ⟨g, off + k * 4 + 2, none⟩ = some (.int .i64 (ks.getD k noK).2.2.1) ∧ w.cell? ⟨g, off + k * 4 + 3, none⟩ = some (.slice pv (ks.getD k noK).2.2.2.length cv) ∧ Rd w (.slice pv (ks.getD k noK).2.2.2.length cv) (ks.getD k noK).2.2.2)
  short : ks.length ≤ 65538
  slots : ∀ k ∈ ks, k.2.2.2.length ≤ 8192
theorem Tld.by {w : World} {base : Nat} {ov : Value} {lo : List OS} {ks : List Key} (h : Tld w base ov lo ks) : Sat w ov ks := by
  have hs := h.sat
  have hk := h.keys
  obtain ⟨p, c, e, h1⟩ := hs.at_
  have hll : (lo.map toOI).length = ks.length := by rw [← hk]; simp
  refine ⟨⟨p, c, by rw [← hll]; exact e, fun hp => ?_⟩, h.len, h.slots⟩
  obtain ⟨g, off, e2, h2⟩ := h1 (by omega)
  refine ⟨g, off, e2, fun k hkl => ?_⟩
  obtain ⟨o, o0, o1, o2, o3, o4⟩ := h2 k (by omega)
  have ho : ks.getD k noK = oiKey o := by rw [← hk, List.getD_eq_getElem?_getD, List.getElem?_map, o0]; rfl
  obtain ⟨pv, cv, ev, _⟩ := (hs.slots o (List.mem_of_getElem? o0)).at_
  have hr := hs.slots o (List.mem_of_getElem? o0)
  rw [ho]
  refine ⟨pv, cv, o1, o2, o3, ?_, ?_⟩
  · rw [o4, ev]; rfl
  · rw [ev] at hr; exact hr
theorem Sat.idle {w w' : World} {ov : Value} {ks : List Key} (h : Sat w ov ks) (hf : Fr [] w w') : Sat w' ov ks := by
  obtain ⟨p, c, e, h1⟩ := h.at_
  refine ⟨⟨p, c, e, fun hp => ?_⟩, h.short, h.slots⟩
  obtain ⟨g, off, e2, h3⟩ := h1 hp
  refine ⟨g, off, e2, fun k hk => ?_⟩
  obtain ⟨pv, cv, a0, a1, a2, a3, a4⟩ := h3 k hk
  have hl := World.block_lt_of_cell? w ⟨g, off + k * 4, none⟩ a0
  exact ⟨pv, cv, (hf.cell (p := ⟨g, off + k * 4, none⟩) hl (by simp)).trans a0, (hf.cell (p := ⟨g, off + k * 4 + 1, none⟩) hl (by simp)).trans a1, (hf.cell (p := ⟨g, off + k * 4 + 2, none⟩) hl (by simp)).trans a2, (hf.cell (p := ⟨g, off + k * 4 + 3, none⟩) hl (by simp)).trans a3, a4.idle hf⟩
set_option maxRecDepth 20000 in
set_option maxHeartbeats 2000000 in
theorem at_k (ks : List Key) (z x1 x2 x3 : Int) (ov : Value) (w : World) (ha : Sat w ov ks) :
    Calls Tryd.prog 37 #[.agg #[.int .i64 x1, .int .i64 x2, .int .i64 x3, ov], .int .i64 z] w fun e w' =>
      e = .returned (.int .i64 (plN (atK ks z))) ∧ Fr [] w w' := by
  have HS := mkHid ha
  obtain ⟨pa, ca, rfl, hpa⟩ := ha.at_
  have hl := ha.short
  clear ha hpa
  go_enter Tryd.func37, Tryd.ntmps37
  go_wp2_with fail
  obtain ⟨V, hV⟩ : ∃ V, (w.alloc (.cells #[.int .i64 x1, .int .i64 x2, .int .i64 x3, .slice pa ks.length ca] 44)) = V := ⟨_, rfl⟩
  rw [hV]
  have hfV : Fr [] w V := by rw [← hV]; exact (Fr.alloc [] _ _)
  have hb1 : V.heap[w.heap.size]? = some (.cells #[.int .i64 x1, .int .i64 x2, .int .i64 x3, .slice pa ks.length ca] 44 (0, 0)) := by
    rw [← hV]; exact heap_alloc_new _ _
  have c3 : V.cell? ⟨w.heap.size, 3, none⟩ = some (.slice pa ks.length ca) := by rw [cell_in hb1]; rfl
  obtain ⟨pa', ca', ep, hat⟩ := (HS.out.idle hfV).at_
  cases ep
  have HA := mkHid hat
  have HF := mkHid hfV
  clear hat hfV hV HS hb1
  go_loopw [5] (fun q wr => ∃ k : Nat, k ≤ ks.length ∧ q = .int .i64 k ∧ wr = V ∧ Hid (∀ j, j < k → (ks.getD j noK).1 ≠ z)) (fun q _ => ks.length - (intOf q).toNat)
  case atStart => exact ⟨0, Nat.zero_le _, rfl, rfl, mkHid (fun j hj => by omega)⟩
  case round =>
    obtain ⟨k, hkn, rfl, rfl, HZ⟩ := hrel
    by_cases hlt : k < ks.length
    · obtain ⟨ga, oa, rfl, hca⟩ := HA.out (by omega)
      obtain ⟨pv, cv, o0, -⟩ := hca k hlt
      have k1 : (0 : Int) ≤ (k : Int) := by omega
      have k2 : (k : Int) < (ks.length : Int) := by omega
      have HX : Hid ((ks.getD k noK).1 = z → atK ks z = some k) := fun e => atK_is hlt e HZ.out
      have HY : Hid ((ks.getD k noK).1 ≠ z → ∀ j, j < k + 1 → (ks.getD j noK).1 ≠ z) := fun e j hj => by
        by_cases h : j < k
        · exact HZ.out j h
        · have : j = k := by omega
          rw [this]; exact e
      clear hca HA HZ
      generalize (ks.getD k noK).1 = y at *
      by_cases he : y = z
      · subst he
        have HD : Hid (plN (atK ks y) = (k : Int)) := by
          show plN (atK ks y) = (k : Int)
          rw [HX.out rfl]; rfl
        clear HX HY
        go_wp2_with fail
        go_ret
        exact ⟨by rw [HD.out]; rfl, HF.out⟩
      · have hb : (y == z) = false := by simpa using he
        have HN := mkHid (HY.out he)
        clear HX HY he
        go_wp2_with fail
        go_roundw
        case rel => exact ⟨k + 1, by omega, by go_num, trivial, HN⟩
        case measure => simp [intOf]; omega
    · have hke : k = ks.length := by omega
      subst hke
      have HD : Hid (plN (atK ks z) = -1) := by
        show plN (atK ks z) = -1
        cases h : atK ks z with
        | none => rfl
        | some i =>
          obtain ⟨a, b, -⟩ := atK_some h
          exact absurd b (HZ.out i a)
      clear HZ
      go_wp2_with fail
      go_ret
      exact ⟨by rw [HD.out]; rfl, HF.out⟩
set_option maxRecDepth 20000 in
set_option maxHeartbeats 2000000 in
theorem named_k (ks : List Key) (z x1 x2 x3 : Int) (ov : Value) (w : World) (ha : Sat w ov ks) :
    Calls Tryd.prog 59 #[.agg #[.int .i64 x1, .int .i64 x2, .int .i64 x3, ov], .int .i64 z] w fun e w' =>
      e = .returned (.int .i64 (plN (nmK ks z))) ∧ Fr [] w w' := by
  have F1 : Fr [] w (w.alloc (.cells #[.int .i64 x1, .int .i64 x2, .int .i64 x3, ov] 44)) := Fr.alloc _ _ _
  obtain ⟨pa, ca, rfl, hpa⟩ := ha.at_
  by_cases hk : kindOf z = 3
  · have hz := (kind3 z).1 hk
    have hd : z.tdiv 4 = z / 4 := Int.tdiv_eq_ediv_of_nonneg (by omega)
    have HA := mkHid (at_k ks (z / 4) x1 x2 x3 (.slice pa ks.length ca) (w.alloc (.cells #[.int .i64 x1, .int .i64 x2, .int .i64 x3, .slice pa ks.length ca] 44)) (ha.idle F1))
    have HN : Hid (nmK ks z = atK ks (z / 4)) := by show nmK ks z = _; unfold nmK; rw [if_pos hk]
    have HK := mkHid (rKind_any z (w.alloc (.cells #[.int .i64 x1, .int .i64 x2, .int .i64 x3, .slice pa ks.length ca] 44)))
    rw [hk] at HK
    have HF := mkHid F1
    have hr1 : (-9223372036854775808 : Int) ≤ z / 4 := by omega
    have hr2 : z / 4 ≤ (9223372036854775807 : Int) := by omega
    clear ha hk hz hpa F1
    go_enter Tryd.func59, Tryd.ntmps59
    go_wp2_with (first | (go_at_call 33; refine Calls.mono HK.out ?_; rintro e w' ⟨rfl, hw'⟩; rw [hw']; clear hw' w') | fail)
    refine Calls.mono HA.out ?_
    rintro e w2 ⟨rfl, hf2⟩
    have HF2 := mkHid (HF.out.trans hf2 (by simp))
    clear hf2
    go_wp2_with fail
    go_ret
    exact ⟨by rw [HN.out]; rfl, HF2.out⟩
  · have HN : Hid (plN (nmK ks z) = -1) := by show plN (nmK ks z) = _; unfold nmK; rw [if_neg hk]; rfl
    have HK := mkHid (rKind_any z (w.alloc (.cells #[.int .i64 x1, .int .i64 x2, .int .i64 x3, .slice pa ks.length ca] 44)))
    generalize kindOf z = kd at *
    have hb : (kd != 3) = true := by simpa using hk
    have HF := mkHid F1
    clear ha hk hpa F1
    go_enter Tryd.func59, Tryd.ntmps59
    go_wp2_with (first | (go_at_call 33; refine Calls.mono HK.out ?_; rintro e w' ⟨rfl, hw'⟩; rw [hw']; clear hw' w') | fail)
    go_ret
    exact ⟨by rw [HN.out]; rfl, HF.out⟩
end Go.Proofs.YtkmjimdaimbdfaaDoor
namespace Go.Proofs.YtkmjimdaimbdfaaDoor
open Go.RowKit Go.Maps
set_option linter.unusedVariables false
set_option linter.unusedSimpArgs false
attribute [local go_sem ↓] Go.wp_at_zero Go.wp_at_succ
/-- an own list of places -/
def Pls (w : World) (B : Nat) (v : Value) (l : List Nat) : Prop := w.ownsRow B 3 1 v l.length ((zs l).map (Value.int .i64))
/-- the block that a list lies in -/
def ob (v : Value) : List Nat := v.ownBlock.toList
theorem zs_len (l : List Nat) : (zs l).length = l.length := by simp [zs]
theorem zs_getD (l : List Nat) (i : Nat) (h : i < l.length) : (zs l).getD i 0 = ((l.getD i 0 : Nat) : Int) := by
  unfold zs
  rw [List.getD_eq_getElem?_getD, List.getElem?_map, List.getElem?_eq_getElem h, List.getD_eq_getElem?_getD, List.getElem?_eq_getElem h]
  rfl
theorem Pls.slot {w : World} {B : Nat} {v : Value} {l : List Nat} (h : Pls w B v l) : ∃ p c, v = .slice p l.length c ∧ (0 < l.length → ∃ g, p = some ⟨g, 0, none⟩ ∧ ∀ i, i < l.length → w.cell? ⟨g, i, none⟩ = some (.int .i64 ((l.getD i 0 : Nat) : Int))) := by
  have h' : w.ownsRow B 3 1 v (zs l).length ((zs l).map (Value.int .i64)) := by rw [zs_len]; exact h
  obtain ⟨p, c, e, h1⟩ := own_slot h'
  rw [zs_len] at e h1
  refine ⟨p, c, e, fun hp => ?_⟩
  obtain ⟨g, e2, h2⟩ := h1 hp
  exact ⟨g, e2, fun i hi => by rw [h2 i hi, zs_getD l i hi]⟩
theorem Pls.keep {w w' : World} {B : Nat} {v : Value} {l : List Nat} {S : List Nat} (h : Pls w B v l) (hf : Fr S w w') (hd : ∀ g, v.ownBlock = some g → g ∉ S) : Pls w' B v l :=
  own_congr h fun g hg => hf.block g (h.lt g hg).2 (hd g hg)
theorem Pls.idle {w w' : World} {B : Nat} {v : Value} {l : List Nat} (h : Pls w B v l) (hf : Fr [] w w') : Pls w' B v l := h.keep hf (by simp)
set_option maxRecDepth 20000 in
set_option maxHeartbeats 2000000 in
theorem added_k (B : Nat) (l : List Nat) (o : Option Nat) (v : Value) (w : World) (h : Pls w B v l) (hB : B ≤ w.heap.size) (hl : l.length ≤ 65538) (ho : ∀ i, o = some i → i ≤ 65538) :
    Calls Tryd.prog 58 #[v, .int .i64 (plN o)] w fun e w' => ∃ v', e = .returned v' ∧ Pls w' B v' (addP l o) ∧ Fr (ob v) w w' ∧ (∀ g, v'.ownBlock = some g → v.ownBlock = some g ∨ w.heap.size ≤ g) := by
  obtain ⟨p, c, rfl, hs⟩ := h.slot
  obtain ⟨j0, ji, jz0, jz1, jz2⟩ := info_parts info3
  have HH := mkHid h
  have HS := mkHid hs
  have hz0 : (-1 : Int) ≤ plN o := by unfold plN; cases o <;> simp
  have hz1 : plN o ≤ 65538 := by unfold plN; cases o with
    | none => simp
    | some i => have := ho i rfl; simp; omega
  have HIn : Hid (∀ k : Nat, k < l.length → ((l.getD k 0 : Nat) : Int) = plN o → addP l o = l) := fun k hk he => by
    cases o with
    | none => simp [plN] at he
    | some i =>
      have e : l.getD k 0 = i := by
        have he' : ((l.getD k 0 : Nat) : Int) = (i : Int) := he
        omega
      unfold addP
      dsimp only
      rw [if_pos]
      rw [← e, List.getD_eq_getElem?_getD, List.getElem?_eq_getElem hk]
      exact List.getElem_mem _
  have HNo : Hid (plN o < 0 → addP l o = l) := fun hn => by
    cases o with
    | none => rfl
    | some i => simp [plN] at hn; omega
  have HNew : Hid ((∀ k : Nat, k < l.length → ((l.getD k 0 : Nat) : Int) ≠ plN o) → 0 ≤ plN o → ∃ i : Nat, plN o = (i : Int) ∧ addP l o = l ++ [i]) := fun hn hp => by
    cases o with
    | none => simp [plN] at hp
    | some i =>
      refine ⟨i, rfl, ?_⟩
      unfold addP
      dsimp only
      rw [if_neg]
      intro hm
      obtain ⟨k, k1, k2⟩ := List.getElem_of_mem hm
      refine hn k k1 ?_
      rw [List.getD_eq_getElem?_getD, List.getElem?_eq_getElem k1]
      simp [plN, k2]
  generalize plN o = z at *
  clear hs h ho
  go_enter Tryd.func58, Tryd.ntmps58
  go_wp2_with fail
  go_loopw [5] (fun q wr => ∃ k : Nat, k ≤ l.length ∧ q = .int .i64 k ∧ wr = w ∧ Hid (∀ j : Nat, j < k → ((l.getD j 0 : Nat) : Int) ≠ z)) (fun q _ => l.length - (intOf q).toNat)
  case atStart => exact ⟨0, Nat.zero_le _, rfl, rfl, mkHid (fun j hj => by omega)⟩
  case round =>
    obtain ⟨k, hkn, rfl, rfl, HZ⟩ := hrel
    by_cases hlt : k < l.length
    · obtain ⟨g, rfl, hca⟩ := HS.out (by omega)
      have o0 := hca k hlt
      have k1 : (0 : Int) ≤ (k : Int) := by omega
      have k2 : (k : Int) < (l.length : Int) := by omega
      have HI := mkHid (HIn.out k hlt)
      have HY : Hid (((l.getD k 0 : Nat) : Int) ≠ z → ∀ j : Nat, j < k + 1 → ((l.getD j 0 : Nat) : Int) ≠ z) := fun e j hj => by
        by_cases h : j < k
        · exact HZ.out j h
        · have : j = k := by omega
          rw [this]; exact e
      clear hca HZ
      generalize ((l.getD k 0 : Nat) : Int) = y at *
      by_cases he : y = z
      · subst he
        have HD := mkHid (HI.out rfl)
        clear HI HY
        go_wp2_with fail
        go_ret
        exact ⟨_, rfl, by rw [HD.out]; exact HH.out, Fr.refl _ _, fun g hg => .inl hg⟩
      · have hb : (y == z) = false := by simpa using he
        have HN := mkHid (HY.out he)
        clear HI HY he
        go_wp2_with fail
        go_roundw
        case rel => exact ⟨k + 1, by omega, by go_num, trivial, HN⟩
        case measure => simp [intOf]; omega
    · have hke : k = l.length := by omega
      subst hke
      by_cases hn : z < 0
      · have HD := mkHid (HNo.out hn)
        clear HZ
        go_wp2_with fail
        go_ret
        exact ⟨_, rfl, by rw [HD.out]; exact HH.out, Fr.refl _ _, fun g hg => .inl hg⟩
      · obtain ⟨i, hi, hadd⟩ := HNew.out HZ.out (by omega)
        subst hi
        have HD := mkHid hadd
        have hown2 := World.ownsRow.alloc HH.out (.cells #[.int .i64 (i : Int)] 3)
        have F1 : Fr [] wr (wr.alloc (.cells #[.int .i64 (i : Int)] 3)) := Fr.alloc [] _ _
        have HF1 := mkHid F1
        clear HZ hadd F1
        go_wp2_with (first
          | (at_builtin; refine wpList_append_own_at _ rfl (.tmp 22) (.tmp 24) 47 rfl B 3 j0 (.int .i64 0) 1 8 Tryd.underlying47 ji jz0 jz1 jz2 rfl (by decide) _ _ _ rfl hown2 ⟨wr.heap.size, 0, none⟩ 1 1 [.int .i64 (i : Int)] rfl rfl ?c1 ?c2 ?c3 ?c4 ?c5 ?_)
          | go_in)
        case c2 => first | rfl | (intro u hu; simp at hu; subst hu; rfl)
        case c3 => unfold maxLen; omega
        case c4 => omega
        case c5 => first | omega | (simp; omega)
        intro v' w1 hown' hgrow _ hnew
        have HZ : Hid (Pls w1 B v' (addP l o) ∧ Fr (ob (.slice p l.length c)) wr w1 ∧ (∀ g, v'.ownBlock = some g → (Value.slice p l.length c).ownBlock = some g ∨ wr.heap.size ≤ g)) := by
          refine ⟨?_, ?_, fun g hg => ?_⟩
          · rw [HD.out]
            unfold Pls
            have e1 : zs (l ++ [i]) = zs l ++ [(i : Int)] := by simp [zs]
            rw [e1, List.map_append, List.length_append]
            exact hown'
          · refine (HF1.out.mono (by simp)).trans (Fr.grown (S := ob (.slice p l.length c)) hgrow (fun k hk => by unfold ob; rw [hk]; simp)) (fun b hb => .inl hb)
          · rcases hnew with h1 | h1
            · exact .inl (by rw [← h1]; exact hg)
            · rw [h1] at hg
              injection hg with e
              right
              rw [← e]
              simp
        clear hown' hgrow hnew hown2
        go_wp2_with fail
        go_ret
        exact ⟨_, rfl, HZ.out⟩
end Go.Proofs.YtkmjimdaimbdfaaDoor
