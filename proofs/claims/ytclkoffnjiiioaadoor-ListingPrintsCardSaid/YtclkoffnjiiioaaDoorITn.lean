import Derived.OpenShut
import Derived.Test.YtclkoffnjiiioaaDoorCSy3
import Derived.Test.YtclkoffnjiiioaaDoorIPm
namespace Go.Proofs.YtclkoffnjiiioaaDoor
open Go.RowKit
set_option linter.unusedVariables false
set_option linter.unusedSimpArgs false
attribute [local go_sem ↓] Go.wp_at_zero Go.wp_at_succ
theorem set_same {α : Type} (l : List α) (i : Nat) (v : α) (h : l[i]? = some v) : l.set i v = l := by
  obtain ⟨hi, e⟩ := List.getElem?_eq_some_iff.mp h
  rw [← e]
  exact List.set_getElem_self hi
theorem wf_rng {n : Int} (h : (Lit.int .i64 n).wf = true) : -9223372036854775808 ≤ n ∧ n ≤ 9223372036854775807 := by
  simpa [Lit.wf, IntKind.min, IntKind.max, IntKind.signed, IntKind.bits] using h
theorem xr_rng (z : Int) : -9223372036854775808 ≤ Go.bits .xor .i64 z 1 ∧ Go.bits .xor .i64 z 1 ≤ 9223372036854775807 := wf_rng (wf_bits .xor .i64 z 1)
/-- turning, up to literal i -/
def TuS (w V wr : World) (Ok Q : Nat → Prop) (g c : Nat) (ts : List LitT) (K : Nat → Nat → Prop) (i : Nat) : Prop :=
  FrP Ok V wr ∧ FrP (fun b => Q b ∨ b = g ∨ ∃ j, j < i ∧ K j b) w wr ∧ ∃ us : List LitT, us.length = ts.length ∧ wr.ownsRow 0 39 4 (.slice (some ⟨g, 0, none⟩) (ts.length + 1) c) (ts.length + 1) (litCells (us ++ [markL])) ∧ (∀ u ∈ us, u.text.size ≤ 140737488355328) ∧ (∀ (j : Nat) (u : LitT), us[j]? = some u → LitsM wr (K j) u.p u.c u.kids) ∧ (∀ j, i ≤ j → us[j]? = ts[j]?) ∧ ∀ u ∈ us, NmT u
set_option maxRecDepth 100000 in
set_option maxHeartbeats 4000000 in
theorem turn_ok (w : World) (Ok : Nat → Prop) (p : Option Addr) (c : Nat) (ts : List LitT) (h : LitsM w Ok p c ts) : (∀ t ∈ ts, SmT t) → (∀ t ∈ ts, NmT t) → ∀ (V : World) (Q : Nat → Prop), FrP Q w V → (∀ b, Ok b → ¬ Q b) → Calls Tryd.prog 11 #[.slice p ts.length c] V fun e w' => e = .returned (.tuple #[]) ∧ FrP Ok V w' ∧ ∃ us, us.length = ts.length ∧ LitsM w' Ok p c us ∧ ∀ u ∈ us, NmT u := by
  induction h with
  | mk Ok g c ts K row ok short txt sub dis kids ih =>
    intro hsm hnm V Q hf hQ
    have HIh := mkHid ih
    have HSm := mkHid hsm
    have HNm := mkHid hnm
    have hgl := (own_lt row g rfl).2
    have rowV : V.ownsRow 0 39 4 (.slice (some ⟨g, 0, none⟩) (ts.length + 1) c) (ts.length + 1) (litCells (ts ++ [markL])) := own_congr row fun b hb => by
      have e : g = b := by simpa [Value.ownBlock] using hb
      subst e
      exact hf.block g hgl (hQ g ok)
    have HKd := mkHid kids
    have HSub := mkHid sub
    have HDis := mkHid dis
    have HF := mkHid hf
    have HQ := mkHid hQ
    have HTx := mkHid txt
    have HRow := mkHid rowV
    have HOk := mkHid ok
    clear ih hsm hnm kids sub dis hf hQ txt rowV row ok
    go_enter Tryd.func11, Tryd.ntmps11
    go_wp2_with fail
    go_loopw [2] (fun q wr => ∃ i : Nat, i ≤ ts.length ∧ q = .int .i64 i ∧ Hid (TuS w V wr Ok Q g c ts K i)) (fun q _ => ts.length - (intOf q).toNat)
    case atStart =>
      refine ⟨0, Nat.zero_le _, rfl, FrP.refl _ _, HF.out.mono (fun b hb => .inl hb), ts, rfl, HRow.out, HTx.out, fun j u hu => ?_, fun _ _ => rfl, HNm.out⟩
      exact (HKd.out j u hu).keep HF.out (fun b hb => HQ.out b (HSub.out j b hb).1)
    case round =>
      clear HRow
      obtain ⟨i, hin, rfl, hst⟩ := hrel
      obtain ⟨fV, fw, us, hul, hrow, htx, hks, hrest, hnu⟩ := hst.out
      have i0 : (0 : Int) ≤ (i : Int) := by omega
      by_cases hlt : i < ts.length
      · have i1 : (i : Int) < (ts.length : Int) := by omega
        obtain ⟨t, ht⟩ : ∃ t, ts[i]? = some t := ⟨_, List.getElem?_eq_getElem hlt⟩
        have htu : us[i]? = some t := by rw [hrest i (Nat.le_refl _)]; exact ht
        have htu2 : (us ++ [markL])[i]? = some t := by rw [List.getElem?_append_left (by omega)]; exact htu
        have hmem := List.mem_of_getElem? ht
        have hc : ∀ j, j < 4 → wr.cell? ⟨g, i * 4 + j, none⟩ = (litc t)[j]? := fun j hj => by
          rw [hrow.cellAt (i * 4 + j) (by omega)]
          exact litCells_at _ i t j htu2 hj
        have y3 : wr.cell? ⟨g, i * 4 + 3, none⟩ = some (.slice t.p t.kids.length t.c) := hc 3 (by omega)
        have hrl := (own_lt hrow g rfl).2
        obtain ⟨cur, hcur⟩ := row_block hrow (g := g) rfl
        have hts := (HSm.out t hmem).size
        have HCall := HIh.out i t ht (HSm.out t hmem).kids (HNm.out t hmem).kids wr _ fw (fun b hb hh => by
          rcases hh with h1 | h1 | ⟨j, h1, h2⟩
          · exact HQ.out b (HSub.out i b hb).1 h1
          · exact (HSub.out i b hb).2 h1
          · have := HDis.out i j b hb h2; omega)
        have HC := mkHid HCall
        have HAf : Hid (∀ w1, FrP (K i) wr w1 → (∃ ks, ks.length = t.kids.length ∧ LitsM w1 (K i) t.p t.c ks ∧ ∀ u ∈ ks, NmT u) → w1.cell? ⟨g, i * 4, none⟩ = some (.int .i64 t.kind) ∧ w1.cell? ⟨g, i * 4 + 2, none⟩ = some (.int .i64 t.num) ∧ w1.cell? ⟨g, i * 4 + 1, none⟩ = some (.string t.text) ∧ (∀ j, w1.frozen? ⟨g, j, none⟩ = false) ∧ Hid (TuS w V w1 Ok Q g c ts K (i + 1)) ∧ (∀ Y : ByteArray, Y.size ≤ 140737488355328 → Hid (TuS w V (w1.setCell ⟨g, i * 4 + 1, none⟩ (.string Y)) Ok Q g c ts K (i + 1))) ∧ (∀ X : Int, -9223372036854775808 ≤ X ∧ X ≤ 9223372036854775807 → Hid (TuS w V (w1.setCell ⟨g, i * 4 + 2, none⟩ (.int .i64 X)) Ok Q g c ts K (i + 1)))) := fun w1 f1 ⟨ks, hkl, hkm, hkn⟩ => by
          have hgK : ¬ K i g := fun hh => (HSub.out i g hh).2 rfl
          have hb1 : w1.heap[g]? = wr.heap[g]? := f1.block g hrl hgK
          have hcell : ∀ j, w1.cell? ⟨g, j, none⟩ = wr.cell? ⟨g, j, none⟩ := fun j => World.cell?_of_block (w := wr) (a := ⟨g, j, none⟩) hb1
          have row1 : w1.ownsRow 0 39 4 (.slice (some ⟨g, 0, none⟩) (ts.length + 1) c) (ts.length + 1) (litCells (us ++ [markL])) := own_congr hrow fun b hb => by
            have e : g = b := by simpa [Value.ownBlock] using hb
            subst e
            exact hb1
          have l1 : (litCells (us ++ [markL]))[i * 4 + 1]? = some (.string t.text) := litCells_at _ i t 1 htu2 (by omega)
          have l2 : (litCells (us ++ [markL]))[i * 4 + 2]? = some (.int .i64 t.num) := litCells_at _ i t 2 htu2 (by omega)
          -- what holds behind a write within the row
          have fin : ∀ (w2 : World) (X : Int) (Y : ByteArray), FrP (fun b => b = g) w1 w2 → w2.ownsRow 0 39 4 (.slice (some ⟨g, 0, none⟩) (ts.length + 1) c) (ts.length + 1) (((litCells (us ++ [markL])).set (i * 4 + 2) (.int .i64 X)).set (i * 4 + 1) (.string Y)) → Y.size ≤ 140737488355328 → (-9223372036854775808 ≤ X ∧ X ≤ 9223372036854775807) → TuS w V w2 Ok Q g c ts K (i + 1) := fun w2 X Y fg row2 hY hX => by
            rw [lits_set (us ++ [markL]) i t Y X ks htu2 hkl, List.set_append_left _ _ (by omega)] at row2
            refine ⟨(fV.trans (f1.mono (fun b hb => (HSub.out i b hb).1))).trans (fg.mono (fun b hb => by rw [hb]; exact HOk.out)), ?_, us.set i (.mk t.kind Y X t.p t.c ks), by simp [hul], row2, fun u hu => ?_, fun j u hu => ?_, fun j hj => ?_, fun u hu => ?_⟩
            · refine ((fw.mono (fun b hb => ?_)).trans (f1.mono (fun b hb => .inr (.inr ⟨i, by omega, hb⟩)))).trans (fg.mono (fun b hb => .inr (.inl hb)))
              rcases hb with h1 | h1 | ⟨j, h1, h2⟩
              · exact .inl h1
              · exact .inr (.inl h1)
              · exact .inr (.inr ⟨j, by omega, h2⟩)
            · rcases List.mem_or_eq_of_mem_set hu with h1 | h1
              · exact htx u h1
              · rw [h1]; exact hY
            · by_cases e : j = i
              · subst e
                rw [List.getElem?_set_self (by omega)] at hu
                have := Option.some.inj hu
                subst this
                exact hkm.keep fg (fun b hb => (HSub.out j b hb).2)
              · rw [List.getElem?_set_ne (Ne.symm e)] at hu
                exact ((hks j u hu).keep f1 (fun b hb hh => e (HDis.out j i b hb hh))).keep fg (fun b hb => (HSub.out j b hb).2)
            · rw [List.getElem?_set_ne (by omega)]
              exact hrest j (by omega)
            · rcases List.mem_or_eq_of_mem_set hu with h1 | h1
              · exact hnu u h1
              · rw [h1]; exact .mk _ hX hkn
          have htn := (HNm.out t hmem).num
          refine ⟨(hcell _).trans (hc 0 (by omega)), (hcell _).trans (hc 2 (by omega)), (hcell _).trans (hc 1 (by omega)), fun j => frozen_in (hb1.trans hcur) j, fin w1 t.num t.text (FrP.refl _ _) (by rw [set_same _ _ _ l2, set_same _ _ _ l1]; exact row1) (by omega) htn, fun Y hY => ?_, fun X hX => ?_⟩
          · have row2 := (row1.stored (i * 4 + 1) (.string Y)).1
            have fg : FrP (fun b => b = g) w1 (w1.setCell ⟨g, i * 4 + 1, none⟩ (.string Y)) := (Fr.setCell (S := [g]) w1 ⟨g, i * 4 + 1, none⟩ (.string Y) (by simp)).frp (fun b hb => .inl (by simpa using hb))
            exact fin _ t.num Y fg (by rw [set_same _ _ _ l2]; exact row2) hY htn
          · have row2 := (row1.stored (i * 4 + 2) (.int .i64 X)).1
            have fg : FrP (fun b => b = g) w1 (w1.setCell ⟨g, i * 4 + 2, none⟩ (.int .i64 X)) := (Fr.setCell (S := [g]) w1 ⟨g, i * 4 + 2, none⟩ (.int .i64 X) (by simp)).frp (fun b hb => .inl (by simpa using hb))
            exact fin _ X t.text fg (by rw [set_same _ _ _ (by rw [List.getElem?_set_ne (by omega)]; exact l1)]; exact row2) (by omega) hX
        clear hst fV fw hrow htx hks hrest hnu HCall hc htu htu2 hmem hcur
        generalize t.num = k2 at *
        generalize t.text = k1 at *
        generalize t.kind = k0 at *
        generalize t.p = tp at *
        generalize t.c = tc at *
        generalize t.kids.length = tn at *
        go_wp2_with fail
        refine HC.out.mono ?_
        rintro e w1 ⟨rfl, f1, ks1⟩
        obtain ⟨n0, n2, n1, zz, HE0, HE1, HE2⟩ := HAf.out w1 f1 ks1
        have HE1h := mkHid HE1
        have HE2h := mkHid HE2
        have z1 := zz (i * 4 + 1)
        have z2 := zz (i * 4 + 2)
        clear f1 ks1 zz HE1 HE2 HAf HC y3 HIh
        by_cases e2 : k0 = 2
        · subst e2
          go_wp2_with fail
          go_roundw
          case rel => exact ⟨i + 1, by omega, by go_num, (HE1h.out _ (by have e1 : (ByteArray.mk #[116]).size = 1 := rfl; rw [ByteArray.size_append]; omega)).out⟩
          case measure => simp [intOf]; omega
        by_cases e1 : k0 = 1
        · subst e1
          go_wp2_with fail
          go_roundw
          case rel => exact ⟨i + 1, by omega, by go_num, (HE2h.out _ (xr_rng k2)).out⟩
          case measure => simp [intOf]; omega
        by_cases e3 : k0 = 3
        · subst e3
          go_wp2_with fail
          go_roundw
          case rel => exact ⟨i + 1, by omega, by go_num, (HE2h.out _ (xr_rng k2)).out⟩
          case measure => simp [intOf]; omega
        have d1 : (k0 == 1) = false := by simpa using e1
        have d2 : (k0 == 2) = false := by simpa using e2
        have d3 : (k0 == 3) = false := by simpa using e3
        go_wp2_with fail
        go_roundw
        case rel => exact ⟨i + 1, by omega, by go_num, HE0.out⟩
        case measure => simp [intOf]; omega
      · have d1 : decide ((i : Int) < (ts.length : Int)) = false := decide_eq_false (by omega)
        have HEnd : Hid (FrP Ok V wr ∧ ∃ us, us.length = ts.length ∧ LitsM wr Ok (some ⟨g, 0, none⟩) c us ∧ ∀ u ∈ us, NmT u) := ⟨fV, us, hul, .mk Ok g c us K (by rw [hul]; exact hrow) HOk.out (by rw [hul]; exact short) htx HSub.out HDis.out hks, hnu⟩
        clear hst fV fw hrow htx hks hrest hnu
        go_wp2_with fail
        go_end0
        exact ⟨rfl, HEnd.out⟩
end Go.Proofs.YtclkoffnjiiioaaDoor
