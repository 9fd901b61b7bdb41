import Derived.Test.YtclkoffnjiiioaaGreatDoorTG22JRdA
namespace Go.Proofs.YtclkoffnjiiioaaGreatDoor
open Go.RowKit
set_option linter.unusedVariables false
set_option linter.unusedSimpArgs false
attribute [local go_sem ↓] Go.wp_at_zero Go.wp_at_succ
set_option maxRecDepth 100000 in
set_option maxHeartbeats 4000000 in
/-- an element is read by who reads what begins here -/
theorem elem_by (N : Nat) (hent : ∀ args w, (callFunc N args).run Tryz.prog w = .ok (.enter N args) w) (W : World) (r : Nat) (S : Rv) (res : Option (LitS × Bs × Nat)) (h : RB W r S) (hwho : who (fstB S.rest) = N) (hN : ∀ V, Wz W V → RB V r S → Fr [] W V → Calls Tryz.prog N #[pt r] V fun e w' => ElQ V r S res e w') : Calls Tryz.prog 68 #[pt r] W fun e w' => ElQ W r S res e w' := by
  have hlt := h.lt
  have hz := wz_of W
  have hsz : (W.alloc (.cells #[.int .i64 0, .string ⟨#[]⟩, .int .i64 0, .slice none 0 0] 49)).heap.size = W.heap.size + 1 := by simp
  obtain ⟨W0, hW0⟩ : ∃ V, W.alloc (.cells #[.int .i64 0, .string ⟨#[]⟩, .int .i64 0, .slice none 0 0] 49) = V := ⟨_, rfl⟩
  rw [hW0] at hz hsz
  have hb0 := h.fr hz.fr (by simp)
  have HA := mkHid (ahead_ok W0 r S hb0)
  rw [hwho] at HA
  have HN := mkHid (hN W0 hz hb0 hz.fr)
  have HW0 := mkHid hW0
  have HZ := mkHid hz
  clear h hz hW0 hb0 hN hwho
  go_enter Tryz.func68, Tryz.ntmps68
  go_wp2_with fail
  rw [HW0.out]
  refine HA.out.mono ?_
  rintro e w1 ⟨rfl, rfl⟩
  go_wp2_with fail
  refine HN.out.mono ?_
  rintro e w2 ⟨t, ok, x, n, rfl, hb, hf, hk, ht, hq⟩
  obtain ⟨f1, b1⟩ := HZ.out.on hlt hf
  obtain ⟨c0, c1, c2, c3, z0, z1, z2, z3⟩ := z4_of b1
  have HB := mkHid hb
  have HF := mkHid f1
  have HB1 := mkHid b1
  have HK : Hid (LitsO w2 (fun b => W.heap.size < b) t.p t.c t.kids) := hk.keep (Fr.refl [] w2) (fun _ _ _ => by simp) (fun g hg _ => by omega)
  have HQ := mkHid hq
  clear hb hf f1 b1 hk hq
  unfold litv LitT.items
  go_wp2_with fail
  refine fin t ok Tryz.results68 HB1.out HF.out hlt HB.out HK.out ht HQ.out ?_ ?_
  · rfl
  · rfl
/-- an array behind its bracket -/
def arrF (f : Nat) (r : Bs) (n : Nat) : Option (LitS × Bs × Nat) :=
  match tokP [40] r with
  | none => none
  | some r' =>
    match arrP f r' n [] with
    | none => none
    | some (l, r2, n2) => some (.mk 4 noTx 0 l, r2, n2)
def EleC (f : Nat) : Prop := ∀ (W : World) (r : Nat) (S : Rv), RB W r S → Ev W → 9 ≤ r → S.els ≤ 4096 → 2 * S.rest.length + 1 ≤ f → Calls Tryz.prog 68 #[pt r] W fun e w' => ElQ W r S (eleP f S.rest S.els) e w'
def ArrC (f : Nat) : Prop := ∀ (W : World) (r : Nat) (S : Rv), RB W r S → Ev W → 9 ≤ r → S.els ≤ 4096 → 2 * S.rest.length ≤ f → Calls Tryz.prog 56 #[pt r] W fun e w' => ElQ W r S (arrF f S.rest S.els) e w'
theorem ent55 : ∀ args w, (callFunc 55 args).run Tryz.prog w = .ok (.enter 55 args) w := fun _ _ => by kernel_rfl
theorem ent56 : ∀ args w, (callFunc 56 args).run Tryz.prog w = .ok (.enter 56 args) w := fun _ _ => by kernel_rfl
theorem ent101 : ∀ args w, (callFunc 101 args).run Tryz.prog w = .ok (.enter 101 args) w := fun _ _ => by kernel_rfl
theorem ent102 : ∀ args w, (callFunc 102 args).run Tryz.prog w = .ok (.enter 102 args) w := fun _ _ => by kernel_rfl
theorem ent103 : ∀ args w, (callFunc 103 args).run Tryz.prog w = .ok (.enter 103 args) w := fun _ _ => by kernel_rfl
theorem fst_tok {r : Bs} {c : UInt8} (h : fstB r = c) (hc : c ≠ 10) : ∃ x, tokP [c] r = some x := by
  cases r with
  | nil => exact absurd h.symm hc
  | cons d l =>
    have : d = c := h
    subst this
    exact ⟨l, tok_app [d] l⟩
theorem up_ele (q : Option (LitS × Bs)) (n : Nat) : (match q with | none => none | some (x, r2) => some (x, r2, n)) = up q n := by cases q <;> rfl
/-- the contract of element, out of that of array -/
theorem eleC {f : Nat} (hA : ∀ g, g < f → ArrC g) : EleC f := by
  intro W r S h hE hr hn hf
  cases f with
  | zero => omega
  | succ f =>
  by_cases h40 : fstB S.rest = 40
  · refine elem_by 56 ent56 W r S _ h (by unfold who; rw [if_neg (by rw [h40]; decide), if_pos h40]) (fun V hz hb fV => ?_)
    have e : eleP (f + 1) S.rest S.els = arrF f S.rest S.els := by rw [eleP, if_pos h40]; rfl
    rw [e]
    exact hA f (by omega) V r S hb (hE.fr0 fV) hr hn (by omega)
  · have e : eleP (f + 1) S.rest S.els = up (if fstB S.rest = 39 then txtP S.rest else if fstB S.rest = 35 then symP S.rest else if fstB S.rest = 110 ∨ fstB S.rest = 116 ∨ fstB S.rest = 102 then conP S.rest else intP S.rest) S.els := by
      rw [eleP, if_neg h40]
      exact up_ele _ _
    rw [e]
    by_cases h39 : fstB S.rest = 39
    · rw [if_pos h39]
      exact elem_by 55 ent55 W r S _ h (by unfold who; rw [if_pos h39]) (fun V hz hb fV => quoted_ok V r S hb)
    rw [if_neg h39]
    by_cases h35 : fstB S.rest = 35
    · rw [if_pos h35]
      obtain ⟨x, hx⟩ := fst_tok h35 (by decide)
      exact elem_by 101 ent101 W r S _ h (by unfold who; rw [if_neg h39, if_neg h40, if_pos h35]) (fun V hz hb fV => rsymbol_ok V r S hb (hE.fr0 fV) hr x hx)
    rw [if_neg h35]
    by_cases hc : fstB S.rest = 110 ∨ fstB S.rest = 116 ∨ fstB S.rest = 102
    · rw [if_pos hc]
      exact elem_by 102 ent102 W r S _ h (by unfold who; rw [if_neg h39, if_neg h40, if_neg h35, if_pos hc]) (fun V hz hb fV => rconst_ok V r S hb)
    · rw [if_neg hc]
      exact elem_by 103 ent103 W r S _ h (by unfold who; rw [if_neg h39, if_neg h40, if_neg h35, if_neg hc]) (fun V hz hb fV => rinteger_ok V r S hb (hE.fr0 fV) hr)
end Go.Proofs.YtclkoffnjiiioaaGreatDoor
