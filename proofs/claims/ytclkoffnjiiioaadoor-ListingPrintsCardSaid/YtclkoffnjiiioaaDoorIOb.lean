import Derived.Test.YtclkoffnjiiioaaDoorIHd
import Derived.Test.YtclkoffnjiiioaaDoorCLast
namespace Go.Proofs.YtclkoffnjiiioaaDoor
open Go.RowKit
set_option linter.unusedVariables false
set_option linter.unusedSimpArgs false
attribute [local go_sem ↓] Go.wp_at_zero Go.wp_at_succ
def litW (t : LitT) : List UInt8 := (if t.kind = 2 then [116, 101, 120, 116, 32] else [97, 114, 114, 97, 121, 32]) ++ wrT t ++ [10]
set_option maxRecDepth 100000 in
set_option maxHeartbeats 8000000 in
theorem writeObject_ok {W W0 : World} {B : Nat} {v x : Value} {bs : List UInt8} (h : Pg W B v bs) (t : LitT) (hx : EW W0 B x t) (hb : Below B W0 W) (hl : bs.length + (wrT t).length + 128 ≤ 70368744177664) :
    Calls Tryd.prog 16 #[v, .int .i64 t.kind, x] W fun e w' => WrP W B bs (litW t) e w' := by
  obtain ⟨T, u, K0, rfl, hm, hen, hna, hK⟩ := hx
  obtain ⟨wd, hwd⟩ : ∃ wd : List UInt8, wd = if t.kind = 2 then [116, 101, 120, 116, 32] else [97, 114, 114, 97, 121, 32] := ⟨_, rfl⟩
  have hwl : wd.length ≤ 6 := by rw [hwd]; split <;> simp
  have h0 : Pg W.drew B v bs := h.dr 1
  obtain ⟨va, wa, hra, hpa, hfa⟩ := h0.str ⟨wd.toArray⟩ (by show bs.length + wd.toArray.size ≤ _; rw [List.size_toArray]; omega)
  have f0 : Pf B W W.drew := (Pf.refl B W).dn h.low 1
  have hpa2 : Pg wa B va (bs ++ wd) := by simpa using hpa
  have HKl := mkHid (hK wa va (bs ++ wd) ((hb.trans f0.below).trans hfa.below) hpa2 (by rw [List.length_append]; omega))
  have HEl : Hid (∀ (V : World) (pg : Value), Pg V B pg (bs ++ wd ++ wrT t) → Calls Tryd.prog 26 #[pg] V fun e w' => WrP V B (bs ++ wd ++ wrT t) [10] e w') := fun V pg hp => endLine_ok hp (by simp only [List.length_append]; omega)
  have HFin : Hid (∀ v' w' V, Pf B wa V → Pg w' B v' (bs ++ wd ++ wrT t ++ [10]) → Pf B V w' → WrP W B bs (litW t) (.returned v') w') := fun v' w' V h2 h1 h3 => ⟨v', rfl, by unfold litW; rw [← hwd, ← List.append_assoc, ← List.append_assoc]; exact h1, ((f0.trans hfa).trans h2).trans h3⟩
  have hmf : ∀ (fn : Fn) (first cap : Array Value) (w : World), (Instr.makeFunc fn first cap).run Tryd.prog w = .ok (.func fn first cap) w := fun _ _ _ _ => rfl
  have HRa := mkHid hra
  have HWd := mkHid hwd
  clear h h0 hra hpa hfa f0 hpa2 hK hwd hb
  by_cases hk : t.kind = 2
  · have HWe : Hid (wd = [116, 101, 120, 116, 32]) := by have := HWd.out; rw [if_pos hk] at this; exact this
    rw [HWe.out] at HRa
    rw [hk]
    clear HWd
    go_enter Tryd.func16, Tryd.ntmps16
    go_upto_region 4 with fail
    refine wp_region_last (L := 9) (S := (fun _ => True)) (by kernel_rfl) (trivial) (fun hHeld => ?_)
    refine wpLast_take (i := 0) (v := ?_) rfl (by kernel_rfl) (by kernel_rfl) (by kernel_rfl) (by decide) (by kernel_rfl) (fun _ _ _ h => h) (Or.inl ⟨by rfl, ?_⟩) (by assumption) ?_
    rotate_left
    · (intro w hSw; (try dsimp only at hSw); first | (go_simp; done) | (go_simp; with_reducible rfl))
    try simp only [Act.put, List.getElem_toArray, List.getElem_cons_zero, List.getElem_cons_succ, List.setIfInBounds_toArray, List.set_cons_zero, List.set_cons_succ]
    refine wpLast_take (i := 1) (v := ?_) rfl (by kernel_rfl) (by kernel_rfl) (by kernel_rfl) (by decide) (by kernel_rfl) (fun _ _ _ h => h) (Or.inl ⟨by rfl, ?_⟩) (by assumption) ?_
    rotate_left
    · (intro w hSw; (try dsimp only at hSw); first | (go_simp; done) | (go_simp; with_reducible rfl))
    try simp only [Act.put, List.getElem_toArray, List.getElem_cons_zero, List.getElem_cons_succ, List.setIfInBounds_toArray, List.set_cons_zero, List.set_cons_succ]
    refine wpLast_take (i := 2) (v := ?_) rfl (by kernel_rfl) (by kernel_rfl) (by kernel_rfl) (by decide) (by kernel_rfl) (fun _ _ _ h => h) (Or.inl ⟨by rfl, ?_⟩) (by assumption) ?_
    rotate_left
    · (intro w hSw; (try dsimp only at hSw); first | (go_simp; done) | (go_simp; with_reducible rfl))
    try simp only [Act.put, List.getElem_toArray, List.getElem_cons_zero, List.getElem_cons_succ, List.setIfInBounds_toArray, List.set_cons_zero, List.set_cons_succ]
    refine wpLast_take (i := 4) (v := ?_) rfl (by kernel_rfl) (by kernel_rfl) (by kernel_rfl) (by decide) (by kernel_rfl) (fun _ _ _ h => h) (Or.inl ⟨by rfl, ?_⟩) (by assumption) ?_
    rotate_left
    · (intro w hSw; (try dsimp only at hSw); first | (go_simp; done) | (go_simp; with_reducible rfl))
    try simp only [Act.put, List.getElem_toArray, List.getElem_cons_zero, List.getElem_cons_succ, List.setIfInBounds_toArray, List.set_cons_zero, List.set_cons_succ]
    refine wpLast_take (i := 5) (v := ?_) rfl (by kernel_rfl) (by kernel_rfl) (by kernel_rfl) (by decide) (by kernel_rfl) (fun _ _ _ h => h) (Or.inl ⟨by rfl, ?_⟩) (by assumption) ?_
    rotate_left
    · (intro w hSw; (try dsimp only at hSw); first | (go_simp; done) | (go_simp; with_reducible rfl))
    try simp only [Act.put, List.getElem_toArray, List.getElem_cons_zero, List.getElem_cons_succ, List.setIfInBounds_toArray, List.set_cons_zero, List.set_cons_succ]
    refine wpLast_take (i := 6) (v := ?_) rfl (by kernel_rfl) (by kernel_rfl) (by kernel_rfl) (by decide) (by kernel_rfl) (fun _ _ _ h => h) (Or.inl ⟨by rfl, ?_⟩) (by assumption) ?_
    rotate_left
    · (intro w hSw; (try dsimp only at hSw); first | (go_simp; done) | (go_simp; with_reducible rfl))
    try simp only [Act.put, List.getElem_toArray, List.getElem_cons_zero, List.getElem_cons_succ, List.setIfInBounds_toArray, List.set_cons_zero, List.set_cons_succ]
    refine wpLast_one (i := 3) (by kernel_rfl) rfl (by decide) (fun K hK => ?_)
    refine step_append_run rfl (.tmp 11) (.tmp 12) 47 9 rfl v (.string ⟨#[116, 101, 120, 116, 32]⟩) (by simp [Act.eval]) (by simp [Act.eval]) _ _ HRa.out ?_
    refine hK.out _ _ (trivial) (fun hHeld => ?_)
    clear hK K
    try simp only [Act.put, List.getElem_toArray, List.getElem_cons_zero, List.getElem_cons_succ, List.setIfInBounds_toArray, List.set_cons_zero, List.set_cons_succ]
    refine wpLast_one (i := 7) (by kernel_rfl) rfl (by decide) (fun K hK => ?_)
    go_simp
    go_wp2_with fail
    refine HKl.out.mono ?_
    rintro e w7 ⟨v7, rfl, hp7, hf7⟩
    have H7 := mkHid (And.intro hp7 hf7)
    clear hp7 hf7
    refine hK.out _ _ (trivial) (fun hHeld => ?_)
    clear hK K
    try simp only [Act.put, List.getElem_toArray, List.getElem_cons_zero, List.getElem_cons_succ, List.setIfInBounds_toArray, List.set_cons_zero, List.set_cons_succ]
    refine wpLast_one (i := 8) (by kernel_rfl) rfl (by decide) (fun K hK => ?_)
    go_simp
    go_wp2_with fail
    refine (HEl.out _ _ H7.out.1).mono ?_
    rintro e w8 ⟨v8, rfl, hp8, hf8⟩
    have H8 := mkHid (HFin.out v8 w8 _ H7.out.2 hp8 hf8)
    clear hp8 hf8
    refine hK.out _ _ (trivial) (fun hHeld => ?_)
    clear hK K
    try simp only [Act.put, List.getElem_toArray, List.getElem_cons_zero, List.getElem_cons_succ, List.setIfInBounds_toArray, List.set_cons_zero, List.set_cons_succ]
    refine wpLast_end (by kernel_rfl) rfl (by kernel_rfl) (fun K hK => ?_)
    go_simp
    refine hK.out _ _ ?_
    clear hK K
    try simp only [Act.put, List.getElem_toArray, List.getElem_cons_zero, List.getElem_cons_succ, List.setIfInBounds_toArray, List.set_cons_zero, List.set_cons_succ]
    go_wp2_with fail
    go_ret
    exact H8.out
  · have HWe : Hid (wd = [97, 114, 114, 97, 121, 32]) := by have := HWd.out; rw [if_neg hk] at this; exact this
    rw [HWe.out] at HRa
    have q2 : (t.kind == 2) = false := beq_eq_false_iff_ne.2 hk
    generalize t.kind = kd at *
    clear HWd
    go_enter Tryd.func16, Tryd.ntmps16
    go_upto_region 4 with fail
    refine wp_region_last (L := 9) (S := (fun _ => True)) (by kernel_rfl) (trivial) (fun hHeld => ?_)
    refine wpLast_take (i := 0) (v := ?_) rfl (by kernel_rfl) (by kernel_rfl) (by kernel_rfl) (by decide) (by kernel_rfl) (fun _ _ _ h => h) (Or.inl ⟨by rfl, ?_⟩) (by assumption) ?_
    rotate_left
    · (intro w hSw; (try dsimp only at hSw); first | (go_simp; done) | (go_simp; with_reducible rfl))
    try simp only [Act.put, List.getElem_toArray, List.getElem_cons_zero, List.getElem_cons_succ, List.setIfInBounds_toArray, List.set_cons_zero, List.set_cons_succ]
    refine wpLast_take (i := 1) (v := ?_) rfl (by kernel_rfl) (by kernel_rfl) (by kernel_rfl) (by decide) (by kernel_rfl) (fun _ _ _ h => h) (Or.inl ⟨by rfl, ?_⟩) (by assumption) ?_
    rotate_left
    · (intro w hSw; (try dsimp only at hSw); first | (go_simp; done) | (go_simp; with_reducible rfl))
    try simp only [Act.put, List.getElem_toArray, List.getElem_cons_zero, List.getElem_cons_succ, List.setIfInBounds_toArray, List.set_cons_zero, List.set_cons_succ]
    refine wpLast_take (i := 2) (v := ?_) rfl (by kernel_rfl) (by kernel_rfl) (by kernel_rfl) (by decide) (by kernel_rfl) (fun _ _ _ h => h) (Or.inl ⟨by rfl, ?_⟩) (by assumption) ?_
    rotate_left
    · (intro w hSw; (try dsimp only at hSw); first | (go_simp; done) | (go_simp; with_reducible rfl))
    try simp only [Act.put, List.getElem_toArray, List.getElem_cons_zero, List.getElem_cons_succ, List.setIfInBounds_toArray, List.set_cons_zero, List.set_cons_succ]
    refine wpLast_take (i := 4) (v := ?_) rfl (by kernel_rfl) (by kernel_rfl) (by kernel_rfl) (by decide) (by kernel_rfl) (fun _ _ _ h => h) (Or.inl ⟨by rfl, ?_⟩) (by assumption) ?_
    rotate_left
    · (intro w hSw; (try dsimp only at hSw); first | (go_simp; done) | (go_simp; with_reducible rfl))
    try simp only [Act.put, List.getElem_toArray, List.getElem_cons_zero, List.getElem_cons_succ, List.setIfInBounds_toArray, List.set_cons_zero, List.set_cons_succ]
    refine wpLast_take (i := 5) (v := ?_) rfl (by kernel_rfl) (by kernel_rfl) (by kernel_rfl) (by decide) (by kernel_rfl) (fun _ _ _ h => h) (Or.inl ⟨by rfl, ?_⟩) (by assumption) ?_
    rotate_left
    · (intro w hSw; (try dsimp only at hSw); first | (go_simp; done) | (go_simp; with_reducible rfl))
    try simp only [Act.put, List.getElem_toArray, List.getElem_cons_zero, List.getElem_cons_succ, List.setIfInBounds_toArray, List.set_cons_zero, List.set_cons_succ]
    refine wpLast_take (i := 6) (v := ?_) rfl (by kernel_rfl) (by kernel_rfl) (by kernel_rfl) (by decide) (by kernel_rfl) (fun _ _ _ h => h) (Or.inl ⟨by rfl, ?_⟩) (by assumption) ?_
    rotate_left
    · (intro w hSw; (try dsimp only at hSw); first | (go_simp; done) | (go_simp; with_reducible rfl))
    try simp only [Act.put, List.getElem_toArray, List.getElem_cons_zero, List.getElem_cons_succ, List.setIfInBounds_toArray, List.set_cons_zero, List.set_cons_succ]
    refine wpLast_one (i := 3) (by kernel_rfl) rfl (by decide) (fun K hK => ?_)
    refine step_append_run rfl (.tmp 11) (.tmp 12) 47 9 rfl v (.string ⟨#[97, 114, 114, 97, 121, 32]⟩) (by simp [Act.eval]) (by simp [Act.eval]) _ _ HRa.out ?_
    refine hK.out _ _ (trivial) (fun hHeld => ?_)
    clear hK K
    try simp only [Act.put, List.getElem_toArray, List.getElem_cons_zero, List.getElem_cons_succ, List.setIfInBounds_toArray, List.set_cons_zero, List.set_cons_succ]
    refine wpLast_one (i := 7) (by kernel_rfl) rfl (by decide) (fun K hK => ?_)
    go_simp
    go_wp2_with fail
    refine HKl.out.mono ?_
    rintro e w7 ⟨v7, rfl, hp7, hf7⟩
    have H7 := mkHid (And.intro hp7 hf7)
    clear hp7 hf7
    refine hK.out _ _ (trivial) (fun hHeld => ?_)
    clear hK K
    try simp only [Act.put, List.getElem_toArray, List.getElem_cons_zero, List.getElem_cons_succ, List.setIfInBounds_toArray, List.set_cons_zero, List.set_cons_succ]
    refine wpLast_one (i := 8) (by kernel_rfl) rfl (by decide) (fun K hK => ?_)
    go_simp
    go_wp2_with fail
    refine (HEl.out _ _ H7.out.1).mono ?_
    rintro e w8 ⟨v8, rfl, hp8, hf8⟩
    have H8 := mkHid (HFin.out v8 w8 _ H7.out.2 hp8 hf8)
    clear hp8 hf8
    refine hK.out _ _ (trivial) (fun hHeld => ?_)
    clear hK K
    try simp only [Act.put, List.getElem_toArray, List.getElem_cons_zero, List.getElem_cons_succ, List.setIfInBounds_toArray, List.set_cons_zero, List.set_cons_succ]
    refine wpLast_end (by kernel_rfl) rfl (by kernel_rfl) (fun K hK => ?_)
    go_simp
    refine hK.out _ _ ?_
    clear hK K
    try simp only [Act.put, List.getElem_toArray, List.getElem_cons_zero, List.getElem_cons_succ, List.setIfInBounds_toArray, List.set_cons_zero, List.set_cons_succ]
    go_wp2_with fail
    go_ret
    exact H8.out
end Go.Proofs.YtclkoffnjiiioaaDoor
