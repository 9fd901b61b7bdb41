import Derived.Test.YtheolmnjedbjmaaGreatDoorSY2
namespace Go.Proofs.YtheolmnjedbjmaaGreatDoor
open Go.RowKit
set_option linter.unusedVariables false
set_option linter.unusedSimpArgs false
attribute [local go_sem ↓] Go.wp_at_zero Go.wp_at_succ
theorem lineK_names (a : AK) (hk : 1 ≤ a.kind ∧ a.kind ≤ 12) : (lineK a).2.names.length ≤ a.names.length := by
  obtain ⟨k, n, o, l, t, x, y⟩ := a
  rcases kinds hk with rfl | rfl | rfl | rfl | rfl | rfl | rfl | rfl | rfl | rfl | rfl | rfl
  all_goals first | exact Nat.le_refl _ | exact Nat.zero_le _
theorem lineK_names2 (a : AK) (hk : 1 ≤ a.kind ∧ a.kind ≤ 12) : (lineK a).2.names = [] ∨ (lineK a).2.names = a.names := by
  obtain ⟨k, n, o, l, t, x, y⟩ := a
  rcases kinds hk with rfl | rfl | rfl | rfl | rfl | rfl | rfl | rfl | rfl | rfl | rfl | rfl
  all_goals first | exact Or.inr rfl | exact Or.inl rfl
set_option maxRecDepth 100000 in
set_option maxHeartbeats 8000000 in
theorem rprintAct_ok (W : World) (hp : Pw W) (a : AK) (p : Option Addr) (c : Nat) (hr : Rs W p a.names) (ha : Ak2 a) : Calls Tryz.prog 28 #[a.v p c] W fun e w' => e = .returned (.tuple #[.string (rpaP a).1, .int .i64 (rpaP a).2]) ∧ Bl W w' := by
  have hv : a.v p c = .agg (akC a p c) := rfl
  have HBA : Hid (Bl W (W.alloc (.cells (akC a p c) 40))) := Bl.alloc W _
  by_cases hlo : a.kind < 1
  · have HP : Hid (rpaP a = (⟨#[]⟩, 242)) := by
      show _ = _
      unfold rpaP
      rw [if_pos (by omega)]
    rw [HP.out, hv]
    simp only [akC] at *
    clear HP ha hr hp
    go_enter Tryz.func28, Tryz.ntmps28
    go_wp2_with fail
    go_ret2
    exact ⟨rfl, HBA.out⟩
  by_cases hhi : 12 < a.kind
  · have HP : Hid (rpaP a = (⟨#[]⟩, 242)) := by
      show _ = _
      unfold rpaP
      rw [if_pos (by omega)]
    rw [HP.out, hv]
    simp only [akC] at *
    clear HP ha hr hp
    go_enter Tryz.func28, Tryz.ntmps28
    go_wp2_with fail
    go_ret2
    exact ⟨rfl, HBA.out⟩
  obtain ⟨kn, hk⟩ : ∃ kn : Nat, a.kind = (kn : Int) := ⟨a.kind.toNat, by omega⟩
  have HLN : Hid (∀ p' c' w1, Bl (W.alloc (.cells (akC a p c) 40)) w1 → ((lineK a).2.names = [] ∨ p' = p) → ∃ w2, w1.alloc (.cells (akC (lineK a).2 p' c') 40) = w2 ∧ w2.cell? ⟨W.heap.size, 0, none⟩ = some (.int .i64 a.kind) ∧ w2.cell? ⟨W.heap.size, 1, none⟩ = some (.string a.name) ∧ w2.cell? ⟨W.heap.size, 2, none⟩ = some (.string a.other) ∧ w2.cell? ⟨W.heap.size, 3, none⟩ = some (.slice p a.names.length c) ∧ w2.cell? ⟨W.heap.size, 4, none⟩ = some (.string a.text) ∧ w2.cell? ⟨W.heap.size, 5, none⟩ = some (.int .i64 a.num) ∧ w2.cell? ⟨W.heap.size, 6, none⟩ = some (.int .i64 a.fuel) ∧ w2.cell? ⟨w1.heap.size, 0, none⟩ = some (.int .i64 (lineK a).2.kind) ∧ w2.cell? ⟨w1.heap.size, 1, none⟩ = some (.string (lineK a).2.name) ∧ w2.cell? ⟨w1.heap.size, 2, none⟩ = some (.string (lineK a).2.other) ∧ w2.cell? ⟨w1.heap.size, 3, none⟩ = some (.slice p' (lineK a).2.names.length c') ∧ w2.cell? ⟨w1.heap.size, 4, none⟩ = some (.string (lineK a).2.text) ∧ w2.cell? ⟨w1.heap.size, 5, none⟩ = some (.int .i64 (lineK a).2.num) ∧ w2.cell? ⟨w1.heap.size, 6, none⟩ = some (.int .i64 (lineK a).2.fuel) ∧ Hid (Bl W w2) ∧ Hid (Calls Tryz.prog 29 #[a.v p c, (lineK a).2.v p' c'] w2 fun e w' => e = .returned (.bool (decide (a = (lineK a).2))) ∧ Bl W w')) := fun p' c' w1 hb hpp => by
    have hbW := HBA.out.trans hb
    have hb2 := hbW.trans (Bl.alloc w1 (.cells (akC (lineK a).2 p' c') 40))
    have ha2 := ((hb.trans (Bl.alloc w1 (.cells (akC (lineK a).2 p' c') 40))).block _ (lt_of_heap (heap_alloc_new W _))).trans (heap_alloc_new W (.cells (akC a p c) 40))
    have hn2 := heap_alloc_new w1 (.cells (akC (lineK a).2 p' c') 40)
    refine ⟨_, rfl, lit_in ha2 0 _ rfl, lit_in ha2 1 _ rfl, lit_in ha2 2 _ rfl, lit_in ha2 3 _ rfl, lit_in ha2 4 _ rfl, lit_in ha2 5 _ rfl, lit_in ha2 6 _ rfl, lit_in hn2 0 _ rfl, lit_in hn2 1 _ rfl, lit_in hn2 2 _ rfl, lit_in hn2 3 _ rfl, lit_in hn2 4 _ rfl, lit_in hn2 5 _ rfl, lit_in hn2 6 _ rfl, hb2, ?_⟩
    have hln := lineK_names a (by omega)
    have hl := ha.len
    refine (same_ok _ a (lineK a).2 p p' c c' (hr.bl hb2) ?_ (by omega) (by omega)).mono (fun e w' h => ⟨h.1, hb2.trans h.2⟩)
    rcases hpp with h | h
    · rw [h]
      exact fun j hj => absurd hj (by simp)
    · subst h
      rcases lineK_names2 a (by omega) with h | h
      · rw [h]
        exact fun j hj => absurd hj (by simp)
      · rw [h]
        exact hr.bl hb2
  have HL : Hid (Calls Tryz.prog 47 #[a.v p c] (W.alloc (.cells (akC a p c) 40)) fun e w' => ∃ p' c', e = .returned (.tuple #[.string (ba (lineK a).1), (lineK a).2.v p' c']) ∧ Hid ((lineK a).2.names = [] ∨ p' = p) ∧ Hid (Bl (W.alloc (.cells (akC a p c) 40)) w')) := rline_ok (W.alloc (.cells (akC a p c) 40)) (hp.bl HBA.out) a p c kn hk (by omega) (by omega) (hr.bl HBA.out) ha
  have hsz : (ba (lineK a).1).size = (lineK a).1.length := ba_size _
  have hkk : ¬ (a.kind < 1 ∨ 12 < a.kind) := by omega
  rw [hv]
  rw [hv] at HL
  have hv2 : ∀ p' c', (lineK a).2.v p' c' = .agg (akC (lineK a).2 p' c') := fun _ _ => rfl
  simp only [hv, hv2, akC] at *
  clear ha hr hp hk kn HBA
  cases hs : decide (a = (lineK a).2)
  · have HP : Hid (rpaP a = (⟨#[]⟩, 245)) := by
      show _ = _
      unfold rpaP
      rw [if_neg hkk, if_pos hs]
    rw [HP.out]
    rw [hs] at HLN
    clear hkk HP hsz
    go_enter Tryz.func28, Tryz.ntmps28
    go_wp2_with (first
      | (go_at_call 47; refine HL.out.mono ?_; rintro e w1 ⟨p', c', rfl, hpp, hb1⟩; obtain ⟨w2, hw2, d0, d1, d2, d3, d4, d5, d6, e0, e1, e2, e3, e4, e5, e6, HB2, HS⟩ := HLN.out p' c' w1 hb1.out hpp.out)
      | (go_at_call 29; refine HS.out.mono ?_; rintro e w3 ⟨rfl, hb3⟩; have HB3 := mkHid hb3; clear hb3))
    go_ret2
    exact ⟨rfl, HB3.out⟩
  · rw [hs] at HLN
    by_cases hg : 262144 < (lineK a).1.length
    · have HP : Hid (rpaP a = (⟨#[]⟩, 241)) := by
        show _ = _
        unfold rpaP
        rw [if_neg hkk, if_neg (by rw [hs]; decide), if_pos hg]
      rw [HP.out]
      have hg1 : (262144 : Int) < ((ba (lineK a).1).size : Int) := by omega
      clear hkk HP hsz
      go_enter Tryz.func28, Tryz.ntmps28
      go_wp2_with (first
        | (go_at_call 47; refine HL.out.mono ?_; rintro e w1 ⟨p', c', rfl, hpp, hb1⟩; obtain ⟨w2, hw2, d0, d1, d2, d3, d4, d5, d6, e0, e1, e2, e3, e4, e5, e6, HB2, HS⟩ := HLN.out p' c' w1 hb1.out hpp.out)
        | (go_at_call 29; refine HS.out.mono ?_; rintro e w3 ⟨rfl, hb3⟩; have HB3 := mkHid hb3; clear hb3))
      go_ret2
      exact ⟨rfl, HB3.out⟩
    · have HP : Hid (rpaP a = (ba (lineK a).1, 0)) := by
        show _ = _
        unfold rpaP
        rw [if_neg hkk, if_neg (by rw [hs]; decide), if_neg hg]
      rw [HP.out]
      have hg1 : ¬ (262144 : Int) < ((ba (lineK a).1).size : Int) := by omega
      clear hkk HP hsz
      go_enter Tryz.func28, Tryz.ntmps28
      go_wp2_with (first
        | (go_at_call 47; refine HL.out.mono ?_; rintro e w1 ⟨p', c', rfl, hpp, hb1⟩; obtain ⟨w2, hw2, d0, d1, d2, d3, d4, d5, d6, e0, e1, e2, e3, e4, e5, e6, HB2, HS⟩ := HLN.out p' c' w1 hb1.out hpp.out)
        | (go_at_call 29; refine HS.out.mono ?_; rintro e w3 ⟨rfl, hb3⟩; have HB3 := mkHid hb3; clear hb3))
      go_ret2
      exact ⟨rfl, HB3.out⟩
end Go.Proofs.YtheolmnjedbjmaaGreatDoor

