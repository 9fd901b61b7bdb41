import Derived.Test.YtjeeibokdnepgaaSList
import Derived.Deep.RegionLaw
namespace Go.Proofs.Ytjeeibokdnepgaa
open Go.RowKit Go.Maps Go.WideMaps
set_option linter.unusedVariables false
set_option linter.unusedSimpArgs false
theorem Fr.setCells {S : List Nat} (w : World) (g i : Nat) (vs : List Value) (h : g ∈ S) : Fr S w (w.setCells g i vs) := by
  induction vs generalizing w i with
  | nil => exact Fr.refl _ _
  | cons v vs ih => exact (Fr.setCell w ⟨g, i, none⟩ v h).trans (ih _ (i + 1)) (fun b hb => Or.inl hb)
theorem setCells_heap {w : World} {g : Nat} {C : Array Value} {t : TypeId} (vs : List Value) (i : Nat) (h : w.heap[g]? = some (.cells C t (0, 0))) : ∃ C', (w.setCells g i vs).heap[g]? = some (.cells C' t (0, 0)) ∧ C'.size = C.size ∧ ∀ j, j < i → C'[j]? = C[j]? := by
  induction vs generalizing w i C with
  | nil => exact ⟨C, h, rfl, fun _ _ => rfl⟩
  | cons v vs ih =>
    obtain ⟨C', h1, h2, h3⟩ := ih (i + 1) (set_in h i v)
    refine ⟨C', h1, by simpa using h2, fun j hj => ?_⟩
    rw [h3 j (by omega), Array.getElem?_setIfInBounds_ne (by omega)]
theorem zero9 (w : World) : (zeroValue 9).run Try.prog w = .ok (.string ⟨#[]⟩) w := by kernel_rfl
/-- a row is cleared from a place on -/
theorem own_cut {w : World} {p : Option Addr} {cap n i : Nat} {ts : List ByteArray} (h : w.ownsRow 0 9 1 (.slice p n cap) n (ts.map Value.string)) (hi : i < n) :
    ∃ g, p = some ⟨g, 0, none⟩ ∧ n ≤ cap ∧ cap ≤ maxLen ∧ (∀ j, j < cap → (w.cell? ⟨g, j, none⟩).isSome = true) ∧ (∀ j, w.frozen? ⟨g, j, none⟩ = false) ∧
      ∀ w', Fr [g] w w' → w'.heap[g]? = (w.setCells g i (List.replicate (n - i) (.string ⟨#[]⟩))).heap[g]? → w'.ownsRow 0 9 1 (.slice p i cap) i ((ts.take i).map Value.string) := by
  have hlen : n = ts.length := by have := h.1; simpa using this.symm
  rcases h.2 with ⟨h2, h3⟩ | ⟨g, cap', cur, h2, h3, h4, h5, h6, h7, h8⟩
  · omega
  · injection h2 with h2 _ h2''
    subst h2
    subst h2''
    rw [Nat.mul_one] at h7 h8
    refine ⟨g, rfl, h5, h6, fun j hj => ?_, fun j => frozen_in h4 j, fun w' hf hw => ?_⟩
    · rw [cell_in h4, Array.getElem?_eq_getElem (by omega)]; rfl
    · obtain ⟨C', y1, y2, y3⟩ := setCells_heap (List.replicate (n - i) (.string ⟨#[]⟩)) i h4
      refine ⟨by simp; omega, Or.inr ⟨g, cap, C', rfl, Nat.zero_le _, hw.trans y1, by omega, h6, by rw [Nat.mul_one, y2, h7], ?_⟩⟩
      rw [Nat.mul_one, List.map_take, ← h8, List.take_take, Nat.min_eq_left (by omega)]
      apply List.ext_getElem?
      intro j
      rw [List.getElem?_take, List.getElem?_take]
      by_cases hj : j < i
      · rw [if_pos hj, if_pos hj, Array.getElem?_toList, Array.getElem?_toList]; exact y3 j hj
      · rw [if_neg hj, if_neg hj]
set_option maxRecDepth 100000 in
set_option maxHeartbeats 2000000 in
theorem Delete_ok (i n cap : Nat) (p : Option Addr) (ts : List ByteArray) (w : World) (h : w.ownsRow 0 9 1 (.slice p n cap) n (ts.map Value.string)) (hi : i ≤ n) (hn : n ≤ 4096) :
    Calls Try.prog 33 #[.slice p n cap, .int .i64 (i : Int), .int .i64 (n : Int)] w fun e w' => e = .returned (.slice p i cap) ∧ w'.ownsRow 0 9 1 (.slice p i cap) i ((ts.take i).map Value.string) ∧ Fr (blk p) w w' := by
  have hlen : n = ts.length := by have := h.1; simpa using this.symm
  rcases Nat.lt_or_ge i n with hlt | hge
  rotate_left
  · have e : i = n := by omega
    subst e
    have e2 : ts.take i = ts := by rw [hlen]; exact List.take_length
    rw [e2]
    have HO := mkHid h
    have hc : i ≤ cap ∧ cap ≤ 9223372036854775807 := by
      rcases h.2 with ⟨h2, h3⟩ | ⟨g, cap', cur, h2, h3, h4, h5, h6⟩
      · injection h2; omega
      · injection h2 with _ _ h2; unfold maxLen at h6; omega
    obtain ⟨hc1, hc2⟩ := hc
    clear h hlen e2
    go_enter Try.func33, Try.ntmps33
    go_wp2
    all_goals (go_ret; exact ⟨rfl, HO.out, Fr.refl _ _⟩)
  · obtain ⟨g, rfl, q1, q2, q3, q4, q5⟩ := own_cut (w := w.drew) (own_congr h (fun g hg => rfl)) hlt
    obtain ⟨i0, hi0, hz0, hz1, hz2⟩ := info_parts info9
    have q2' : cap ≤ 9223372036854775807 := by unfold maxLen at q2; omega
    obtain ⟨A, hA⟩ : ∃ A : Addr, (if cap = n then some (⟨g, 0, none⟩ : Addr) else some ⟨g, n, none⟩) = some A := by
      by_cases e : cap = n
      · exact ⟨_, by rw [if_pos e]⟩
      · exact ⟨_, by rw [if_neg e]⟩
    have hcl : ∀ ty, (Builtin.clear_ #[22] ty #[.slice (some ⟨g, i, none⟩) (n - i) (cap - i)]).run Try.prog w.drew = .ok (.tuple #[]) (w.drew.setCells g i (List.replicate (n - i) (.string ⟨#[]⟩))) :=
      fun ty => Lib.run_clear_slice w.drew _ _ ty _ Try.underlying22 zero9 rfl rfl g i _ _ (by omega) (fun t ht => q3 _ (by omega)) (fun t ht => q4 _)
    have H5 := mkHid q5
    have hic : i ≤ cap := by omega
    clear q3 q4 q5 h hlen q2
    go_enter Try.func33, Try.ntmps33
    go_wp2_with fail
    go_region_law (refine step_append_room rfl (.tmp 22) (.tmp 25) 22 rfl 9 i0 1 Try.underlying22 hi0 hz1 g 0 i cap (by simp [Act.eval, Act.put]) A 0 (cap - n) [] (by simp [Act.eval, Act.put]) rfl (by simp) (by simp) (by omega) (by simp) ?_; rw [show w.drew.setCells g (0 + i * 1) [] = w.drew from rfl])
    go_wp2
    go_ret
    have hf : Fr [g] w (w.drew.setCells g i (List.replicate (n - i) (.string ⟨#[]⟩))) := (Fr.drew [g] w).trans (Fr.setCells (S := [g]) _ _ _ _ (by simp)) (fun b hb => Or.inl hb)
    exact ⟨rfl, H5.out _ (Fr.setCells (S := [g]) _ _ _ _ (by simp)) rfl, hf⟩
end Go.Proofs.Ytjeeibokdnepgaa
