import Derived.Test.YtklfnjlenbgmoaaDoorPG43HPt5
set_option linter.unusedSimpArgs false
set_option linter.unusedVariables false
namespace Go.Proofs.YtklfnjlenbgmoaaDoor
open Go.RowKit Go.Maps Go.WideMaps
theorem run_copyI (ss : List Int) (u : Value) (w : World) (h : Rd w u ss) : ∃ v' w', (Builtin.append_ #[22, 22] 22 #[.slice none 0 0, u]).run Tryd.prog w = .ok v' w' ∧ w'.ownsRow w.heap.size 3 1 v' ss.length (ss.map (Value.int .i64)) ∧ Fr [] w w' := by
 obtain ⟨p, c, rfl, h1⟩ := h.at_
 obtain ⟨i33, ii, iz, is, ib⟩ := info_parts info3
 have hown : w.ownsRow w.heap.size 3 1 (.slice none 0 0) 0 [] := World.ownsRow_nil _ _ _ _
 cases p with
 | none =>
  have h0 : ss.length = 0 := by
   rcases Nat.eq_zero_or_pos ss.length with h0 | h0
   ·exact h0
   ·obtain ⟨g, off, e2, _⟩ := h1 h0; cases e2
  have hs : ss = [] := List.length_eq_zero_iff.1 h0
  have hc := h.nil c rfl
  subst hs
  subst hc
  exact ⟨_, _, run_append_owned_none (P := Tryd.prog) (w := w) w.heap.size 22 22 3 i33 1 Tryd.underlying22 ii _ _ _ hown, hown, Fr.refl _ _⟩
 | some ad =>
  have hnews : ∀ j x, (ss.map (Value.int .i64))[j]? = some x → w.cell? (ad.add j) = some x := fun j x hx => by
   rw [List.getElem?_map] at hx
   cases hz : ss[j]? with
   | none => rw [hz] at hx; simp at hx
   | some z =>
    rw [hz] at hx
    simp at hx
    obtain ⟨hj, hjz⟩ := List.getElem?_eq_some_iff.1 hz
    obtain ⟨g, off, e2, h2, h3⟩ := h1 (by omega)
    rw [Option.some.inj e2, Addr.add_mid, h3 j hj, List.getD_eq_getElem?_getD, hz, ← hx]
    rfl
  have hsh := h.short
  obtain ⟨v', w', hr, h2, h3, _, h5⟩ := run_append_own_at (P := Tryd.prog) w w.heap.size 22 22 3 i33 (.int .i64 0) 1 8 Tryd.underlying22 ii iz is ib rfl (by decide) _ _ _ hown ad ss.length c (ss.map (Value.int .i64)) (by simp) hnews (fun x hx => by obtain ⟨z, _, rfl⟩ := List.mem_map.1 hx; rfl) (by unfold maxLen; omega) (by omega) (Nat.le_refl _)
  refine ⟨v', w', hr, ?_, Fr.grown h3 (fun k hk => by cases hk)⟩
  rw [Nat.zero_add] at h2
  exact h2
theorem run_two (w : World) (B : Nat) (p : Option Addr) (c : Nat) (xs : List Int) (h : w.ownsRow B 3 1 (.slice p xs.length c) xs.length (xs.map (Value.int .i64))) (hB : B ≤ w.heap.size) (hl : xs.length ≤ 1099511627776) :
  ∃ g c2 w', (Builtin.append_ #[22, 22] 22 #[.slice p xs.length c, .slice (some ⟨w.heap.size, 0, none⟩) 2 2]).run Tryd.prog (w.alloc (.cells #[.int .i64 (-7), .int .i64 (-8)] 3)) = .ok (.slice (some ⟨g, 0, none⟩) (xs.length + 2) c2) w' ∧
   w'.ownsRow B 3 1 (.slice (some ⟨g, 0, none⟩) (xs.length + 2) c2) (xs.length + 2) ((xs ++ [-7, -8]).map (Value.int .i64)) ∧ Fr (blk p) w w' ∧ B ≤ g := by
 obtain ⟨i3, ii, iz, is, ib⟩ := info_parts info3
 have hown : (w.alloc (.cells #[.int .i64 (-7), .int .i64 (-8)] 3)).ownsRow B 3 1 (.slice p xs.length c) xs.length (xs.map (Value.int .i64)) := own_congr h (fun g hg => Below.heap_alloc _ _ _ (h.lt g hg).2)
 have hnews : ∀ j u, ([.int .i64 (-7), .int .i64 (-8)] : List Value)[j]? = some u → (w.alloc (.cells #[.int .i64 (-7), .int .i64 (-8)] 3)).cell? ((⟨w.heap.size, 0, none⟩ : Addr).add j) = some u := World.news_of_block (heap_alloc_new w _)
 obtain ⟨v', w', hr, h2, h3, _⟩ := run_append_own_wide (P := Tryd.prog) (w.alloc (.cells #[.int .i64 (-7), .int .i64 (-8)] 3)) B 22 22 3 i3 _ 1 8 Tryd.underlying22 ii iz is ib rfl (by decide) _ _ _ hown ⟨w.heap.size, 0, none⟩ 2 2 [.int .i64 (-7), .int .i64 (-8)] rfl hnews (by intro u hu; simp at hu; rcases hu with rfl | rfl <;> rfl) (by unfold maxLen; omega) (by omega) (by simp; omega)
 have hfr : Fr (blk p) w w' := (Fr.alloc (blk p) w _).trans (Fr.grown (S := blk p) h3 (fun k hk => by
  cases p with
  | none => simp [Value.ownBlock] at hk
  | some a =>
   simp [Value.ownBlock] at hk
   simp [blk, hk])) (fun g hg => .inl hg)
 rcases h2.2 with ⟨e1, e2⟩ | ⟨g, cap, cur, e1, e2, e3⟩
 ·omega
 ·subst e1
  refine ⟨g, cap, w', hr, ?_, hfr, e2⟩
  rw [List.map_append]
  exact h2
theorem WOk.apart {w w' : World} {n t g : Nat} {x : Wl} (h : WOk w n t x) (hf : Fr [g] w w') (hg : ¬ Liv x g) (h2 : 2 ≤ g) (hc : Cel w' g) : WOk w' n t x := by
 have out : ∀ b, Liv x b → b ∉ [g] := fun b hb hm => hg ((List.mem_singleton.1 hm) ▸ hb)
 refine ⟨h.bok.keep hf (out _ liv0) fun b hb => out b (liv1 hb), h.okA.keep hf fun b hb => out b (liv4 hb), h.okB.keep hf fun b hb => out b (liv5 hb), h.tb.keep hf fun b hb => by rw [List.mem_singleton.1 hb]; exact h2, h.np, h.nm, ow_keep h.rp hf fun b hb => out b (liv2 hb), ow_keep h.rm hf fun b hb => out b (liv3 hb), h.ap, h.lo, fun p hp => ?_, h.c0, h.c1, h.c2, h.c3⟩
 have cel : ∀ {b}, Cel w b → Cel w' b := fun {b} ⟨cs, u, hb⟩ => by
  by_cases e : b = g
  ·rw [e]; exact hc
  ·exact ⟨cs, u, (hf.block b (lt_of_heap hb) fun hm => e (List.mem_singleton.1 hm)).trans hb⟩
 rcases h.pc p hp with q | q | q | ⟨b, k, h1, h2, h3, h4, h5, h6⟩
 ·exact .inl q
 ·exact .inr (.inl q)
 ·exact .inr (.inr (.inl q))
 ·exact .inr (.inr (.inr ⟨b, k, h1, h2, cel h3, cel h4, h5, h6⟩))
theorem Go1.over {w w' w'' : World} {x x' : Wl} {g : Nat} (h : Go1 w w' x x') (hf : Fr [g] w' w'') (hg : w.heap.size ≤ g) : Go1 w w'' x x' := by
 obtain ⟨X, h1, h2⟩ := h.fr
 refine ⟨⟨X ++ [g], (h1.mono fun b hb => .inl (List.mem_append.2 (.inl hb))).trans hf fun b hb => .inl (List.mem_append.2 (.inr hb)), fun b hb => ?_⟩, h.liv⟩
 rcases List.mem_append.1 hb with q | q
 ·exact h2 b q
 ·exact .inr (by rw [List.mem_singleton.1 q]; exact hg)
theorem row_cel {w : World} {B e g k c : Nat} {xs : List Value} {s : Nat} (h : w.ownsRow B e s (.slice (some ⟨g, 0, none⟩) k c) k xs) : Cel w g := by
 rcases h.2 with ⟨h2, h3⟩ | ⟨g', cap, cur, h2, h3⟩
 ·cases h2
 ·injection h2 with h2
  injection h2 with h2
  injection h2 with h2
  subst h2
  exact ⟨_, _, h3.2.1⟩
def onesK (xs : List Int) (j : Nat) : List Int := List.replicate j 1 ++ xs.drop j
theorem onesK_len (xs : List Int) (j : Nat) (h : j ≤ xs.length) : (onesK xs j).length = xs.length := by simp [onesK]; omega
theorem onesK_set (xs : List Int) (j : Nat) (h : j < xs.length) : (onesK xs j).set j 1 = onesK xs (j + 1) := by
 unfold onesK
 rw [List.drop_eq_getElem_cons h, List.set_append_right _ _ (by simp), List.length_replicate, Nat.sub_self, List.set_cons_zero, List.replicate_succ', List.append_assoc]
 rfl
end Go.Proofs.YtklfnjlenbgmoaaDoor
