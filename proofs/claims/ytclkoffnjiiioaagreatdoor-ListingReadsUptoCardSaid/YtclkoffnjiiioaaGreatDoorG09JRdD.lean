import Derived.Test.YtclkoffnjiiioaaGreatDoorG00CSy5
import Derived.OrdersHeld
import Derived.Test.YtclkoffnjiiioaaGreatDoorJRdC
namespace Go.Proofs.YtclkoffnjiiioaaGreatDoor
open Go.RowKit
set_option linter.unusedVariables false
set_option linter.unusedSimpArgs false
attribute [local go_sem ↓] Go.wp_at_zero Go.wp_at_succ
section
variable {P : Program} {ops : Array Oper} {Q : Exit → Act → World → Prop} {md : Region.Mode} {S : World → Prop}
theorem wp_region_h {id : Nat} {a : Act} {w : World} (hm : P.follows .mixedOrders = true) (hS : S w.drew)
    (h : S w.drew → wpAnyH P .any ops Q S ops.size (Array.replicate ops.size false) a w.drew) : (Code.region id ops true).wp P Q a w := wp_region_held hm (h hS)
/-- just one may come up -/
theorem wpH_one {i : Nat} {o : Oper} {fuel : Nat} {listed : Array Bool} {a : Act} {w : World} (hr : Region.ready md ops listed = [i]) (ho : ops[i]? = some o)
    (h : ∀ K' : Act → World → Prop, Shut (∀ a w, S w → (S w → wpAnyH P md ops Q S fuel (listed.setIfInBounds i true) a w) → K' a w) → if Region.wanted o (yielded ops a.tmps) = true then Oper.wp P o a w K' Q else K' (a.put o.dst undef) w) : wpAnyH P md ops Q S (fuel + 1) listed a w := by
  refine ⟨fun h0 => (by rw [hr] at h0; cases h0), fun j hj => ?_⟩
  rw [hr] at hj
  have e : j = i := by simpa using hj
  subst e
  exact wpOp_step ho (fun K' hK => h K' (fun a w hS hW => hK a w ⟨hS, hW hS⟩))
/-- one of two may come up -/
theorem wpH_two {i j : Nat} {oi oj : Oper} {fuel : Nat} {listed : Array Bool} {a : Act} {w : World} (hr : Region.ready md ops listed = [i, j]) (hi : ops[i]? = some oi) (hj : ops[j]? = some oj)
    (h1 : ∀ K' : Act → World → Prop, Shut (∀ a w, S w → (S w → wpAnyH P md ops Q S fuel (listed.setIfInBounds i true) a w) → K' a w) → if Region.wanted oi (yielded ops a.tmps) = true then Oper.wp P oi a w K' Q else K' (a.put oi.dst undef) w)
    (h2 : ∀ K' : Act → World → Prop, Shut (∀ a w, S w → (S w → wpAnyH P md ops Q S fuel (listed.setIfInBounds j true) a w) → K' a w) → if Region.wanted oj (yielded ops a.tmps) = true then Oper.wp P oj a w K' Q else K' (a.put oj.dst undef) w) : wpAnyH P md ops Q S (fuel + 1) listed a w := by
  refine ⟨fun h0 => (by rw [hr] at h0; cases h0), fun k hk => ?_⟩
  rw [hr] at hk
  have e : k = i ∨ k = j := by simpa using hk
  rcases e with e | e
  · subst e
    exact wpOp_step hi (fun K' hK => h1 K' (fun a w hS hW => hK a w ⟨hS, hW hS⟩))
  · subst e
    exact wpOp_step hj (fun K' hK => h2 K' (fun a w hS hW => hK a w ⟨hS, hW hS⟩))
end
end Go.Proofs.YtclkoffnjiiioaaGreatDoor
namespace Go.Proofs.YtclkoffnjiiioaaGreatDoor
open Go.RowKit
set_option linter.unusedVariables false
set_option linter.unusedSimpArgs false
attribute [local go_sem ↓] Go.wp_at_zero Go.wp_at_succ
theorem read_C : ∀ f, EleC f ∧ ArrC f := by
  intro f
  induction f using Nat.strongRecOn with
  | _ f ih => exact ⟨eleC fun g hg => (ih g hg).2, arrC fun g hg => (ih g hg).1⟩
theorem arrF_T (r : Bs) (n : Nat) : arrF (2 * r.length) r n = arrT r n := by
  unfold arrF arrT
  cases h : tokP [40] r with
  | none => rfl
  | some r' =>
    have := tok_len h
    rw [List.length_singleton] at this
    simp only
    rw [show 2 * r.length = 2 * r'.length + 2 by omega]
    rfl
theorem array_ok' (W : World) (r : Nat) (S : Rv) (h : RB W r S) (hE : Ev W) (hr : 9 ≤ r) (hn : S.els ≤ 4096) : Calls Tryz.prog 56 #[pt r] W fun e w' => ElQ W r S (arrT S.rest S.els) e w' := by
  rw [← arrF_T]
  exact (read_C _).2 W r S h hE hr hn (Nat.le_refl _)
/-- one more, where its block may be new -/
theorem TR.push2 {B : Nat} {V : World} {p : Option Addr} {c : Nat} {us : List LitT} (h : TR B V p c us) (hi : us.length ≤ 1000000) (hB : B ≤ V.heap.size) :
    ∃ g2 c2 w3, (Builtin.append_ #[22, 22] 22 #[.slice p us.length c, .slice (some ⟨V.heap.size, 0, none⟩) 1 1]).run Tryz.prog (V.alloc (.cells #[.int .i64 0, .string ⟨#[]⟩, .int .i64 0, .slice none 0 0] 49)) = .ok (.slice (some ⟨g2, 0, none⟩) (us.length + 1) c2) w3 ∧ Fr (YtclkoffnjiiioaaGreatDoor.blk p) V w3 ∧ (g2 ∈ YtclkoffnjiiioaaGreatDoor.blk p ∨ V.heap.size ≤ g2) ∧ B ≤ g2 ∧ g2 < w3.heap.size ∧ (∀ j, j < 4 → ∃ v, w3.cell? ⟨g2, us.length * 4 + j, none⟩ = some v) ∧ (∀ j, w3.frozen? ⟨g2, j, none⟩ = false) ∧
      ∀ (W3 : World) (u : LitT), (∀ k, k ≠ g2 → k < w3.heap.size → B ≤ k → W3.heap[k]? = w3.heap[k]?) → W3.heap[g2]? = w3.heap[g2]? → w3.heap.size ≤ W3.heap.size → u.text.size ≤ 140737488355328 → LitsX V (fun g => B ≤ g ∧ g ∉ YtclkoffnjiiioaaGreatDoor.blk p ∧ g ∉ ftL us) u.p u.c u.kids →
        TR B ((((W3.setCell ⟨g2, us.length * 4, none⟩ (.int .i64 u.kind)).setCell ⟨g2, us.length * 4 + 1, none⟩ (.string u.text)).setCell ⟨g2, us.length * 4 + 2, none⟩ (.int .i64 u.num)).setCell ⟨g2, us.length * 4 + 3, none⟩ u.items) (some ⟨g2, 0, none⟩) c2 (us ++ [u]) := by
  obtain ⟨ho, hks, hnd⟩ := h
  obtain ⟨p2, c2, w3, r, o3, m⟩ := pushS (t := 22) (e := 49) Tryz.underlying22 info54 rfl (by decide) V B p c us.length (litCells us) [.int .i64 0, .string ⟨#[]⟩, .int .i64 0, .slice none 0 0] rfl ho (by simp [Value.oneCell']) (by unfold maxLen; omega) (by omega) hB
  obtain ⟨g2, hp2⟩ : ∃ g2, p2 = some ⟨g2, 0, none⟩ := by
    rcases o3.2 with ⟨e, e0⟩ | ⟨g, cap, cur, e, q⟩
    · omega
    · injection e with e1 _ e3
      exact ⟨g, e1⟩
  subst hp2
  have hfr : Fr (YtclkoffnjiiioaaGreatDoor.blk p) V w3 := by
    rcases m with ⟨-, -, e3⟩ | ⟨e1, -⟩
    · exact e3
    · exact e1.mono (by simp)
  have hg2 := own_lt o3 g2 rfl
  have hl : (litCells us).length = us.length * 4 := by
    have := ho.1
    simpa [Nat.mul_comm] using this
  refine ⟨g2, c2, w3, r, hfr, by rcases m with ⟨q, -, -⟩ | ⟨-, q⟩; exact .inl (by rw [← q]; simp [YtclkoffnjiiioaaGreatDoor.blk]); exact .inr (q g2 (by simp [YtclkoffnjiiioaaGreatDoor.blk])), hg2.1, hg2.2, fun j hj => ?_, fun j => ?_, fun W3 u hW hWg hsz hu hk => ?_⟩
  · have hx := o3.1
    have := o3.cellAt (us.length * 4 + j) (by omega)
    rw [this, List.getElem?_append_right (by omega), show us.length * 4 + j - (litCells us).length = j by omega]
    match j, hj with
    | 0, _ => exact ⟨_, rfl⟩
    | 1, _ => exact ⟨_, rfl⟩
    | 2, _ => exact ⟨_, rfl⟩
    | 3, _ => exact ⟨_, rfl⟩
  · obtain ⟨cur, hc⟩ := row_block o3 (g := g2) rfl
    exact frozen_in hc j
  · have oW : W3.ownsRow B 49 4 (.slice (some ⟨g2, 0, none⟩) (us.length + 1) c2) (us.length + 1) (litCells us ++ [.int .i64 0, .string ⟨#[]⟩, .int .i64 0, .slice none 0 0]) := own_congr o3 fun g hg => by
      have : g = g2 := by simpa [Value.ownBlock, eq_comm] using hg
      subst this
      exact hWg
    have s1 := (oW.stored (us.length * 4) (.int .i64 u.kind)).1
    have s2 := (s1.stored (us.length * 4 + 1) (.string u.text)).1
    have s3 := (s2.stored (us.length * 4 + 2) (.int .i64 u.num)).1
    have s4 := (s3.stored (us.length * 4 + 3) u.items).1
    have e : ((((litCells us ++ [Value.int .i64 0, .string ⟨#[]⟩, .int .i64 0, .slice none 0 0]).set (us.length * 4) (.int .i64 u.kind)).set (us.length * 4 + 1) (.string u.text)).set (us.length * 4 + 2) (.int .i64 u.num)).set (us.length * 4 + 3) u.items = litCells (us ++ [u]) := by
      have e1 : litCells (us ++ [u]) = litCells us ++ litc u := by simp [litCells]
      rw [e1, ← hl, List.set_append_right _ _ (by omega), List.set_append_right _ _ (by omega), List.set_append_right _ _ (by omega), List.set_append_right _ _ (by omega)]
      simp [litc]
    rw [e] at s4
    have f4 : Fr [g2] W3 ((((W3.setCell ⟨g2, us.length * 4, none⟩ (.int .i64 u.kind)).setCell ⟨g2, us.length * 4 + 1, none⟩ (.string u.text)).setCell ⟨g2, us.length * 4 + 2, none⟩ (.int .i64 u.num)).setCell ⟨g2, us.length * 4 + 3, none⟩ u.items) :=
      (((Fr.setCell (S := [g2]) W3 ⟨g2, us.length * 4, none⟩ _ (by simp)).trans (Fr.setCell (S := [g2]) _ ⟨g2, us.length * 4 + 1, none⟩ _ (by simp)) (by simp)).trans (Fr.setCell (S := [g2]) _ ⟨g2, us.length * 4 + 2, none⟩ _ (by simp)) (by simp)).trans (Fr.setCell (S := [g2]) _ ⟨g2, us.length * 4 + 3, none⟩ _ (by simp)) (by simp)
    have hnot : ∀ g, g < V.heap.size → g ∉ YtclkoffnjiiioaaGreatDoor.blk p → g ≠ g2 := fun g hg hn e => by
      subst e
      rcases m with ⟨q, -, -⟩ | ⟨-, q⟩
      · exact hn (by rw [← q]; simp [YtclkoffnjiiioaaGreatDoor.blk])
      · have := q g (by simp [YtclkoffnjiiioaaGreatDoor.blk]); omega
    refine ⟨by rw [List.length_append]; exact s4, fun y hy => ?_, nd_snoc hnd hk (fun g hg => hg.2.2)⟩
    have hy2 : y.text.size ≤ 140737488355328 ∧ LitsX V (fun g => B ≤ g ∧ g ∉ YtclkoffnjiiioaaGreatDoor.blk p) y.p y.c y.kids := by
      rcases List.mem_append.1 hy with hy | hy
      · exact hks y hy
      · have : y = u := by simpa using hy
        subst this; exact ⟨hu, hk.keep (Fr.refl [] V) (fun _ _ _ => by simp) (fun g hg _ => ⟨hg.1, hg.2.1⟩)⟩
    refine ⟨hy2.1, ?_⟩
    refine (hy2.2.world (w' := W3) (fun g _ hg hgl => ?_)).keep f4 (fun g hg _ => by have := hg.2; simp [YtclkoffnjiiioaaGreatDoor.blk] at this ⊢; exact this) (fun g hg _ => hg)
    have hne := hnot g hgl hg.2
    have h1 := hfr.block g hgl hg.2
    have h2 := hW g hne (Nat.lt_of_lt_of_le hgl hfr.size) hg.1
    exact ⟨h2.trans h1, ⟨hg.1, by simp [YtclkoffnjiiioaaGreatDoor.blk]; exact hne⟩⟩
end Go.Proofs.YtclkoffnjiiioaaGreatDoor
