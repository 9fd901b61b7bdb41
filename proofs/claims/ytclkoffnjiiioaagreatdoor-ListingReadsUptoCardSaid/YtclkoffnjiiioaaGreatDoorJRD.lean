import Derived.Test.YtclkoffnjiiioaaGreatDoorJR8
import Derived.Test.YtclkoffnjiiioaaGreatDoorG32IRe2
import Derived.Test.YtclkoffnjiiioaaGreatDoorJRB
import Derived.Test.YtclkoffnjiiioaaGreatDoorJRC
namespace Go.Proofs.YtclkoffnjiiioaaGreatDoor
open Go.RowKit
set_option linter.unusedVariables false
set_option linter.unusedSimpArgs false
attribute [local go_sem ↓] Go.wp_at_zero Go.wp_at_succ
theorem LitsX.ty {w : World} {Ok : Nat → Prop} {p : Option Addr} {c : Nat} {ts : List LitT} (h : LitsX w Ok p c ts) : ∀ g ∈ blk p ++ ftL ts, ∃ cur, w.heap[g]? = some (.cells cur 49 (0, 0)) := by
  induction h with
  | mk p c ts own ok nd short txt kids ih =>
    intro g hg
    rcases List.mem_append.1 hg with hg | hg
    · exact row_block own ((blk_own _ _ _ _).2 hg)
    · obtain ⟨t, ht, hg⟩ := ftL_mem hg
      rw [ftT_at] at hg
      exact ih t ht g hg
theorem TR.ty {B : Nat} {w : World} {p : Option Addr} {c : Nat} {us : List LitT} (h : TR B w p c us) : ∀ g, g ∈ YtclkoffnjiiioaaGreatDoor.blk p ∨ g ∈ ftL us → ∃ cur, w.heap[g]? = some (.cells cur 49 (0, 0)) := fun g hg => by
  rcases hg with hg | hg
  · exact row_block h.1 ((blk_own _ _ _ _).2 hg)
  · obtain ⟨t, ht, hg⟩ := ftL_mem hg
    rw [ftT_at] at hg
    exact (h.2.1 t ht).2.ty g hg
/-- a line, as the document takes it -/
def lnQ (st : Nat) (hd : List Int) (ls : List LitS) (ws : List Int) (n : Nat) (l : Bs) : Option (List Int × List LitS × List Int × Nat) :=
  if st = 0 then (headD l).map (fun ns => (ns, ls, ws, n))
  else if st = 1 ∧ hasL l = true then (litD l ls.length n).map (fun q => (hd, ls ++ [q.1], ws, q.2))
  else (insD l ws.length).map (fun vs => (hd, ls, ws ++ vs, n))
def stN (st : Nat) (l : Bs) : Nat := if st = 0 then 1 else if st = 1 ∧ hasL l = true then 1 else 2
theorem loop_step (f : Nat) (t : Bs) (st : Nat) (hd : List Int) (ls : List LitS) (ws : List Int) (n k : Nat) (ht : t ≠ []) : loopQ (f + 1) t st hd ls ws n k = match cutP t with
    | none => .inr (k + 1)
    | some (l, b) => match lnQ st hd ls ws n l with
      | none => .inr (k + 1)
      | some q => loopQ f b (stN st l) q.1 q.2.1 q.2.2.1 q.2.2.2 (k + 1) := by
  rw [loopQ, if_neg ht]
  cases cutP t with
  | none => rfl
  | some p =>
    obtain ⟨l, b⟩ := p
    simp only
    unfold lnQ stN
    by_cases h0 : st = 0
    · rw [if_pos h0, if_pos h0, if_pos h0]
      cases headD l <;> rfl
    · rw [if_neg h0, if_neg h0, if_neg h0]
      by_cases h1 : st = 1 ∧ hasL l = true
      · rw [if_pos h1, if_pos h1, if_pos h1]
        cases litD l ls.length n <;> rfl
      · rw [if_neg h1, if_neg h1, if_neg h1]
        cases insD l ws.length <;> rfl
/-- a code under way -/
structure CdR (B x : Nat) (w : World) (K : Co) (lp : Option Addr) (lc : Nat) (pw : Option Addr) (cw : Nat) (n : Nat) : Prop where
  tr : TR B w lp lc K.ts
  row : w.ownsRow B 3 1 (.slice pw K.ws.length cw) K.ws.length (K.ws.map (Value.int .i64))
  wk : w.heap[x]? = some (.cells (wkc n 0) 70 (0, 0))
  tl : K.ts.length ≤ 64
  wl : K.ws.length ≤ 4096
  nl : n ≤ 4096
def hdK (K : Co) : List Int := [K.args, K.temps, K.stack]
/-- what a line leaves -/
def LnD (W : World) (B x : Nat) (K : Co) (lp pw : Option Addr) (st n : Nat) (l : Bs) (e : Ending) (w' : World) : Prop :=
  ∃ (K' : Co) (lp' : Option Addr) (lc' : Nat) (pw' : Option Addr) (cw' : Nat) (ok : Bool) (n' : Nat), e = .returned (.tuple #[.agg (K'.v lp' lc' pw' cw'), .int .i64 ((stN st l : Nat) : Int), .bool ok]) ∧ Fr (x :: (blk lp ++ blk pw)) W w' ∧ (ok = true → CdR B x w' K' lp' lc' pw' cw' n') ∧ lnQ st (hdK K) (stL K.ts) K.ws n l = if ok = true then some (hdK K', stL K'.ts, K'.ws, n') else none
theorem line_all (W : World) (hE : Ev W) (h9 : 9 ≤ W.heap.size) (B : Nat) (hB9 : 9 ≤ B) (hB : B ≤ W.heap.size) (x : Nat) (hxB : x < B) (K : Co) (lp : Option Addr) (lc : Nat) (pw : Option Addr) (cw : Nat) (n st : Nat) (hst : st ≤ 2) (l : Bs) (hl : l.length ≤ 1100000) (h : CdR B x W K lp lc pw cw n) : Calls Tryz.prog 25 #[.agg (K.v lp lc pw cw), .pointer (some ⟨x, 0, none⟩), .int .i64 (st : Int), .string (bA l)] W fun e w' => LnD W B x K lp pw st n l e w' := by
  have hpx : ∀ g ∈ blk pw, B ≤ g ∧ g < W.heap.size := fun g hg => own_lt h.row g ((blk_own _ _ _ _).2 hg)
  have hty : ∀ g ∈ blk pw, ∃ cur, W.heap[g]? = some (.cells cur 3 (0, 0)) := fun g hg => row_block h.row ((blk_own _ _ _ _).2 hg)
  have hins : ∀ e w', L2R W B K lp lc pw l e w' → st ≠ 0 → ¬ (st = 1 ∧ hasL l = true) → LnD W B x K lp pw st n l e w' := fun e w' ⟨vs, ok, pw', cw', h1, h2, h3, h4⟩ hs0 hs1 => by
    refine ⟨{ K with ws := K.ws ++ vs }, lp, lc, pw', cw', ok, n, ?_, h2.mono (fun g hg => .inl (by simp [hg])), fun e => ?_, ?_⟩
    · rw [h1]
      unfold stN
      rw [if_neg hs0, if_neg hs1]
      rfl
    · refine ⟨h.tr.away h2 (fun g hg => ?_), h3 e, (h2.block x (lt_of_heap h.wk) (fun hm => by have := (hpx x hm).1; omega)).trans h.wk, h.tl, ?_, h.nl⟩
      · obtain ⟨c1, hc1⟩ := hty g hg
        refine ⟨fun hm => ?_, fun hm => ?_⟩
        · obtain ⟨c2, hc2⟩ := h.tr.ty g (.inl hm)
          exact ty_ne hc1 hc2 (by decide) rfl
        · obtain ⟨c2, hc2⟩ := h.tr.ty g (.inr hm)
          exact ty_ne hc1 hc2 (by decide) rfl
      · subst e
        rw [if_pos rfl, insD_eq] at h4
        obtain ⟨o, ns, e1, -, -, e2, -, e3, -⟩ := ins_some h4
        show (K.ws ++ vs).length ≤ 4096
        rw [e1, List.length_append, List.length_cons, e2]
        omega
    · unfold lnQ
      rw [if_neg hs0, if_neg hs1, h4]
      cases ok <;> rfl
  have hlit : ∀ e w', L1R W B x K lp pw cw n l e w' → st = 1 → hasL l = true → LnD W B x K lp pw st n l e w' := fun e w' ⟨t, ok, n', us, lp', lc', h1, h2, h3, h4⟩ hs hh => by
    refine ⟨{ K with ts := us }, lp', lc', pw, cw, ok, n', ?_, h2.mono (fun g hg => .inl (by rcases List.mem_cons.1 hg with q | q; simp [q]; simp [q])), fun e => ?_, ?_⟩
    · rw [h1]
      unfold stN
      rw [if_neg (by omega), if_pos ⟨hs, hh⟩]
      rfl
    · subst e
      obtain ⟨q1, q2, q3⟩ := h3 rfl
      rw [if_pos rfl, litD_eq l _ _ h.nl] at h4
      obtain ⟨-, -, -, -, e5, e6⟩ := lit_some h4 h.nl
      have := h.tl
      refine ⟨q2, own_congr h.row (fun g hg => h2.block g (own_lt h.row g hg).2 (fun hm => ?_)), q3, ?_, h.wl, e5⟩
      · have hg' := (blk_own _ _ _ _).1 hg
        obtain ⟨c1, hc1⟩ := hty g hg'
        rcases List.mem_cons.1 hm with e | hm
        · have := (hpx g hg').1; omega
        · obtain ⟨c2, hc2⟩ := h.tr.ty g (.inl hm)
          exact ty_ne hc1 hc2 (by decide) rfl
      · show us.length ≤ 64
        rw [q1, List.length_append, List.length_singleton]
        omega
    · unfold lnQ
      rw [if_neg (by omega), if_pos ⟨hs, hh⟩, stL_len, h4]
      cases ok with
      | false => rfl
      | true =>
        obtain ⟨q1, -, -⟩ := h3 rfl
        simp only [if_true, Option.map_some]
        rw [q1, stL_app, stL_cons, stL_nil]
        rfl
  rcases (show st = 0 ∨ st = 1 ∨ st = 2 by omega) with rfl | rfl | rfl
  · refine (line0_ok W hE h9 K lp lc pw cw x l hl).mono ?_
    rintro e w' ⟨h1, v1, v2, v3, ok, h2, h3⟩
    refine ⟨{ K with args := v1, temps := v2, stack := v3 }, lp, lc, pw, cw, ok, n, h2, h1.mono (by simp), fun _ => ⟨h.tr.keep h1 (by simp), own_congr h.row (fun g hg => h1.block g (own_lt h.row g hg).2 (by simp)), h1.hb h.wk, h.tl, h.wl, h.nl⟩, ?_⟩
    unfold lnQ
    rw [if_pos rfl, h3]
    cases ok <;> rfl
  · cases ht : tokP [116, 101, 120, 116, 32] l with
    | some y =>
      refine (line1t_ok W hE h9 B hB K lp lc pw cw x n l hl h.tr h.tl h.wk hxB h.nl y ht).mono ?_
      intro e w' hh
      exact hlit e w' hh rfl (by unfold hasL; rw [ht]; rfl)
    | none =>
      cases ht2 : tokP [97, 114, 114, 97, 121, 32] l with
      | some y =>
        refine (line1a_ok W hE h9 B hB K lp lc pw cw x n l hl h.tr h.tl h.wk hxB h.nl y ht ht2).mono ?_
        intro e w' hh
        exact hlit e w' hh rfl (by unfold hasL; rw [ht, ht2]; rfl)
      | none =>
        refine (line21_ok W hE h9 B hB9 hB K lp lc pw cw x l hl h.row h.wl ht ht2).mono ?_
        intro e w' hh
        exact hins e w' hh (by decide) (fun q => by have := q.2; unfold hasL at this; rw [ht, ht2] at this; cases this)
  · refine (line22_ok W hE h9 B hB9 hB K lp lc pw cw x l hl h.row h.wl).mono ?_
    intro e w' hh
    exact hins e w' hh (by decide) (fun q => absurd q.1 (by decide))
end Go.Proofs.YtclkoffnjiiioaaGreatDoor
