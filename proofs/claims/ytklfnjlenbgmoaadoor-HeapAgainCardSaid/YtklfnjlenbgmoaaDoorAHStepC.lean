import Derived.Test.YtklfnjlenbgmoaaDoorAG27HStepK
import Derived.BigQuiet
namespace Go.Proofs.YtklfnjlenbgmoaaDoor
open Go.RowKit
set_option linter.unusedVariables false
attribute [local go_sem ↓] Go.wp_at_zero Go.wp_at_succ
set_option maxRecDepth 20000 in
set_option maxHeartbeats 4000000 in
theorem step_put_no (O A B C X : Int) (ls : Value) (D : List Nat) (w0 : World) (a m : Nat) (W : World) (l : Lay) (H : HS) (M : MS) (hS : Side D w0 a m W l H M) (hi : Inv H M) (hA : mhas M A = false) :
    Calls Tryd.prog 25 #[.pointer (some ⟨m, 0, none⟩), .pointer (some ⟨a, 0, none⟩), stepV 7 O A B C X ls] W fun e w' => e = .returned (.bool true) ∧ Went D w0 a m H M w' := by
  have hA1 := hS.box (stepO 7 O A B C X ls)
  have HF := mkHid (Put_no A B X a l H _ hA1.side.rep (by rw [hi.hasM]; exact hA))
  have HA := mkHid hA1
  have HI := mkHid hi
  obtain ⟨W1, hW1⟩ : ∃ W1, W1 = W.alloc (stepO 7 O A B C X ls) := ⟨_, rfl⟩
  rw [← hW1] at HF HA
  unfold stepV
  unfold stepO at hW1
  clear hS hi hA1
  go_enter Tryd.func25, Tryd.ntmps25
  go_wp2_with fail
  rw [← hW1]
  refine Calls.mono HF.out ?_
  rintro e w2 ⟨rfl, hf2⟩
  have hA2 := HA.out.idle hf2
  obtain ⟨q2, q3, q5, -⟩ := stepO_cells hA2.box
  have HHas := fun n => has_ok A m M (w2.drewN n) (hA2.side.drewN n).mrep HI.out.model.len
  rw [hA] at HHas
  have HH := mkHid HHas
  have HE : Hid (∀ n, Went D w0 a m H M (w2.drewN n)) := fun n => ⟨l, H, M, hA2.side.drewN n, HI.out, by omega, Lk.refl _⟩
  clear hf2 hA2 HHas
  go_wp2_with fail
  go_quiet ((go_at_call 65; exact Calls.quiet_of_same (HH.out _)))
  go_wp2_with (go_at_call 11; refine (num_any _ _ (by omega) (by omega)).mono ?_; rintro e w1 ⟨rfl, rfl⟩)
  go_ret
  exact ⟨rfl, HE.out _⟩
set_option maxRecDepth 20000 in
set_option maxHeartbeats 4000000 in
theorem step_put_slot (O B C X : Int) (k : Nat) (ls : Value) (D : List Nat) (w0 : World) (a m : Nat) (W : World) (l : Lay) (H : HS) (M : MS) (hS : Side D w0 a m W l H M) (hi : Inv H M) (hk : k < M.things.length) (hb : (M.things.getD k noTh).there = true) (hB : B < 0 ∨ ((M.things.getD k noTh).slots.length : Int) ≤ B) :
    Calls Tryd.prog 25 #[.pointer (some ⟨m, 0, none⟩), .pointer (some ⟨a, 0, none⟩), stepV 7 O ((k : Int) + 1) B C X ls] W fun e w' => e = .returned (.bool true) ∧ Went D w0 a m H M w' := by
  have hA1 := hS.box (stepO 7 O ((k : Int) + 1) B C X ls)
  have hlen := hi.model.len
  have hI := hi.is k hk hb
  have h22 := lenN_two (M.things.getD k noTh).slots.length (M.things.getD k noTh).fmt
  have hroom := hI.room
  have hfm := hI.fmt
  have HF := mkHid (Put_slot (k + 1) (M.things.getD k noTh).slots.length (M.things.getD k noTh).fmt B X a l H _ hA1.side.rep hI.has (by have := hi.safe.small.mem; have := hi.safe.small.words; omega) (by omega) hI.shape (by omega) hB)
  rw [show ((k + 1 : Nat) : Int) = (k : Int) + 1 from by omega] at HF
  have HA := mkHid hA1
  have HI := mkHid hi
  obtain ⟨W1, hW1⟩ : ∃ W1, W1 = W.alloc (stepO 7 O ((k : Int) + 1) B C X ls) := ⟨_, rfl⟩
  rw [← hW1] at HF HA
  unfold stepV
  unfold stepO at hW1
  clear hS hi hA1 hI hroom h22 hfm
  go_enter Tryd.func25, Tryd.ntmps25
  go_wp2_with fail
  rw [← hW1]
  refine Calls.mono HF.out ?_
  rintro e w2 ⟨rfl, hf2⟩
  have hA2 := HA.out.idle hf2
  obtain ⟨q2, q3, q5, -⟩ := stepO_cells hA2.box
  have HHas := fun n => has_ok ((k : Int) + 1) m M (w2.drewN n) (hA2.side.drewN n).mrep HI.out.model.len
  rw [mhas_of k hk hb] at HHas
  have HH := mkHid HHas
  have hmr := hA2.side.mrep
  obtain ⟨g, hg, hc, hf, hgl⟩ := hmr.thAt (by omega)
  obtain ⟨-, -, y2, -, y4⟩ := hc k hk
  simp only [I] at y2
  have c3 := hmr.c3
  have k1 : (0 : Int) ≤ (k : Int) := by omega
  have k2 : (k : Int) < (M.things.length : Int) := by omega
  have wk : IntKind.i64.wrap ((k : Int) + 1 - 1) = (k : Int) := by rw [iwrap]; unfold wrap64; omega
  rw [hg] at c3
  have HE : Hid (∀ n, Went D w0 a m H M (w2.drewN n)) := fun n => ⟨l, H, M, hA2.side.drewN n, HI.out, by omega, Lk.refl _⟩
  clear hf2 hA2 HHas hmr hc hf hg HF
  generalize M.things.getD k noTh = t at *
  obtain ⟨th, tcl, fm, pl, sl, tp, tc⟩ := t
  dsimp only at *
  generalize sl.length = sn at *
  rcases hB with hB | hB
  · have d1 : decide (0 ≤ B) = false := decide_eq_false (by omega)
    go_wp2_with fail
    go_quiet ((go_at_call 65; exact Calls.quiet_of_same (HH.out _)))
    go_wp2_with (go_at_call 11; refine (num_any _ _ (by omega) (by omega)).mono ?_; rintro e w1 ⟨rfl, rfl⟩)
    go_ret
    exact ⟨rfl, HE.out _⟩
  · have d0 : 0 ≤ B := by omega
    have d1 : decide (B < (sn : Int)) = false := decide_eq_false (by omega)
    go_wp2_with fail
    go_quiet ((go_at_call 65; exact Calls.quiet_of_same (HH.out _)))
    go_wp2_with (go_at_call 11; refine (num_any _ _ (by omega) (by omega)).mono ?_; rintro e w1 ⟨rfl, rfl⟩)
    go_ret
    exact ⟨rfl, HE.out _⟩
set_option maxRecDepth 20000 in
set_option maxHeartbeats 4000000 in
theorem step_put_word (O C X : Int) (k i : Nat) (ls : Value) (D : List Nat) (w0 : World) (a m : Nat) (W : World) (l : Lay) (H : HS) (M : MS) (hS : Side D w0 a m W l H M) (hi : Inv H M) (hk : k < M.things.length) (hb : (M.things.getD k noTh).there = true) (hil : i < (M.things.getD k noTh).slots.length) (hX : mayB X ((M.things.getD k noTh).fmt : Int) = false) (hT : Tab w0) (h2 : 2 ≤ w0.heap.size) (hD : ∀ b ∈ D, 2 ≤ b) :
    Calls Tryd.prog 25 #[.pointer (some ⟨m, 0, none⟩), .pointer (some ⟨a, 0, none⟩), stepV 7 O ((k : Int) + 1) i C X ls] W fun e w' => e = .returned (.bool true) ∧ Went D w0 a m H M w' := by
  have hA1 := hS.box (stepO 7 O ((k : Int) + 1) i C X ls)
  have hlen := hi.model.len
  have hI := hi.is k hk hb
  have h22 := lenN_two (M.things.getD k noTh).slots.length (M.things.getD k noTh).fmt
  have hroom := hI.room
  have hfm := hI.fmt
  have HF := mkHid (Put_word (k + 1) i (M.things.getD k noTh).slots.length (M.things.getD k noTh).fmt X a l H _ hA1.side.rep hI.has (by have := hi.safe.small.mem; have := hi.safe.small.words; omega) (by omega) hI.shape (by omega) (by omega) hX (tab_of hT h2 hD hA1.side.fr))
  rw [show ((k + 1 : Nat) : Int) = (k : Int) + 1 from by omega] at HF
  have hFit := fits_any X (M.things.getD k noTh).fmt
  rw [fits_may _ _ hfm, hX] at hFit
  have HFit := mkHid hFit
  have HA := mkHid hA1
  have HI := mkHid hi
  obtain ⟨W1, hW1⟩ : ∃ W1, W1 = W.alloc (stepO 7 O ((k : Int) + 1) i C X ls) := ⟨_, rfl⟩
  rw [← hW1] at HF HA
  unfold stepV
  unfold stepO at hW1
  clear hS hi hA1 hI hroom h22 hfm hX hFit
  go_enter Tryd.func25, Tryd.ntmps25
  go_wp2_with fail
  rw [← hW1]
  refine Calls.mono HF.out ?_
  rintro e w2 ⟨rfl, hf2⟩
  have hA2 := HA.out.idle hf2
  obtain ⟨q2, q3, q5, -⟩ := stepO_cells hA2.box
  have HHas := fun n => has_ok ((k : Int) + 1) m M (w2.drewN n) (hA2.side.drewN n).mrep HI.out.model.len
  rw [mhas_of k hk hb] at HHas
  have HH := mkHid HHas
  have hmr := hA2.side.mrep
  obtain ⟨g, hg, hc, hf, hgl⟩ := hmr.thAt (by omega)
  obtain ⟨-, -, y2, -, y4⟩ := hc k hk
  simp only [I] at y2
  have c3 := hmr.c3
  have k1 : (0 : Int) ≤ (k : Int) := by omega
  have k2 : (k : Int) < (M.things.length : Int) := by omega
  have wk : IntKind.i64.wrap ((k : Int) + 1 - 1) = (k : Int) := by rw [iwrap]; unfold wrap64; omega
  rw [hg] at c3
  have HE : Hid (∀ n, Went D w0 a m H M (w2.drewN n)) := fun n => ⟨l, H, M, hA2.side.drewN n, HI.out, by omega, Lk.refl _⟩
  clear hf2 hA2 HHas hmr hc hf hg HF
  generalize M.things.getD k noTh = t at *
  obtain ⟨th, tcl, fm, pl, sl, tp, tc⟩ := t
  dsimp only at *
  generalize sl.length = sn at *
  have d0 : (0 : Int) ≤ (i : Int) := by omega
  have d1 : (i : Int) < (sn : Int) := by omega
  go_wp2_with fail
  go_quiet (first | (go_at_call 65; exact Calls.quiet_of_same (HH.out _)) | (go_at_call 66; exact Calls.quiet_of (HFit.out _)))
  go_wp2_with (go_at_call 11; refine (num_any _ _ (by omega) (by omega)).mono ?_; rintro e w1 ⟨rfl, rfl⟩)
  go_ret
  exact ⟨rfl, HE.out _⟩
set_option maxRecDepth 20000 in
set_option maxHeartbeats 4000000 in
theorem step_put_in (O C X : Int) (k i : Nat) (ls : Value) (D : List Nat) (w0 : World) (a m : Nat) (W : World) (l : Lay) (H : HS) (M : MS) (hS : Side D w0 a m W l H M) (hi : Inv H M) (hk : k < M.things.length) (hb : (M.things.getD k noTh).there = true) (hil : i < (M.things.getD k noTh).slots.length) (hX : mayB X ((M.things.getD k noTh).fmt : Int) = true) (hT : Tab w0) (h2 : 2 ≤ w0.heap.size) (hD : ∀ b ∈ D, 2 ≤ b) :
    Calls Tryd.prog 25 #[.pointer (some ⟨m, 0, none⟩), .pointer (some ⟨a, 0, none⟩), stepV 7 O ((k : Int) + 1) i C X ls] W fun e w' => e = .returned (.bool true) ∧ Went D w0 a m H { M with things := M.things.set k (withSlot (M.things.getD k noTh) i X) } w' := by
  generalize hN : ({ M with things := M.things.set k (withSlot (M.things.getD k noTh) i X) } : MS) = N
  have hA1 := hS.box (stepO 7 O ((k : Int) + 1) i C X ls)
  have hlen := hi.model.len
  have hI := hi.is k hk hb
  have hfm := hI.fmt
  obtain ⟨H', hinv, hage, hput⟩ := Put_inv k i X a l H M _ hA1.side.rep hi hk hb hil hX (tab_of hT h2 hD hA1.side.fr)
  have HF := mkHid hput
  have HV := mkHid hinv
  have HAg := mkHid hage
  have hFit := fits_any X (M.things.getD k noTh).fmt
  rw [fits_may _ _ hfm, hX] at hFit
  have HFit := mkHid hFit
  have HA := mkHid hA1
  have HI := mkHid hi
  obtain ⟨W1, hW1⟩ : ∃ W1, W1 = W.alloc (stepO 7 O ((k : Int) + 1) i C X ls) := ⟨_, rfl⟩
  rw [← hW1] at HF HA
  unfold stepV
  unfold stepO at hW1
  clear hS hi hA1 hI hfm hX hFit hput hinv hage
  go_enter Tryd.func25, Tryd.ntmps25
  go_wp2_with fail
  rw [← hW1]
  refine Calls.mono HF.out ?_
  rintro e w2 ⟨rfl, hr2, hx2⟩
  have hA2 := HA.out.heap hr2 hx2
  obtain ⟨q2, q3, q5, -⟩ := stepO_cells hA2.box
  have HHas := fun n => has_ok ((k : Int) + 1) m M (w2.drewN n) (hA2.side.drewN n).mrep HI.out.model.len
  rw [mhas_of k hk hb] at HHas
  have HH := mkHid HHas
  have hmr := hA2.side.mrep
  obtain ⟨g, hg, hc, hf, hgl⟩ := hmr.thAt (by omega)
  obtain ⟨-, -, y2, -, y4⟩ := hc k hk
  simp only [I] at y2
  have c3 := hmr.c3
  have k1 : (0 : Int) ≤ (k : Int) := by omega
  have k2 : (k : Int) < (M.things.length : Int) := by omega
  have wk : IntKind.i64.wrap ((k : Int) + 1 - 1) = (k : Int) := by rw [iwrap]; unfold wrap64; omega
  rw [hg] at c3
  have hsl := hmr.slots _ (getD_mem M.things k hk)
  obtain ⟨gs, cs, hgs, -, hgsl⟩ := hsl.form (by omega)
  injection hgs with hgs _ hcs
  have hfz : w2.frozen? ⟨gs, i, none⟩ = false := by
    obtain ⟨cur, hcur⟩ := own_blk hsl gs (by rw [hgs]; simp [blk])
    exact frozen_in hcur i
  have hcell : w2.cell? ⟨gs, i, none⟩ = some (.int .i64 ((M.things.getD k noTh).slots.getD i 0)) := by
    rw [hgs] at hsl
    rw [hsl.cellAt i (by omega)]
    exact slot_val _ i hil
  have HE : Hid (∀ V, Eqw (w2.setCell ⟨gs, i, none⟩ (.int .i64 X)) V → Went D w0 a m H N V) := by
    intro V hV
    have hset := hmr.slot k i X hk hgs hil
    refine ⟨l, _, { M with things := M.things.set k (withSlot (M.things.getD k noTh) i X) }, (hA2.side.model hset (Fr.setCell _ _ _ (blk_mfoot k hk gs (by rw [hgs]; simp [blk]))) (fun g hg => .inl (mfoot_set k (withSlot (M.things.getD k noTh) i X) (fun b hb => blk_mfoot k hk b hb) g hg))).eqw hV, HV.out, by rw [HAg.out]; exact Nat.le_succ _, by rw [← hN]; exact Lk.refl _⟩
  have hgsQ : gs ≠ W.heap.size := fun e => hA2.nm (by rw [← e]; exact blk_mfoot k hk gs (by rw [hgs]; simp [blk]))
  clear hr2 hx2 hA2 HHas hmr hc hf hg HF HV HAg hsl
  generalize M.things.getD k noTh = t at *
  obtain ⟨th, tcl, fm, pl, sl, tp, tc⟩ := t
  dsimp only at *
  subst hgs
  generalize sl.getD i 0 = oldv at *
  generalize sl.length = sn at *
  have d0 : (0 : Int) ≤ (i : Int) := by omega
  have d1 : (i : Int) < (sn : Int) := by omega
  go_wp2_with fail
  go_quiet (first | (go_at_call 65; exact Calls.quiet_of_same (HH.out _)) | (go_at_call 66; exact Calls.quiet_of (HFit.out _)))
  go_wp2_with fail
  go_region
  all_goals go_wp2_with (go_at_call 11; refine (num_any _ _ (by omega) (by omega)).mono ?_; rintro e w1 ⟨rfl, rfl⟩)
  all_goals
    go_ret
    exact ⟨rfl, HE.out _ ⟨rfl, rfl, rfl, rfl⟩⟩
end Go.Proofs.YtklfnjlenbgmoaaDoor
