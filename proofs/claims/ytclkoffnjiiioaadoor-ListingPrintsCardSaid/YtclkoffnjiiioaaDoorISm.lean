import Derived.Test.YtclkoffnjiiioaaDoorITn
import Derived.Test.YtclkoffnjiiioaaDoorIRp
namespace Go.Proofs.YtclkoffnjiiioaaDoor
open Go.RowKit
set_option linter.unusedVariables false
set_option linter.unusedSimpArgs false
attribute [local go_sem ↓] Go.wp_at_zero Go.wp_at_succ
/-- a list of numbers in memory, however long -/
def Rc (w : World) (p : Option Addr) (ss : List Int) : Prop := 0 < ss.length → ∃ g off, p = some ⟨g, off, none⟩ ∧ ∀ i, i < ss.length → w.cell? ⟨g, off + i, none⟩ = some (.int .i64 (ss.getD i 0))
theorem own_rc {w : World} {B n c : Nat} {p : Option Addr} {ss : List Int} (h : w.ownsRow B 3 1 (.slice p n c) n (ss.map (Value.int .i64))) : Rc w p ss := fun hp => by
  have hl : ss.length = n := by have := h.1; simp at this; omega
  subst hl
  rcases h.2 with ⟨e, e0⟩ | ⟨g, cap, cur, e, q1, q2, q3, q4⟩
  · omega
  · injection e with e1 _ e3
    subst e1 e3
    exact ⟨g, 0, rfl, fun i hi => by rw [Nat.zero_add]; exact own_get h i hi⟩
theorem own_base {w : World} {B B' : Nat} {e : TypeId} {s n : Nat} {v : Value} {xs : List Value} (h : w.ownsRow B e s v n xs) (hb : B' ≤ B) : w.ownsRow B' e s v n xs := ⟨h.1, h.2.imp id (fun ⟨g, cap, cur, e1, q1, q2⟩ => ⟨g, cap, cur, e1, Nat.le_trans hb q1, q2⟩)⟩
set_option maxRecDepth 100000 in
set_option maxHeartbeats 2000000 in
theorem same_is (l : List Int) (n : Nat) (hn : l.length = n) (hs : n ≤ 17592186044000) (pa pb : Option Addr) (ca cb : Nat) (w : World) (ha : Rc w pa l) (hb : Rc w pb l) : Calls Tryd.prog 9 #[.slice pa n ca, .slice pb n cb] w fun e w' => e = .returned (.bool true) ∧ Fr [] w w' := by
  subst hn
  have HA := mkHid ha
  have HB := mkHid hb
  clear ha hb
  go_enter Tryd.func9, Tryd.ntmps9
  go_wp2_with fail
  go_loopw [5] (fun q wr => ∃ i : Nat, i ≤ l.length ∧ q = .int .i64 i ∧ Hid (Fr [] w wr)) (fun q _ => l.length - (intOf q).toNat)
  case atStart => exact ⟨0, Nat.zero_le _, rfl, Fr.refl _ _⟩
  case round =>
    obtain ⟨i, hi, rfl, hf⟩ := hrel
    have i0 : (0 : Int) ≤ (i : Int) := by omega
    by_cases hlt : i < l.length
    · have i1 : (i : Int) < (l.length : Int) := by omega
      obtain ⟨ga, oa, rfl, hca⟩ := HA.out (by omega)
      obtain ⟨gb, ob, rfl, hcb⟩ := HB.out (by omega)
      have x1 := hf.out.cl (hca i hlt)
      have x2 := hf.out.cl (hcb i hlt)
      generalize l.getD i 0 = z at *
      have HD : Hid (∀ n, Fr [] w (wr.drewN n)) := fun n => hf.out.dn n
      clear hca hcb
      go_wp2_with fail
      try go_quiet (fail)
      try go_wp2_with fail
      go_roundw
      case rel => exact ⟨i + 1, by omega, by go_num, by first | exact HD.out _ | exact hf⟩
      case measure => simp [intOf]; omega
    · have hie : i = l.length := by omega
      subst hie
      go_wp2_with fail
      go_ret
      exact ⟨rfl, hf.out⟩
theorem row_set {w : World} {B g n c : Nat} {ls : List Int} (h : w.ownsRow B 3 1 (.slice (some ⟨g, 0, none⟩) n c) n (ls.map (Value.int .i64))) (i : Nat) (z : Int) (hi : i < n) : (w.setCell ⟨g, i, none⟩ (.int .i64 z)).ownsRow B 3 1 (.slice (some ⟨g, 0, none⟩) n c) n ((ls.set i z).map (Value.int .i64)) ∧ Fr [g] w (w.setCell ⟨g, i, none⟩ (.int .i64 z)) ∧ w.cell? ⟨g, i, none⟩ = some (.int .i64 (ls.getD i 0)) ∧ w.frozen? ⟨g, i, none⟩ = false := by
  have f : Fr [g] w (w.setCell ⟨g, i, none⟩ (.int .i64 z)) := Fr.setCell (S := [g]) w ⟨g, i, none⟩ _ (by simp)
  have hl : ls.length = n := by have := h.1; simp at this; omega
  refine ⟨?_, f, own_get h i (by omega), ?_⟩
  · have := (h.stored i (.int .i64 z)).1
    rw [← List.map_set] at this
    exact this
  · obtain ⟨cur, hc⟩ := row_block h (g := g) rfl
    exact frozen_in hc i
theorem smT_st {t : LitT} (h : SmT t) : ∀ u, stT u = stT t → SmT u := by
  induction h with
  | mk t h k ih =>
    intro u hu
    obtain ⟨-, h2, -, h4⟩ := stT_inj hu
    refine .mk u (by rw [h2]; exact h) (fun v hv => ?_)
    rw [stL_map, stL_map] at h4
    have : stT v ∈ t.kids.map stT := by rw [← h4]; exact List.mem_map_of_mem hv
    obtain ⟨t', ht', e⟩ := List.mem_map.1 this
    exact ih t' ht' v e.symm
theorem smL_st {ts us : List LitT} (h : stL us = stL ts) (hs : ∀ t ∈ ts, SmT t) : ∀ u ∈ us, SmT u := fun v hv => by
  rw [stL_map, stL_map] at h
  have : stT v ∈ ts.map stT := by rw [← h]; exact List.mem_map_of_mem hv
  obtain ⟨t', ht', e⟩ := List.mem_map.1 this
  exact smT_st (hs t' ht') v e.symm
theorem nmT_st {t : LitT} (h : NmT t) : ∀ u, stT u = stT t → NmT u := by
  induction h with
  | mk t h k ih =>
    intro u hu
    obtain ⟨-, -, h3, h4⟩ := stT_inj hu
    refine .mk u (by rw [h3]; exact h) (fun v hv => ?_)
    rw [stL_map, stL_map] at h4
    have : stT v ∈ t.kids.map stT := by rw [← h4]; exact List.mem_map_of_mem hv
    obtain ⟨t', ht', e⟩ := List.mem_map.1 this
    exact ih t' ht' v e.symm
theorem nmL_st {ts us : List LitT} (h : stL us = stL ts) (hs : ∀ t ∈ ts, NmT t) : ∀ u ∈ us, NmT u := fun v hv => by
  rw [stL_map, stL_map] at h
  have : stT v ∈ ts.map stT := by rw [← h]; exact List.mem_map_of_mem hv
  obtain ⟨t', ht', e⟩ := List.mem_map.1 this
  exact nmT_st (hs t' ht') v e.symm
theorem Rc.keep {w w' : World} {p : Option Addr} {ss : List Int} (h : Rc w p ss) (hk : ∀ g ∈ blk p, g < w.heap.size → w'.heap[g]? = w.heap[g]?) : Rc w' p ss := fun hp => by
  obtain ⟨g, off, rfl, hc⟩ := h hp
  exact ⟨g, off, rfl, fun i hi => (World.cell?_of_block (w := w) (hk g (by simp [blk]) (World.block_lt_of_cell? w _ (hc i hi)))).trans (hc i hi)⟩
theorem Rd.rc {w : World} {p : Option Addr} {n c : Nat} {ss : List Int} (h : Rd w (.slice p n c) ss) : Rc w p ss := fun hp => by
  obtain ⟨p', c', e, hh⟩ := h.at_
  injection e with e1 _ _
  subst e1
  obtain ⟨g, off, e2, -, hc⟩ := hh hp
  exact ⟨g, off, e2, hc⟩
theorem own_some {w : World} {B : Nat} {e : TypeId} {s n c : Nat} {p : Option Addr} {xs : List Value} (h : w.ownsRow B e s (.slice p n c) n xs) (hn : 0 < n) : ∃ g, p = some ⟨g, 0, none⟩ := by
  rcases h.2 with ⟨e, e0⟩ | ⟨g, cap, cur, e, q1, q2, q3, q4⟩
  · omega
  · injection e with e1 _ e3
    exact ⟨g, e1⟩
theorem num_ok (n : Int) (w : World) : Calls Tryd.prog 8 #[.int .i64 n] w fun e w' => e = .returned (.int .i64 n) ∧ w' = w := by
  go_enter Tryd.func8, Tryd.ntmps8
  go_wp2_with fail
  go_ret
  exact ⟨rfl, rfl⟩
/-- the code that the law hands on, in blocks of its own -/
structure Gp (W : World) (Ok : Nat → Prop) (K : Co) (gm cm : Nat) (pt : Option Addr) (ct : Nat) : Prop where
  row : W.ownsRow 0 3 1 (.slice (some ⟨gm, 0, none⟩) (K.ws.length + 1) cm) (K.ws.length + 1) ((K.ws ++ [-7]).map (Value.int .i64))
  cap : K.ws.length + 1 ≤ cm
  lits : LitsM W Ok pt ct K.ts
  nums : ∀ t ∈ K.ts, NmT t
  rng : ∀ i, -9223372036854775808 ≤ K.ws.getD i 0 ∧ K.ws.getD i 0 ≤ 9223372036854775807
  hd : r64 K.args ∧ r64 K.temps ∧ r64 K.stack
  tb : Tb W
  pw : Pw W
  short : K.ws.length ≤ 17592186043904
theorem Gp.words {W : World} {Ok : Nat → Prop} {K : Co} {gm cm : Nat} {pt : Option Addr} {ct : Nat} (h : Gp W Ok K gm cm pt ct) : Rd W (.slice (some ⟨gm, 0, none⟩) K.ws.length cm) K.ws := by
  refine ⟨⟨_, _, rfl, fun _ => ⟨gm, 0, rfl, (own_lt h.row gm rfl).2, fun i hi => ?_⟩⟩, fun c e => (by injection e with e; cases e), h.short⟩
  rw [Nat.zero_add, own_get h.row i (by rw [List.length_append]; omega), List.getD_eq_getElem?_getD, List.getElem?_append_left hi, ← List.getD_eq_getElem?_getD]
theorem Gp.cor {W : World} {Ok : Nat → Prop} {K : Co} {gm cm : Nat} {pt : Option Addr} {ct : Nat} (h : Gp W Ok K gm cm pt ct) : CoR W K pt ct (some ⟨gm, 0, none⟩) cm :=
  ⟨h.words, by have := h.cap; omega, h.lits.plain, h.nums, h.rng, h.hd, h.tb, h.pw⟩
/-- behind the words stands the mark -/
theorem Gp.mark {W : World} {Ok : Nat → Prop} {K : Co} {gm cm : Nat} {pt : Option Addr} {ct : Nat} (h : Gp W Ok K gm cm pt ct) : W.cell? ⟨gm, K.ws.length, none⟩ = some (.int .i64 (-7)) := by
  rw [own_get h.row K.ws.length (by simp)]
  simp
theorem Gp.idle {W V : World} {Ok : Nat → Prop} {K : Co} {gm cm : Nat} {pt : Option Addr} {ct : Nat} (h : Gp W Ok K gm cm pt ct) (f : Fr [] W V) : Gp V Ok K gm cm pt ct :=
  ⟨own_congr h.row (fun b hb => f.block b (own_lt h.row b hb).2 (by simp)), h.cap, h.lits.keep (f.frp (Ok := fun _ => False) (by simp)) (by simp), h.nums, h.rng, h.hd, h.tb.idle f, h.pw.idle f, h.short⟩
/-- the words under way to their other ends -/
structure XS (w7 wr : World) (n gm cm : Nat) (ws : List Int) : Prop where
  row : wr.ownsRow 0 3 1 (.slice (some ⟨gm, 0, none⟩) (n + 1) cm) (n + 1) ((ws ++ [-7]).map (Value.int .i64))
  len : ws.length = n
  rng : ∀ i, -9223372036854775808 ≤ ws.getD i 0 ∧ ws.getD i 0 ≤ 9223372036854775807
  fr : Fr [gm] w7 wr
theorem XS.get {w7 wr : World} {n gm cm : Nat} {ws : List Int} (x : XS w7 wr n gm cm ws) (i : Nat) (hi : i < n) : wr.cell? ⟨gm, i, none⟩ = some (.int .i64 (ws.getD i 0)) := by
  have := x.len
  rw [own_get x.row i (by rw [List.length_append]; omega), List.getD_eq_getElem?_getD, List.getElem?_append_left (by omega), ← List.getD_eq_getElem?_getD]
theorem XS.step {w7 wr : World} {n gm cm : Nat} {ws : List Int} (x : XS w7 wr n gm cm ws) (i : Nat) (hi : i < n) : wr.frozen? ⟨gm, i, none⟩ = false ∧ ∃ ws', XS w7 ((wr.drew).setCell ⟨gm, i, none⟩ (.int .i64 (Go.bits .xor .i64 (ws.getD i 0) 1))) n gm cm ws' := by
  have hl : i < ws.length := by rw [x.len]; exact hi
  obtain ⟨r1, r2, r3, r4⟩ := row_set (w := wr.drew) (own_congr x.row (fun b hb => rfl)) i (Go.bits .xor .i64 (ws.getD i 0) 1) (by omega)
  refine ⟨r4, ws.set i (Go.bits .xor .i64 (ws.getD i 0) 1), ⟨?_, by rw [List.length_set]; exact x.len, fun j => ?_, (x.fr.trans (Fr.drew [gm] _) (fun b hb => .inl hb)).trans r2 (fun b hb => .inl hb)⟩⟩
  · rw [List.set_append_left _ _ hl] at r1
    exact r1
  · rw [List.getD_eq_getElem?_getD, List.getElem?_set]
    by_cases e : i = j
    · subst e
      rw [if_pos rfl, if_pos hl]
      exact xr_rng _
    · rw [if_neg e, ← List.getD_eq_getElem?_getD]
      exact x.rng j
theorem Gp.xs {W : World} {Ok : Nat → Prop} {K : Co} {gm cm : Nat} {pt : Option Addr} {ct : Nat} (h : Gp W Ok K gm cm pt ct) : XS W W K.ws.length gm cm K.ws := ⟨h.row, rfl, h.rng, Fr.refl _ _⟩
end Go.Proofs.YtclkoffnjiiioaaDoor
