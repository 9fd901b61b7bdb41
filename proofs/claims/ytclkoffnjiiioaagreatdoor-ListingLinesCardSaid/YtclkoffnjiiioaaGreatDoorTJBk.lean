import Derived.Test.YtclkoffnjiiioaaGreatDoorTG33JWk2
namespace Go.Proofs.YtclkoffnjiiioaaGreatDoor
open Go.RowKit
set_option linter.unusedVariables false
set_option linter.unusedSimpArgs false
attribute [local go_sem ↓] Go.wp_at_zero Go.wp_at_succ
theorem own_shape {w : World} {base : Nat} {e : TypeId} {size : Nat} {v : Value} {n : Nat} {xs : List Value} (h : w.ownsRow base e size v n xs) : ∃ p c, v = .slice p n c := by
  rcases h.2 with ⟨e, e0⟩ | ⟨g, cap, cur, e, -⟩
  · exact ⟨none, 0, by rw [e, e0]⟩
  · exact ⟨_, _, e⟩
theorem words_copy (ls : List Int) (u : Value) (w : World) (h : Rd w u ls) : ∃ p c w', (Builtin.append_ #[23, 23] 23 #[.slice none 0 0, u]).run Tryz.prog w = .ok (.slice p ls.length c) w' ∧ w'.ownsRow w.heap.size 3 1 (.slice p ls.length c) ls.length (ls.map (Value.int .i64)) ∧ Fr [] w w' ∧ ls.length ≤ c := by
  obtain ⟨v1, w1, r1, o1, f1⟩ := run_copy ls u w h
  obtain ⟨p, c, rfl⟩ := own_shape o1
  refine ⟨p, c, w1, r1, o1, f1, ?_⟩
  rcases o1.2 with ⟨e0, e1⟩ | ⟨g, cap, cur, e0, q1, q2, q3, q4⟩
  · omega
  · injection e0 with _ _ e2
    omega
theorem own_rd2 {w : World} {B n c : Nat} {p : Option Addr} {ls : List Int} (h : w.ownsRow B 3 1 (.slice p n c) n (ls.map (Value.int .i64))) (hs : ls.length ≤ 17592186043904) : Rd w (.slice p ls.length c) ls := by
  have hl : ls.length = n := by have := h.1; simp at this; omega
  subst hl
  refine ⟨⟨p, c, rfl, fun hp => ?_⟩, fun k hk => ?_, hs⟩
  · rcases h.2 with ⟨e, e0⟩ | ⟨g, cap, cur, e, q1, q2, q3⟩
    · omega
    · injection e with e1 _ e3
      subst e1 e3
      exact ⟨g, 0, rfl, lt_of_heap q2, fun i hi => by rw [Nat.zero_add]; exact own_get h i hi⟩
  · injection hk with e1 _ e3
    subst e1 e3
    rcases h.2 with ⟨e, e0⟩ | ⟨g, cap, cur, e, -⟩
    · injection e
    · cases e
/-- what is refused is no text -/
theorem prP_err (K : Co) (h : (prP K).1 ≠ 0) : (prP K).2 = [] := by
  unfold prP at h ⊢
  split
  · rfl
  · next h1 =>
    rw [if_neg h1] at h
    split
    · rfl
    · next h2 =>
      rw [if_neg h2] at h
      split
      · rfl
      · next o ho =>
        rw [ho] at h
        exact absurd rfl h
/-- a code of which a text is told is written as that text -/
theorem pr_back {t : Bs} {c : CoS} {K : Co} (hp : parP t = .inl c) (hhd : [K.args, K.temps, K.stack] = c.hd) (hls : stL K.ts = c.ls) (hws : K.ws = c.ws) : prP K = (0, t) := by
  obtain ⟨a, b, d, e, -, -, -, hpr, -, -⟩ := pr_par t c hp
  rw [e] at hhd
  simp only [List.cons.injEq, and_true] at hhd
  obtain ⟨rfl, rfl, rfl⟩ := hhd
  have := prP_st K (unL c.ls) (by rw [st_unL, hls])
  rw [← this, hws]
  exact hpr
/-- a code that is written is read as it was -/
theorem par_back {K : Co} {T : Bs} (h : prP K = (0, T)) (hn : ∀ t ∈ K.ts, NmT t) (hr : ∀ i, -9223372036854775808 ≤ K.ws.getD i 0 ∧ K.ws.getD i 0 ≤ 9223372036854775807) (hd : r64 K.args ∧ r64 K.temps ∧ r64 K.stack) : parP T = .inl ⟨[K.args, K.temps, K.stack], stL K.ts, K.ws⟩ := by
  have := par_pr K T h hn hr hd [] (fun b hb => by cases hb) nn_nil
  rwa [List.append_nil, if_pos rfl] at this
theorem prP_len (K : Co) (T : Bs) (h : prP K = (0, T)) (hn : ∀ t ∈ K.ts, NmT t) (hr : ∀ i, -9223372036854775808 ≤ K.ws.getD i 0 ∧ K.ws.getD i 0 ≤ 9223372036854775807) (hd : r64 K.args ∧ r64 K.temps ∧ r64 K.stack) : T.length ≤ 1000000000 := by
  unfold prP at h
  split at h
  · cases h
  · next h1 =>
    split at h
    · next h2 => injection h with h3 h4; exact absurd h3 h2
    · next h2 =>
      split at h
      · cases h
      · next o ho =>
        injection h with _ h
        subst h
        have e1 := headW_len K.args K.temps K.stack hd.1 hd.2.1 hd.2.2
        have e2 := lits_len K.ts (fun t ht => each_len K.ts hn (by simpa using h2) t ht)
        have e3 := lnW_len K.ws hr (by omega) _ _ _ (by omega) ho
        rw [List.length_append, List.length_append]
        omega
theorem par_pos (t : Bs) (n : Nat) (h : parP t = .inr n) : 1 ≤ n := by
  unfold parP at h
  split at h
  · injection h with h; omega
  · split at h
    · injection h with h; omega
    · simp only at h
      split at h
      · cases h
      · injection h with h; omega
/-- what stands of a law's own code -/
structure Lw (W1 V : World) (g : Nat) (C : Array Value) : Prop where
  fr : Fr [] W1 V
  blk : V.heap[g]? = some (.cells C 25 (0, 0))
theorem Lw.on {W1 V U : World} {g : Nat} {C : Array Value} (h : Lw W1 V g C) (f : Fr [] V U) : Lw W1 U g C := ⟨h.fr.tr0 f, f.hb h.blk⟩
set_option maxRecDepth 100000 in
set_option maxHeartbeats 16000000 in
theorem back_any (K : Co) (lp : Option Addr) (lc : Nat) (pw : Option Addr) (cw : Nat) (W : World) (hc : CoR W K lp lc pw cw) (hE : Ev W) (h9 : 9 ≤ W.heap.size) (t : Bs) (ht : t.length ≤ 281474976710656) :
    Calls Tryz.prog 4 #[.agg (K.v lp lc pw cw), .string (bA t)] W fun e w' => e = .returned (.bool true) ∧ Fr [] W w' := by
  have hsh := hc.words.short
  have HBey : Hid (∀ V, Fr [] W V → Calls Tryz.prog 6 #[.slice lp K.ts.length lc] V fun e w' => AnyS V K.ts e w') := fun V hV => beyond_is V lp lc K.ts (hc.lits.idle hV)
  have HTwin : Hid (∀ V, Fr [] W V → Calls Tryz.prog 11 #[.slice lp K.ts.length lc] V fun e w' => TeP V K.ts e w') := fun V hV => twin_is W lp lc K.ts hc.lits V hV
  have HWk : Hid (∀ V, Fr [] W V → Calls Tryz.prog 9 #[] V fun e w' => e = .returned (.bool true) ∧ Fr [] V w') := fun V hV => works_ok V (hE.fr0 hV) (Nat.le_trans h9 hV.size)
  have HPa : Hid (∀ V, Fr [] W V → ∀ x : Bs, x.length ≤ 281474976710656 → Calls Tryz.prog 10 #[.string (bA x)] V fun e w' => PaR V (parP x) e w') := fun V hV x hx => parse_ok V (hE.fr0 hV) (Nat.le_trans h9 hV.size) x hx
  obtain ⟨W1, hW1⟩ : ∃ V, W.alloc (.cells #[.int .i64 K.args, .int .i64 K.temps, .int .i64 K.stack, .slice lp K.ts.length lc, .slice pw K.ws.length cw] 25) = V := ⟨_, rfl⟩
  have f1 : Fr [] W W1 := by rw [← hW1]; exact Fr.alloc [] W _
  have b1 : W1.heap[W.heap.size]? = some (.cells #[.int .i64 K.args, .int .i64 K.temps, .int .i64 K.stack, .slice lp K.ts.length lc, .slice pw K.ws.length cw] 25 (0, 0)) := by rw [← hW1]; exact heap_alloc_new W _
  have HL1 : Hid (Lw W W1 W.heap.size #[.int .i64 K.args, .int .i64 K.temps, .int .i64 K.stack, .slice lp K.ts.length lc, .slice pw K.ws.length cw]) := ⟨f1, b1⟩
  have HW1 := mkHid hW1
  have HC := mkHid hc
  have HE := mkHid hE
  have HNum := mkHid num_ok
  clear hc hE f1 b1 hW1
  unfold Co.v
  go_enter Tryz.func4, Tryz.ntmps4
  go_wp2_with fail
  rw [HW1.out]
  refine (HBey.out W1 HL1.out.fr).mono ?_
  rintro e w2 ⟨bb, rfl, f2, hsm⟩
  have HL2 := mkHid (HL1.out.on f2)
  clear f2 HBey HW1
  cases bb
  case true =>
    go_wp2_with fail
    go_ret
    exact ⟨rfl, HL2.out.fr⟩
  case false =>
  clear hsm
  have x0 : w2.cell? ⟨W.heap.size, 0, none⟩ = some (.int .i64 K.args) := cell_in HL2.out.blk 0
  have x1 : w2.cell? ⟨W.heap.size, 1, none⟩ = some (.int .i64 K.temps) := cell_in HL2.out.blk 1
  have x2 : w2.cell? ⟨W.heap.size, 2, none⟩ = some (.int .i64 K.stack) := cell_in HL2.out.blk 2
  have x3 : w2.cell? ⟨W.heap.size, 3, none⟩ = some (.slice lp K.ts.length lc) := cell_in HL2.out.blk 3
  have x4 : w2.cell? ⟨W.heap.size, 4, none⟩ = some (.slice pw K.ws.length cw) := cell_in HL2.out.blk 4
  have y4 : ∀ o, (w2.alloc o).cell? ⟨W.heap.size, 4, none⟩ = some (.slice pw K.ws.length cw) := fun o => (Fr.alloc [] w2 o).cl x4
  obtain ⟨W3, hW3⟩ : ∃ V, w2.alloc (.cells #[.int .i64 K.args, .int .i64 K.temps, .int .i64 K.stack, .slice lp K.ts.length lc, .slice pw K.ws.length cw] 25) = V := ⟨_, rfl⟩
  have f3 : Fr [] w2 W3 := by rw [← hW3]; exact Fr.alloc [] w2 _
  have b3 : W3.heap[w2.heap.size]? = some (.cells #[.int .i64 K.args, .int .i64 K.temps, .int .i64 K.stack, .slice lp K.ts.length lc, .slice pw K.ws.length cw] 25 (0, 0)) := by rw [← hW3]; exact heap_alloc_new w2 _
  obtain ⟨p4, c4, w4, hr4, hrow4, f4, hc4⟩ := words_copy K.ws (.slice pw K.ws.length cw) W3 (HC.out.words.idle (HL2.out.fr.tr0 f3))
  have b4 := f4.hb b3
  have L4 := (HL2.out.on f3).on f4
  have hgi : W.heap.size < w2.heap.size := lt_of_heap HL2.out.blk
  -- behind the words are stored
  obtain ⟨w5, hw5⟩ : ∃ V, w4.setCell ⟨w2.heap.size, 4, none⟩ (.slice p4 K.ws.length c4) = V := ⟨_, rfl⟩
  have f5 : Fr [w2.heap.size] w4 w5 := by rw [← hw5]; exact Fr.setCell (S := [w2.heap.size]) w4 ⟨w2.heap.size, 4, none⟩ _ (by simp)
  have b5 : w5.heap[w2.heap.size]? = some (.cells #[.int .i64 K.args, .int .i64 K.temps, .int .i64 K.stack, .slice lp K.ts.length lc, .slice p4 K.ws.length c4] 25 (0, 0)) := by rw [← hw5]; exact set_in b4 4 _
  have L5 : Lw W w5 W.heap.size #[.int .i64 K.args, .int .i64 K.temps, .int .i64 K.stack, .slice lp K.ts.length lc, .slice pw K.ws.length cw] := ⟨L4.fr.trans f5 (fun g hg => .inr (by simp at hg; omega)), (f5.block _ (lt_of_heap L4.blk) (by simp; omega)).trans L4.blk⟩
  have hrow5 := own_congr (w' := w5) hrow4 fun g hg => f5.block g (own_lt hrow4 g hg).2 (by have := (own_lt hrow4 g hg).1; have := lt_of_heap b3; simp; omega)
  have k4 : w4.cell? ⟨w2.heap.size, 4, none⟩ = some (.slice pw K.ws.length cw) := cell_in b4 4
  have z4 := frozen_in b4 4
  have k3 : w5.cell? ⟨W.heap.size, 3, none⟩ = some (.slice lp K.ts.length lc) := cell_in L5.blk 3
  rw [← hW3] at hr4
  have HR4 := mkHid hr4
  have HB5 := mkHid b5
  have HL5 := mkHid L5
  have HRow5 := mkHid hrow5
  have HS3 := mkHid (lt_of_heap b3)
  have HF45 : Hid (W3.heap.size ≤ w5.heap.size) := Nat.le_trans f4.size f5.size
  clear hr4 b5 L5 hrow5 b4 L4 f5 f4 hrow4 b3 f3 hW3
  go_wp2_with (at_builtin; refine Lib.wpList_append_run _ rfl (.const (.slice none 0 0)) (.tmp 21) 23 23 rfl _ _ rfl rfl _ _ HR4.out ?_)
  clear hw5 HR4 k4 z4 y4 x0 x1 x2 x3 x4
  refine (HTwin.out w5 HL5.out.fr).mono ?_
  rintro e w6 ⟨g6, c6, us, rfl, hul, hus, f6, hlm⟩
  have L6 := HL5.out.on f6
  have b6 := f6.hb HB5.out
  obtain ⟨w7, hw7⟩ : ∃ V, w6.setCell ⟨w2.heap.size, 3, none⟩ (.slice (some ⟨g6, 0, none⟩) K.ts.length c6) = V := ⟨_, rfl⟩
  have f7 : Fr [w2.heap.size] w6 w7 := by rw [← hw7]; exact Fr.setCell (S := [w2.heap.size]) w6 ⟨w2.heap.size, 3, none⟩ _ (by simp)
  have b7 : w7.heap[w2.heap.size]? = some (.cells #[.int .i64 K.args, .int .i64 K.temps, .int .i64 K.stack, .slice (some ⟨g6, 0, none⟩) K.ts.length c6, .slice p4 K.ws.length c4] 25 (0, 0)) := by rw [← hw7]; exact set_in b6 3 _
  have L7 : Lw W w7 W.heap.size #[.int .i64 K.args, .int .i64 K.temps, .int .i64 K.stack, .slice lp K.ts.length lc, .slice pw K.ws.length cw] := ⟨L6.fr.trans f7 (fun g hg => .inr (by simp at hg; omega)), (f7.block _ (lt_of_heap L6.blk) (by simp; omega)).trans L6.blk⟩
  have hgl : w2.heap.size < w5.heap.size := lt_of_heap HB5.out
  have hlm7 : LitsR w7 (some ⟨g6, 0, none⟩) c6 us := (hlm.keep (f7.frp (Ok := fun b => b = w2.heap.size) (fun g hg => .inl (by simpa using hg))) (fun b hb e => by omega)).plain
  have hrow7 := own_congr (w' := w7) HRow5.out fun g hg => by
    have hlt := own_lt HRow5.out g hg
    have h3 := HS3.out
    exact (f7.block g (Nat.lt_of_lt_of_le hlt.2 f6.size) (by simp; omega)).trans (f6.block g hlt.2 (by simp))
  have hE7 := HE.out.fr0 L7.fr
  have cor7 : CoR w7 ⟨K.args, K.temps, K.stack, us, K.ws⟩ (some ⟨g6, 0, none⟩) c6 p4 c4 := ⟨own_rd2 hrow7 hsh, hc4, hlm7, nmL_st hus HC.out.nums, HC.out.rng, HC.out.hd, hE7.tb, hE7.pw⟩
  have hpr := print_ok ⟨K.args, K.temps, K.stack, us, K.ws⟩ (some ⟨g6, 0, none⟩) c6 p4 c4 w7 cor7
  rw [prP_st K us hus] at hpr
  have hv7 : (Co.v ⟨K.args, K.temps, K.stack, us, K.ws⟩ (some ⟨g6, 0, none⟩) c6 p4 c4) = #[.int .i64 K.args, .int .i64 K.temps, .int .i64 K.stack, .slice (some ⟨g6, 0, none⟩) K.ts.length c6, .slice p4 K.ws.length c4] := by unfold Co.v; rw [hul]
  rw [hv7] at hpr
  have HPr := mkHid hpr
  have k6 : w6.cell? ⟨w2.heap.size, 3, none⟩ = some (.slice lp K.ts.length lc) := cell_in b6 3
  have z6 := frozen_in b6 3
  have m0 : w7.cell? ⟨w2.heap.size, 0, none⟩ = some (.int .i64 K.args) := cell_in b7 0
  have m1 : w7.cell? ⟨w2.heap.size, 1, none⟩ = some (.int .i64 K.temps) := cell_in b7 1
  have m2 : w7.cell? ⟨w2.heap.size, 2, none⟩ = some (.int .i64 K.stack) := cell_in b7 2
  have m3 : w7.cell? ⟨w2.heap.size, 3, none⟩ = some (.slice (some ⟨g6, 0, none⟩) K.ts.length c6) := cell_in b7 3
  have m4 : w7.cell? ⟨w2.heap.size, 4, none⟩ = some (.slice p4 K.ws.length c4) := cell_in b7 4
  have HL7 := mkHid L7
  clear f6 hlm L6 b6 f7 b7 L7 hlm7 hrow7 hE7 cor7 hpr hv7 HL5 HB5 HRow5 HS3 HF45 HTwin k3
  go_wp2_with fail
  clear hw7 k6 z6 m0 m1 m2 m3 m4
  refine HPr.out.mono ?_
  rintro e w8 ⟨rfl, f8⟩
  have HL8 := mkHid (HL7.out.on f8)
  clear f8 HPr HL7
  obtain ⟨E, T, hET⟩ : ∃ E T, prP K = (E, T) := ⟨_, _, rfl⟩
  rw [hET, show (⟨((E, T) : Int × Bs).2.toArray⟩ : ByteArray) = bA T from rfl, show ((E, T) : Int × Bs).1 = E from rfl]
  by_cases hE0 : E = 0
  · subst hE0
    have htl := prP_len K T hET HC.out.nums HC.out.rng HC.out.hd
    have hpb := par_back hET HC.out.nums HC.out.rng HC.out.hd
    have HPT := mkHid (HPa.out w8 HL8.out.fr T (by omega))
    rw [hpb] at HPT
    clear hET htl hpb
    go_wp2_with (first
      | (go_at_call 8; refine (HNum.out _ _).mono ?_; rintro e wn ⟨rfl, rfl⟩))
    refine HPT.out.mono ?_
    rintro e w9 ⟨f9, K2, lp2, lc2, pw2, cw2, rfl, hhd, hls, hws, hcr⟩
    have HL9 := mkHid (HL8.out.on f9)
    simp only [List.cons.injEq, and_true] at hhd hls hws
    obtain ⟨w10, hw10⟩ : ∃ V, w9.alloc (.cells #[.int .i64 K2.args, .int .i64 K2.temps, .int .i64 K2.stack, .slice lp2 K2.ts.length lc2, .slice pw2 K2.ws.length cw2] 25) = V := ⟨_, rfl⟩
    have f10 : Fr [] w9 w10 := by rw [← hw10]; exact Fr.alloc [] w9 _
    have L10 := HL9.out.on f10
    have hsc := sameCode_ok K2 K lp2 pw2 lp pw lc2 cw2 lc cw w10 (hcr.lits.idle f10) (rd_rc (hcr.words.idle f10)).1 (HC.out.lits.idle L10.fr) (rd_rc (HC.out.words.idle L10.fr)).1 (by rw [hws]; omega) ⟨hhd, hls, hws⟩
    unfold Co.v at hsc
    have HSc := mkHid hsc
    have HW10 := mkHid hw10
    have HL10 := mkHid L10
    have x0 : ∀ o, (w9.alloc o).cell? ⟨W.heap.size, 0, none⟩ = some (.int .i64 K.args) := fun o => cell_in (HL9.out.on (Fr.alloc [] w9 o)).blk 0
    have x1 : ∀ o, (w9.alloc o).cell? ⟨W.heap.size, 1, none⟩ = some (.int .i64 K.temps) := fun o => cell_in (HL9.out.on (Fr.alloc [] w9 o)).blk 1
    have x2 : ∀ o, (w9.alloc o).cell? ⟨W.heap.size, 2, none⟩ = some (.int .i64 K.stack) := fun o => cell_in (HL9.out.on (Fr.alloc [] w9 o)).blk 2
    have x3 : ∀ o, (w9.alloc o).cell? ⟨W.heap.size, 3, none⟩ = some (.slice lp K.ts.length lc) := fun o => cell_in (HL9.out.on (Fr.alloc [] w9 o)).blk 3
    have x4 : ∀ o, (w9.alloc o).cell? ⟨W.heap.size, 4, none⟩ = some (.slice pw K.ws.length cw) := fun o => cell_in (HL9.out.on (Fr.alloc [] w9 o)).blk 4
    unfold Co.v
    clear f9 hhd hls hws hcr f10 L10 hsc hw10 HPT
    go_wp2_with (first
      | (go_at_call 8; refine (HNum.out _ _).mono ?_; rintro e wn ⟨rfl, rfl⟩))
    rw [HW10.out]
    refine HSc.out.mono ?_
    rintro e w11 ⟨rfl, f11⟩
    have HL11 := mkHid (HL10.out.on f11)
    clear f11 x0 x1 x2 x3 x4 HSc HW10 HL10
    go_wp2_with fail
    have HF0 := mkHid (HL11.out.fr)
    refine (HPa.out _ HF0.out t ht).mono ?_
    rintro e wa hpa
    cases hp : parP t with
    | inr n =>
      rw [hp] at hpa
      obtain ⟨fa, rfl⟩ := hpa
      have HFa := mkHid (HF0.out.tr0 fa)
      have hn1 : (1 : Int) ≤ (n : Int) := by have := par_pos t n hp; omega
      have HPost : Hid (∀ o, Fr [] W (wa.alloc o)) := fun o => HFa.out.al o
      clear fa hp HPa
      go_wp2_with (first
        | (go_at_call 8; refine (HNum.out _ _).mono ?_; rintro e wn ⟨rfl, rfl⟩))
      refine (same0_ok _).mono ?_
      rintro e wb ⟨rfl, fb⟩
      have HFb := mkHid ((HPost.out _).tr0 fb)
      clear fb
      go_wp2_with fail
      refine (HWk.out _ HFb.out).mono ?_
      rintro e wc ⟨rfl, fc⟩
      have HFc := mkHid (HFb.out.tr0 fc)
      clear fc
      go_wp2_with fail
      go_ret
      exact ⟨rfl, HFc.out⟩
    | inl c =>
      rw [hp] at hpa
      obtain ⟨fa, K2, lp2, lc2, pw2, cw2, rfl, hhd, hls, hws, hcr⟩ := hpa
      have HFa := mkHid (HF0.out.tr0 fa)
      have HPb := mkHid (pr_back hp hhd hls hws)
      have HCr := mkHid hcr
      obtain ⟨wb, hwb⟩ : ∃ V, wa.alloc (.cells #[.int .i64 K2.args, .int .i64 K2.temps, .int .i64 K2.stack, .slice lp2 K2.ts.length lc2, .slice pw2 K2.ws.length cw2] 25) = V := ⟨_, rfl⟩
      have fb : Fr [] wa wb := by rw [← hwb]; exact Fr.alloc [] wa _
      have hpr2 := print_ok K2 lp2 lc2 pw2 cw2 wb (hcr.idle fb)
      rw [HPb.out] at hpr2
      unfold Co.v at hpr2
      have HPr2 := mkHid hpr2
      have HFb := mkHid (HFa.out.tr0 fb)
      have HWb := mkHid hwb
      have htt : ((bA t).toList == (bA t).toList) = true := by simp
      unfold Co.v
      clear fa hp hhd hls hws hcr fb hpr2 hwb HPa
      go_wp2_with (first
        | (go_at_call 8; refine (HNum.out _ _).mono ?_; rintro e wn ⟨rfl, rfl⟩))
      rw [HWb.out]
      refine HPr2.out.mono ?_
      rintro e wc ⟨rfl, fc⟩
      rw [show (⟨((0, t) : Int × Bs).2.toArray⟩ : ByteArray) = bA t from rfl]
      have HFc := mkHid (HFb.out.tr0 fc)
      clear fc
      go_wp2_with (first
        | (go_at_call 8; refine (HNum.out _ _).mono ?_; rintro e wn ⟨rfl, rfl⟩))
      refine (HWk.out _ HFc.out).mono ?_
      rintro e wd ⟨rfl, fd⟩
      have HFd := mkHid (HFc.out.tr0 fd)
      clear fd
      go_wp2_with fail
      go_ret
      exact ⟨rfl, HFd.out⟩
  · have hT : T = [] := by
      have := prP_err K (by rw [hET]; exact hE0)
      rw [hET] at this
      exact this
    subst hT
    have hE1 : (E == 0) = false := by simpa using hE0
    have he : (bA []).toList.isEmpty = true := by rw [bA_tl]; rfl
    clear hET hE0
    go_wp2_with (first
      | (go_at_call 8; refine (HNum.out _ _).mono ?_; rintro e wn ⟨rfl, rfl⟩))
    have HF0 := mkHid (HL8.out.fr)
    refine (HPa.out _ HF0.out t ht).mono ?_
    rintro e wa hpa
    cases hp : parP t with
    | inr n =>
      rw [hp] at hpa
      obtain ⟨fa, rfl⟩ := hpa
      have HFa := mkHid (HF0.out.tr0 fa)
      have hn1 : (1 : Int) ≤ (n : Int) := by have := par_pos t n hp; omega
      have HPost : Hid (∀ o, Fr [] W (wa.alloc o)) := fun o => HFa.out.al o
      clear fa hp HPa
      go_wp2_with (first
        | (go_at_call 8; refine (HNum.out _ _).mono ?_; rintro e wn ⟨rfl, rfl⟩))
      refine (same0_ok _).mono ?_
      rintro e wb ⟨rfl, fb⟩
      have HFb := mkHid ((HPost.out _).tr0 fb)
      clear fb
      go_wp2_with fail
      refine (HWk.out _ HFb.out).mono ?_
      rintro e wc ⟨rfl, fc⟩
      have HFc := mkHid (HFb.out.tr0 fc)
      clear fc
      go_wp2_with fail
      go_ret
      exact ⟨rfl, HFc.out⟩
    | inl c =>
      rw [hp] at hpa
      obtain ⟨fa, K2, lp2, lc2, pw2, cw2, rfl, hhd, hls, hws, hcr⟩ := hpa
      have HFa := mkHid (HF0.out.tr0 fa)
      have HPb := mkHid (pr_back hp hhd hls hws)
      have HCr := mkHid hcr
      obtain ⟨wb, hwb⟩ : ∃ V, wa.alloc (.cells #[.int .i64 K2.args, .int .i64 K2.temps, .int .i64 K2.stack, .slice lp2 K2.ts.length lc2, .slice pw2 K2.ws.length cw2] 25) = V := ⟨_, rfl⟩
      have fb : Fr [] wa wb := by rw [← hwb]; exact Fr.alloc [] wa _
      have hpr2 := print_ok K2 lp2 lc2 pw2 cw2 wb (hcr.idle fb)
      rw [HPb.out] at hpr2
      unfold Co.v at hpr2
      have HPr2 := mkHid hpr2
      have HFb := mkHid (HFa.out.tr0 fb)
      have HWb := mkHid hwb
      have htt : ((bA t).toList == (bA t).toList) = true := by simp
      unfold Co.v
      clear fa hp hhd hls hws hcr fb hpr2 hwb HPa
      go_wp2_with (first
        | (go_at_call 8; refine (HNum.out _ _).mono ?_; rintro e wn ⟨rfl, rfl⟩))
      rw [HWb.out]
      refine HPr2.out.mono ?_
      rintro e wc ⟨rfl, fc⟩
      rw [show (⟨((0, t) : Int × Bs).2.toArray⟩ : ByteArray) = bA t from rfl]
      have HFc := mkHid (HFb.out.tr0 fc)
      clear fc
      go_wp2_with (first
        | (go_at_call 8; refine (HNum.out _ _).mono ?_; rintro e wn ⟨rfl, rfl⟩))
      refine (HWk.out _ HFc.out).mono ?_
      rintro e wd ⟨rfl, fd⟩
      have HFd := mkHid (HFc.out.tr0 fd)
      clear fd
      go_wp2_with fail
      go_ret
      exact ⟨rfl, HFd.out⟩
end Go.Proofs.YtclkoffnjiiioaaGreatDoor
