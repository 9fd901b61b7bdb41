import Derived.Test.YtclkoffnjiiioaaGreatDoorJRdJ
namespace Go.Proofs.YtclkoffnjiiioaaGreatDoor
open Go.RowKit
set_option linter.unusedVariables false
set_option linter.unusedSimpArgs false
attribute [local go_sem ↓] Go.wp_at_zero Go.wp_at_succ
/-- a Code that is a result by name, with two more -/
theorem ret25 {f : Func} {V : World} {B p q q2 : Nat} {tm : Array Value} {a0 a1 a2 a3 a4 b b2 : Value} {R : Ending → World → Prop} (hres : f.results = #[.cell p 25, .tmp q, .tmp q2]) (hVb : V.heap[B]? = some (.cells #[a0, a1, a2, a3, a4] 25 (0, 0)))
    (h2 : tm.getD p undef = .pointer (some ⟨B, 0, none⟩)) (h3 : tm.getD q undef = b) (h4 : tm.getD q2 undef = b2) (hR : R (.returned (.tuple #[.agg #[a0, a1, a2, a3, a4], b, b2])) V) : bodyPost Tryz.prog f R .ret ⟨tm, []⟩ V := by
  have x0 : V.cell? ⟨B, 0, none⟩ = some a0 := by rw [cell_in hVb]; rfl
  have x1 : V.cell? ⟨B, 1, none⟩ = some a1 := by rw [cell_in hVb]; rfl
  have x2 : V.cell? ⟨B, 2, none⟩ = some a2 := by rw [cell_in hVb]; rfl
  have x3 : V.cell? ⟨B, 3, none⟩ = some a3 := by rw [cell_in hVb]; rfl
  have x4 : V.cell? ⟨B, 4, none⟩ = some a4 := by rw [cell_in hVb]; rfl
  have h2' : tm[p]?.getD undef = .pointer (some ⟨B, 0, none⟩) := by simpa using h2
  have h3' : tm[q]?.getD undef = b := by simpa using h3
  have h4' : tm[q2]?.getD undef = b2 := by simpa using h4
  refine bodyPost_ret (v := .tuple #[.agg #[a0, a1, a2, a3, a4], b, b2]) (by simp [results, hres, go_sem, h2, h2', h3, h3', h4, h4', x0, x1, x2, x3, x4]) rfl hR
abbrev z25 : Obj := .cells #[.int .i64 0, .int .i64 0, .int .i64 0, .slice none 0 0, .slice none 0 0] 25 (0, 0)
abbrev st5 (V : World) (g : Nat) (a0 a1 a2 a3 a4 : Value) : World := ((((V.setCell ⟨g, 0, none⟩ a0).setCell ⟨g, 1, none⟩ a1).setCell ⟨g, 2, none⟩ a2).setCell ⟨g, 3, none⟩ a3).setCell ⟨g, 4, none⟩ a4
theorem st5_ok {V : World} {g : Nat} {b0 b1 b2 b3 b4 : Value} (a0 a1 a2 a3 a4 : Value) (h : V.heap[g]? = some (.cells #[b0, b1, b2, b3, b4] 25 (0, 0))) : (st5 V g a0 a1 a2 a3 a4).heap[g]? = some (.cells #[a0, a1, a2, a3, a4] 25 (0, 0)) ∧ Fr [g] V (st5 V g a0 a1 a2 a3 a4) := by
  refine ⟨set_in (set_in (set_in (set_in (set_in h 0 a0) 1 a1) 2 a2) 3 a3) 4 a4, ?_⟩
  exact ((((Fr.setCell (S := [g]) V ⟨g, 0, none⟩ a0 (by simp)).trans (Fr.setCell (S := [g]) _ ⟨g, 1, none⟩ a1 (by simp)) (by simp)).trans (Fr.setCell (S := [g]) _ ⟨g, 2, none⟩ a2 (by simp)) (by simp)).trans (Fr.setCell (S := [g]) _ ⟨g, 3, none⟩ a3 (by simp)) (by simp)).trans (Fr.setCell (S := [g]) _ ⟨g, 4, none⟩ a4 (by simp)) (by simp)
/-- what Parse answers -/
def PaR (W : World) (R : CoS ⊕ Nat) (e : Ending) (w' : World) : Prop :=
  Fr [] W w' ∧ match R with
  | .inl c => ∃ (K : Co) (lp : Option Addr) (lc : Nat) (pw : Option Addr) (cw : Nat), e = .returned (.tuple #[.agg (K.v lp lc pw cw), .int .i64 0, .int .i64 0]) ∧ [K.args, K.temps, K.stack] = c.hd ∧ stL K.ts = c.ls ∧ K.ws = c.ws ∧ CoR w' K lp lc pw cw
  | .inr n => e = .returned (.tuple #[.agg #[.int .i64 0, .int .i64 0, .int .i64 0, .slice none 0 0, .slice none 0 0], .int .i64 (n : Int), .int .i64 120])
/-- what Parse answers, in blocks of its own -/
def PaX (W : World) (R : CoS ⊕ Nat) (e : Ending) (w' : World) : Prop :=
  Fr [] W w' ∧ match R with
  | .inl c => ∃ (K : Co) (lp : Option Addr) (lc : Nat) (pw : Option Addr) (cw : Nat), e = .returned (.tuple #[.agg (K.v lp lc pw cw), .int .i64 0, .int .i64 0]) ∧ [K.args, K.temps, K.stack] = c.hd ∧ stL K.ts = c.ls ∧ K.ws = c.ws ∧ CoR w' K lp lc pw cw ∧ LitsX w' (fun g => W.heap.size ≤ g) lp lc K.ts ∧ w'.ownsRow W.heap.size 3 1 (.slice pw K.ws.length cw) K.ws.length (K.ws.map (Value.int .i64))
  | .inr n => e = .returned (.tuple #[.agg #[.int .i64 0, .int .i64 0, .int .i64 0, .slice none 0 0, .slice none 0 0], .int .i64 (n : Int), .int .i64 120])
/-- the code in the reader's hands -/
theorem cor_of {w' : World} {r M : Nat} {S : Rv} {t : Bs} {c : CoS} {lp pw : Option Addr} {lc cw : Nat} {ts : List LitT} (hp : parP t = .inl c) (hE : Ev w') (hhd : hdOf S = c.hd) (hst : stL ts = c.ls) (hlo : LitsX w' (fun g => r < g ∧ g < M) lp lc ts) (hrow : w'.ownsRow M 3 1 (.slice pw c.ws.length cw) c.ws.length (c.ws.map (Value.int .i64))) : CoR w' ⟨S.a, S.t, S.s, ts, c.ws⟩ lp lc pw cw := by
  obtain ⟨a, b, d, e, r1, r2, r3, hpr, hnm, hws⟩ := pr_par t c hp
  rw [e] at hhd
  unfold hdOf at hhd
  simp only [List.cons.injEq, and_true] at hhd
  obtain ⟨rfl, rfl, rfl⟩ := hhd
  have hwl : c.ws.length ≤ 4096 := by
    unfold prP at hpr
    split at hpr
    · cases hpr
    · next hb => simp only at hb; omega
  refine ⟨?_, ?_, hlo.plain, nmL_st (by rw [hst, st_unL]) hnm, fun i => ?_, ⟨r1, r2, r3⟩, hE.tb, hE.pw⟩
  · refine ⟨⟨pw, cw, rfl, fun hp => ?_⟩, fun k hk => ?_, by show c.ws.length ≤ _; omega⟩
    · rcases hrow.2 with ⟨e, e0⟩ | ⟨g, cap, cur, e, q1, q2, q3⟩
      · simp only at hp; omega
      · injection e with e1 _ e3
        subst e1 e3
        exact ⟨g, 0, rfl, lt_of_heap q2, fun i hi => by rw [Nat.zero_add]; exact own_get hrow i hi⟩
    · injection hk with e1 _ e3
      subst e1 e3
      rcases hrow.2 with ⟨e, e0⟩ | ⟨g, cap, cur, e, -⟩
      · injection e
      · cases e
  · rcases hrow.2 with ⟨e, e0⟩ | ⟨g, cap, cur, e, q1, q2, q3, q4, q5, q6⟩
    · show c.ws.length ≤ cw
      omega
    · injection e with e1 _ e3
      subst e3
      show c.ws.length ≤ cw
      omega
  · show -9223372036854775808 ≤ c.ws.getD i 0 ∧ c.ws.getD i 0 ≤ 9223372036854775807
    rw [List.getD_eq_getElem?_getD]
    cases hi : c.ws[i]? with
    | none => simp
    | some z => exact hws z (List.mem_of_getElem? hi)
set_option maxRecDepth 100000 in
set_option maxHeartbeats 16000000 in
theorem parse_x (W : World) (hE : Ev W) (h9 : 9 ≤ W.heap.size) (t : Bs) (ht : t.length ≤ 281474976710656) : Calls Tryz.prog 10 #[.string (bA t)] W fun e w' => PaX W (parP t) e w' := by
  obtain ⟨W0, hW0⟩ : ∃ V, W.alloc (.cells #[.int .i64 0, .int .i64 0, .int .i64 0, .slice none 0 0, .slice none 0 0] 25) = V := ⟨_, rfl⟩
  have f0 : Fr [] W W0 := by rw [← hW0]; exact Fr.alloc [] W _
  have b0 : W0.heap[W.heap.size]? = some z25 := by rw [← hW0]; exact heap_alloc_new W _
  have hs0 : W0.heap.size = W.heap.size + 1 := by rw [← hW0]; simp
  have fV : Fr [] W0 (W0.alloc (.cells (rv0 t).c 66)) := Fr.alloc [] W0 _
  have HLs := mkHid (listing_ok W0 (hE.fr0 f0) (by omega) (W0.alloc (.cells (rv0 t).c 66)) W0.heap.size t ht ⟨⟨heap_alloc_new W0 _, ht, by show (0 : Nat) ≤ _; omega⟩, fV, Nat.le_refl _⟩)
  have HE0 := mkHid (hE.fr0 f0)
  have hrc : (rv0 t).c = #[.int .i64 0, .int .i64 0, .int .i64 0, .slice none 0 0, .slice none 0 0, .string (bA t), .int .i64 0, .string (bA []), .int .i64 0] := rfl
  rw [hrc] at HLs
  rw [hs0] at HLs
  have HW0 := mkHid hW0
  have HF0 := mkHid f0
  have HB0 := mkHid b0
  have HS0 := mkHid hs0
  clear f0 b0 fV hrc hW0 hs0 hE
  go_enter Tryz.func10, Tryz.ntmps10
  go_wp2_with fail
  rw [HW0.out]
  refine HLs.out.mono ?_
  rintro e w1 hls
  have hz : ∀ {S : Rv}, Rg W0 w1 (W.heap.size + 1) S → w1.heap[W.heap.size]? = some z25 ∧ Fr [] W w1 := fun hg => ⟨hg.fr.hb HB0.out, HF0.out.tr0 hg.fr⟩
  cases hp : parP t with
  | inl c =>
    rw [hp] at hls
    obtain ⟨rfl, S, lp, lc, ts, pw, cw, M, hrM, hg, hhd, hlv, hst, hlo, hwv, hrow⟩ := hls
    obtain ⟨b1, f1⟩ := hz hg
    have c0 : w1.cell? ⟨W.heap.size, 0, none⟩ = some (.int .i64 0) := cell_in b1 0
    have c1 : w1.cell? ⟨W.heap.size, 1, none⟩ = some (.int .i64 0) := cell_in b1 1
    have c2 : w1.cell? ⟨W.heap.size, 2, none⟩ = some (.int .i64 0) := cell_in b1 2
    have c3 : w1.cell? ⟨W.heap.size, 3, none⟩ = some (.slice none 0 0) := cell_in b1 3
    have c4 : w1.cell? ⟨W.heap.size, 4, none⟩ = some (.slice none 0 0) := cell_in b1 4
    have z0 := frozen_in b1 0
    have z1 := frozen_in b1 1
    have z2 := frozen_in b1 2
    have z3 := frozen_in b1 3
    have z4 := frozen_in b1 4
    have d0 : w1.cell? ⟨W.heap.size + 1, 0, none⟩ = some (.int .i64 S.a) := hg.rb.cl 0
    have d1 : w1.cell? ⟨W.heap.size + 1, 1, none⟩ = some (.int .i64 S.t) := hg.rb.cl 1
    have d2 : w1.cell? ⟨W.heap.size + 1, 2, none⟩ = some (.int .i64 S.s) := hg.rb.cl 2
    have d3 : w1.cell? ⟨W.heap.size + 1, 3, none⟩ = some (.slice lp ts.length lc) := (show w1.cell? ⟨W.heap.size + 1, 3, none⟩ = some S.lv from hg.rb.cl 3).trans (by rw [hlv])
    have d4 : w1.cell? ⟨W.heap.size + 1, 4, none⟩ = some (.slice pw c.ws.length cw) := (show w1.cell? ⟨W.heap.size + 1, 4, none⟩ = some S.wv from hg.rb.cl 4).trans (by rw [hwv])
    obtain ⟨b5, f5⟩ := st5_ok (.int .i64 S.a) (.int .i64 S.t) (.int .i64 S.s) (.slice lp ts.length lc) (.slice pw c.ws.length cw) b1
    have HX : Hid (PaX W (parP t) (.returned (.tuple #[.agg #[.int .i64 S.a, .int .i64 S.t, .int .i64 S.s, .slice lp ts.length lc, .slice pw c.ws.length cw], .int .i64 0, .int .i64 0])) (st5 w1 W.heap.size (.int .i64 S.a) (.int .i64 S.t) (.int .i64 S.s) (.slice lp ts.length lc) (.slice pw c.ws.length cw))) := by
      have hrow5 := own_keep hrow f5 (by omega)
      rw [hp]
      exact ⟨f1.trans f5 (fun g hg' => .inr (by simp at hg'; omega)), ⟨S.a, S.t, S.s, ts, c.ws⟩, lp, lc, pw, cw, rfl, hhd, hst, rfl, cor_of (r := W.heap.size + 1) hp ((HE0.out.fr0 hg.fr).fr f5 (fun g hg' => by simp at hg'; omega)) hhd hst (hlo.keep f5 (fun g hg' _ => by simp; omega) (fun g hg' _ => hg')) hrow5, hlo.keep f5 (fun g hg' _ => by simp; omega) (fun g hg' _ => by omega), own_base hrow5 (by omega)⟩
    have HB5 := mkHid b5
    clear hz hp hg hhd hlv hst hlo hwv hrow b1 f1 b5 f5
    go_wp2_with fail
    exact ret25 Tryz.results10 HB5.out rfl rfl rfl HX.out
  | inr n =>
    rw [hp] at hls
    obtain ⟨rfl, S, hg, hn, hnb⟩ := hls
    obtain ⟨b1, f1⟩ := hz hg
    have c0 : w1.cell? ⟨W.heap.size, 0, none⟩ = some (.int .i64 0) := cell_in b1 0
    have c1 : w1.cell? ⟨W.heap.size, 1, none⟩ = some (.int .i64 0) := cell_in b1 1
    have c2 : w1.cell? ⟨W.heap.size, 2, none⟩ = some (.int .i64 0) := cell_in b1 2
    have c3 : w1.cell? ⟨W.heap.size, 3, none⟩ = some (.slice none 0 0) := cell_in b1 3
    have c4 : w1.cell? ⟨W.heap.size, 4, none⟩ = some (.slice none 0 0) := cell_in b1 4
    have z0 := frozen_in b1 0
    have z1 := frozen_in b1 1
    have z2 := frozen_in b1 2
    have z3 := frozen_in b1 3
    have z4 := frozen_in b1 4
    have d6 : w1.cell? ⟨W.heap.size + 1, 6, none⟩ = some (.int .i64 (S.taken : Int)) := hg.rb.cl 6
    have hwn : IntKind.i64.wrap ((S.taken : Int) + 1) = (S.taken : Int) + 1 := iwrap_id (by omega) (by omega)
    obtain ⟨b5, f5⟩ := st5_ok (.int .i64 0) (.int .i64 0) (.int .i64 0) (.slice none 0 0) (.slice none 0 0) b1
    have HX : Hid (PaX W (parP t) (.returned (.tuple #[.agg #[.int .i64 0, .int .i64 0, .int .i64 0, .slice none 0 0, .slice none 0 0], .int .i64 ((S.taken : Int) + 1), .int .i64 120])) (st5 w1 W.heap.size (.int .i64 0) (.int .i64 0) (.int .i64 0) (.slice none 0 0) (.slice none 0 0)).drew) := by
      rw [hp]
      refine ⟨(f1.trans f5 (fun g hg' => .inr (by simp at hg'; omega))).trans (Fr.drew [] _) (by simp), ?_⟩
      show _ = _
      rw [← hn]
      simp
    have HB5 : Hid ((st5 w1 W.heap.size (.int .i64 0) (.int .i64 0) (.int .i64 0) (.slice none 0 0) (.slice none 0 0)).drew.heap[W.heap.size]? = some (.cells #[.int .i64 0, .int .i64 0, .int .i64 0, .slice none 0 0, .slice none 0 0] 25 (0, 0))) := b5
    have d6' : (st5 w1 W.heap.size (.int .i64 0) (.int .i64 0) (.int .i64 0) (.slice none 0 0) (.slice none 0 0)).cell? ⟨W.heap.size + 1, 6, none⟩ = some (.int .i64 (S.taken : Int)) := (f5.cell (p := ⟨W.heap.size + 1, 6, none⟩) hg.rb.lt (by simp)).trans d6
    have HD6 := mkHid d6'
    clear hz hp hg hn hnb b1 f1 b5 f5 d6'
    go_wp2_with fail
    refine wp_region_h (S := fun V => V.cell? ⟨W.heap.size + 1, 6, none⟩ = some (.int .i64 (S.taken : Int))) (by kernel_rfl) d6 (fun hHeld => ?_)
    refine wpAnyH_take (i := 0) (v := ?_) rfl (by kernel_rfl) (by kernel_rfl) (by kernel_rfl) (fun _ _ _ h => h) (Or.inl ⟨by rfl, ?_⟩) (by assumption) ?_
    rotate_left
    · (intro w hSw; (try dsimp only at hSw); first | (go_simp; done) | (go_simp; with_reducible rfl))
    try simp only [Act.put, qT, qZ, qS, qB, qY, qX]
    refine wpAnyH_take (i := 1) (v := ?_) rfl (by kernel_rfl) (by kernel_rfl) (by kernel_rfl) (fun _ _ _ h => h) (Or.inl ⟨by rfl, ?_⟩) (by assumption) ?_
    rotate_left
    · (intro w hSw; (try dsimp only at hSw); first | (go_simp; done) | (go_simp; with_reducible rfl))
    try simp only [Act.put, qT, qZ, qS, qB, qY, qX]
    refine wpAnyH_take (i := 2) (v := ?_) rfl (by kernel_rfl) (by kernel_rfl) (by kernel_rfl) (fun _ _ _ h => h) (Or.inl ⟨by rfl, ?_⟩) (by assumption) ?_
    rotate_left
    · (intro w hSw; (try dsimp only at hSw); first | (go_simp; done) | (go_simp; with_reducible rfl))
    try simp only [Act.put, qT, qZ, qS, qB, qY, qX]
    refine wpAnyH_take (i := 3) (v := ?_) rfl (by kernel_rfl) (by kernel_rfl) (by kernel_rfl) (fun _ _ _ h => h) (Or.inl ⟨by rfl, ?_⟩) (by assumption) ?_
    rotate_left
    · (intro w hSw; (try dsimp only at hSw); first | (go_simp; done) | (go_simp; with_reducible rfl))
    try simp only [Act.put, qT, qZ, qS, qB, qY, qX]
    refine wpAnyH_take (i := 4) (v := ?_) rfl (by kernel_rfl) (by kernel_rfl) (by kernel_rfl) (fun _ _ _ h => h) (Or.inl ⟨by rfl, ?_⟩) (by assumption) ?_
    rotate_left
    · (intro w hSw; (try dsimp only at hSw); first | (go_simp; done) | (go_simp; with_reducible rfl))
    try simp only [Act.put, qT, qZ, qS, qB, qY, qX]
    refine wpAnyH_take (i := 5) (v := ?_) rfl (by kernel_rfl) (by kernel_rfl) (by kernel_rfl) (fun _ _ _ h => h) (Or.inl ⟨by rfl, ?_⟩) (by assumption) ?_
    rotate_left
    · (intro w hSw; (try dsimp only at hSw); first | (go_simp; done) | (go_simp; with_reducible rfl))
    try simp only [Act.put, qT, qZ, qS, qB, qY, qX]
    refine wpH_one (i := 6) (by kernel_rfl) rfl (fun K hK => ?_)
    go_simp
    try go_wp2_with fail
    refine hK.out _ _ HD6.out (fun hHeld => ?_)
    clear hK K
    try simp only [Act.put, qT, qZ, qS, qB, qY, qX]
    refine wpAnyH_take (i := 7) (v := ?_) rfl (by kernel_rfl) (by kernel_rfl) (by kernel_rfl) (fun _ _ _ h => h) (Or.inl ⟨by rfl, ?_⟩) (by assumption) ?_
    rotate_left
    · (intro w hSw; (try dsimp only at hSw); first | (go_simp; done) | (go_simp; with_reducible rfl))
    try simp only [Act.put, qT, qZ, qS, qB, qY, qX]
    refine wpAnyH_take (i := 8) (v := ?_) rfl (by kernel_rfl) (by kernel_rfl) (by kernel_rfl) (fun _ _ _ h => h) (Or.inl ⟨by rfl, ?_⟩) (by assumption) ?_
    rotate_left
    · (intro w hSw; (try dsimp only at hSw); first | (go_simp; done) | (go_simp; with_reducible rfl))
    try simp only [Act.put, qT, qZ, qS, qB, qY, qX]
    refine wpAnyH_done (by kernel_rfl) ?_ _
    try go_wp2_with fail
    exact ret25 Tryz.results10 HB5.out rfl rfl rfl HX.out
end Go.Proofs.YtclkoffnjiiioaaGreatDoor
