import Derived.Test.YtclkoffnjiiioaaGreatDoorTJBk
import Derived.Test.YtclkoffnjiiioaaGreatDoorTJLn1
namespace Go.Proofs.YtclkoffnjiiioaaGreatDoor
open Go.RowKit
set_option linter.unusedVariables false
set_option linter.unusedSimpArgs false
attribute [local go_sem ↓] Go.wp_at_zero Go.wp_at_succ
/-- the ends of lines, in memory -/
structure En (W : World) (B : Nat) (T : Bs) (i : Nat) (E : List Int) (p : Option Addr) (c : Nat) (V : World) : Prop where
  row : V.ownsRow B 3 1 (.slice p E.length c) E.length (E.map (Value.int .i64))
  ok : EndsOk T i E
  fr : Fr [] W V
  size : B ≤ V.heap.size
theorem En.zero {W w8 : World} (T : Bs) (f : Fr [] W w8) : En W w8.heap.size T 0 [0] (some ⟨w8.heap.size, 0, none⟩) 1 (w8.alloc (.cells #[.int .i64 0] 3)) :=
  ⟨⟨rfl, .inr ⟨w8.heap.size, 1, #[.int .i64 0], rfl, Nat.le_refl _, heap_alloc_new w8 _, Nat.le_refl _, by unfold maxLen; omega, rfl, rfl⟩⟩, EndsOk.zero T, f.al _, (Fr.alloc [] w8 _).size⟩
theorem En.more {W V : World} {B : Nat} {T : Bs} {i : Nat} {E : List Int} {p : Option Addr} {c : Nat} (h : En W B T i E p c V) (hB : W.heap.size ≤ B) (hT : T.length ≤ 1000000000) (hb : T[i]? = some 10) :
    ∃ p' c' V', (Builtin.append_ #[23, 23] 23 #[.slice p E.length c, .slice (some ⟨V.heap.size, 0, none⟩) 1 1]).run Tryz.prog (V.alloc (.cells #[.int .i64 ((i : Int) + 1)] 3)) = .ok (.slice p' (E.length + 1) c') V' ∧ En W B T (i + 1) (E ++ [((i + 1 : Nat) : Int)]) p' c' V' := by
  have hl : i < T.length := (List.getElem?_eq_some_iff.1 hb).1
  have hle := h.ok.le
  obtain ⟨p', c', V', h1, h2, h3⟩ := push_int V B p c E ((i : Int) + 1) h.row (by omega) h.size
  have hrk : ∀ g ∈ blk p, B ≤ g := fun g hg => (own_lt h.row g ((blk_own _ _ _ _).2 hg)).1
  have f : Fr (blk p) V V' := by
    rcases h3 with ⟨-, -, q⟩ | ⟨q, -⟩
    · exact q
    · exact q.mono (by simp)
  exact ⟨p', c', V', h1, h2, h.ok.more hb, h.fr.trans f (fun g hg => .inr (by have := hrk g hg; omega)), Nat.le_trans h.size f.size⟩
theorem rem_len (z : Int) (n : Nat) (h0 : 1 ≤ n) (hn : n ≤ 2000000000) : ∃ r : Int, IntKind.i64.wrap (z.tmod (n : Int)) = r ∧ z.tmod (n : Int) = r ∧ ((decide (r < 0) = true ∧ ∃ k : Nat, IntKind.i64.wrap (r + (n : Int)) = k ∧ r + (n : Int) = k ∧ k < n) ∨ ∃ k : Nat, r = k ∧ decide ((k : Int) < 0) = false ∧ k < n) := by
  have h1 := Int.tmod_lt_of_pos z (show (0 : Int) < (n : Int) by omega)
  have h2 : -(n : Int) < z.tmod (n : Int) := by
    have := Int.tmod_lt_of_pos (-z) (show (0 : Int) < (n : Int) by omega)
    rw [Int.neg_tmod] at this
    omega
  refine ⟨z.tmod (n : Int), iwrap_id (by omega) (by omega), rfl, ?_⟩
  by_cases h0 : z.tmod (n : Int) < 0
  · exact Or.inl ⟨decide_eq_true h0, (z.tmod (n : Int) + (n : Int)).toNat, by rw [iwrap_id (by omega) (by omega)]; omega, by omega, by omega⟩
  · exact Or.inr ⟨(z.tmod (n : Int)).toNat, by omega, decide_eq_false (by omega), by omega⟩
theorem bA_ext (T : Bs) (e : Nat) (h : e ≤ T.length) : (bA T).extract 0 e = bA (T.take e) := by
  apply ByteArray.ext
  rw [ByteArray.data_extract]
  apply Array.toList_inj.1
  simp [bA]
theorem bA_two (a x : Bs) : bA a ++ (⟨#[63]⟩ : ByteArray) ++ bA x = bA (a ++ 63 :: x) := by
  apply ByteArray.ext
  rw [ByteArray.data_append, ByteArray.data_append]
  apply Array.toList_inj.1
  simp [bA]
theorem En.slot {W V : World} {B : Nat} {T : Bs} {i : Nat} {E : List Int} {p : Option Addr} {c : Nat} (h : En W B T i E p c V) : ∃ g, p = some ⟨g, 0, none⟩ ∧ ∀ k e, E[k]? = some e → V.cell? ⟨g, k, none⟩ = some (.int .i64 e) := by
  have hp : 0 < E.length := by have := h.ok.len; omega
  obtain ⟨p', c', e, h1⟩ := own_slot h.row
  injection e with e1 e2 e3
  obtain ⟨g, hg, h2⟩ := h1 hp
  refine ⟨g, by rw [e1, hg], fun k e he => ?_⟩
  have := h2 k (List.getElem?_eq_some_iff.1 he).1
  rw [List.getD_eq_getElem?_getD, he] at this
  exact this
set_option maxRecDepth 100000 in
set_option maxHeartbeats 16000000 in
theorem lines_any (K : Co) (lp : Option Addr) (lc : Nat) (pw : Option Addr) (cw : Nat) (W : World) (hc : CoR W K lp lc pw cw) (hE : Ev W) (h9 : 9 ≤ W.heap.size) (kp : Int) (x : Bs) (hx : x.length ≤ 140737488355328) :
    Calls Tryz.prog 3 #[.agg (K.v lp lc pw cw), .int .i64 kp, .string (bA x)] W fun e w' => e = .returned (.bool true) ∧ Fr [] W w' := by
  have hsh := hc.words.short
  have HBey : Hid (∀ V, Fr [] W V → Calls Tryz.prog 6 #[.slice lp K.ts.length lc] V fun e w' => AnyS V K.ts e w') := fun V hV => beyond_is V lp lc K.ts (hc.lits.idle hV)
  have HWk : Hid (∀ V, Fr [] W V → Calls Tryz.prog 9 #[] V fun e w' => e = .returned (.bool true) ∧ Fr [] V w') := fun V hV => works_ok V (hE.fr0 hV) (Nat.le_trans h9 hV.size)
  have HPa : Hid (∀ V, Fr [] W V → ∀ x : Bs, x.length ≤ 281474976710656 → Calls Tryz.prog 10 #[.string (bA x)] V fun e w' => PaR V (parP x) e w') := fun V hV x hx => parse_ok V (hE.fr0 hV) (Nat.le_trans h9 hV.size) x hx
  obtain ⟨W1, hW1⟩ : ∃ V, W.alloc (.cells #[.int .i64 K.args, .int .i64 K.temps, .int .i64 K.stack, .slice lp K.ts.length lc, .slice pw K.ws.length cw] 25) = V := ⟨_, rfl⟩
  have f1 : Fr [] W W1 := by rw [← hW1]; exact Fr.alloc [] W _
  have b1 : W1.heap[W.heap.size]? = some (.cells #[.int .i64 K.args, .int .i64 K.temps, .int .i64 K.stack, .slice lp K.ts.length lc, .slice pw K.ws.length cw] 25 (0, 0)) := by rw [← hW1]; exact heap_alloc_new W _
  have HL1 : Hid (Lw W W1 W.heap.size #[.int .i64 K.args, .int .i64 K.temps, .int .i64 K.stack, .slice lp K.ts.length lc, .slice pw K.ws.length cw]) := ⟨f1, b1⟩
  have HW1 := mkHid hW1
  have HC := mkHid hc
  have HE := mkHid hE
  have HNum := mkHid num_ok
  clear hc hE f1 b1 hW1
  unfold Co.v
  go_enter Tryz.func3, Tryz.ntmps3
  go_wp2_with fail
  rw [HW1.out]
  refine (HBey.out W1 HL1.out.fr).mono ?_
  rintro e w2 ⟨bb, rfl, f2, hsm⟩
  have HL2 := mkHid (HL1.out.on f2)
  clear f2 HBey HW1
  cases bb
  case true =>
    go_wp2_with fail
    go_ret
    exact ⟨rfl, HL2.out.fr⟩
  case false =>
  clear hsm
  have x0 : w2.cell? ⟨W.heap.size, 0, none⟩ = some (.int .i64 K.args) := cell_in HL2.out.blk 0
  have x1 : w2.cell? ⟨W.heap.size, 1, none⟩ = some (.int .i64 K.temps) := cell_in HL2.out.blk 1
  have x2 : w2.cell? ⟨W.heap.size, 2, none⟩ = some (.int .i64 K.stack) := cell_in HL2.out.blk 2
  have x3 : w2.cell? ⟨W.heap.size, 3, none⟩ = some (.slice lp K.ts.length lc) := cell_in HL2.out.blk 3
  have x4 : w2.cell? ⟨W.heap.size, 4, none⟩ = some (.slice pw K.ws.length cw) := cell_in HL2.out.blk 4
  have hpr := print_ok K lp lc pw cw w2 (HC.out.idle HL2.out.fr)
  unfold Co.v at hpr
  have HPr := mkHid hpr
  have HF2 := mkHid HL2.out.fr
  clear hpr HL2 HL1
  go_wp2_with fail
  clear x0 x1 x2 x3 x4
  refine HPr.out.mono ?_
  rintro e w8 ⟨rfl, f8⟩
  have HF8 := mkHid (HF2.out.tr0 f8)
  clear f8 HPr HF2
  obtain ⟨E, T, hET⟩ : ∃ E T, prP K = (E, T) := ⟨_, _, rfl⟩
  rw [hET, show (⟨((E, T) : Int × Bs).2.toArray⟩ : ByteArray) = bA T from rfl, show ((E, T) : Int × Bs).1 = E from rfl]
  by_cases hE0 : E = 0
  case neg =>
    have hE1 : (E != 0) = true := by simpa using hE0
    clear hET hE0
    go_wp2_with (first
      | (go_at_call 8; refine (HNum.out _ _).mono ?_; rintro e wn ⟨rfl, rfl⟩))
    refine (HWk.out _ HF8.out).mono ?_
    rintro e wc ⟨rfl, fc⟩
    have HFc := mkHid (HF8.out.tr0 fc)
    clear fc
    go_wp2_with fail
    go_ret
    exact ⟨rfl, HFc.out⟩
  case pos =>
  subst hE0
  have htl := prP_len K T hET HC.out.nums HC.out.rng HC.out.hd
  have HCut : Hid (∀ (E : List Int), EndsOk T T.length E → ∀ k, k < E.length → ∃ e : Nat, E[k]? = some (e : Int) ∧ e ≤ T.length ∧ (k = 0 → parP (T.take e) = .inr 1) ∧ (k ≠ 0 → (∃ c, parP (T.take e) = .inl c) ∧ ∀ x : Bs, parP (T.take e ++ 63 :: x) = .inr (k + 1))) := fun E hE k hk => hE.cut hET HC.out.nums HC.out.rng HC.out.hd hk
  obtain ⟨B, hB⟩ : ∃ B, B = w8.heap.size := ⟨_, rfl⟩
  have HSz : Hid (W.heap.size ≤ B) := by rw [hB]; exact HF8.out.size
  have HZ : Hid (En W B T 0 [0] (some ⟨w8.heap.size, 0, none⟩) 1 (w8.alloc (.cells #[.int .i64 0] 3))) := by rw [hB]; exact En.zero T HF8.out
  clear hB
  have hsT : (bA T).size = T.length := bA_size T
  clear hET HE HC
  go_wp2_with (first
    | (go_at_call 8; refine (HNum.out _ _).mono ?_; rintro e wn ⟨rfl, rfl⟩))
  go_loopw [9, 10] (fun v q wr => ∃ i : Nat, i ≤ T.length ∧ q = .int .i64 (i : Int) ∧ ∃ p c, ∃ E : List Int, v = .slice p E.length c ∧ Hid (En W B T i E p c wr)) (fun _ q _ => T.length - (intOf q).toNat)
  case atStart => exact ⟨0, Nat.zero_le _, rfl, _, _, [0], rfl, HZ.out⟩
  case round =>
    clear HZ HF8
    obtain ⟨i, hi, rfl, p, c, E, rfl, hst⟩ := hrel
    have i0 : (0 : Int) ≤ (i : Int) := by omega
    by_cases hlt : i < T.length
    · have i1 : (i : Int) < ((bA T).size : Int) := by omega
      obtain ⟨b, hb⟩ : ∃ b, T[i]? = some b := ⟨T[i], List.getElem?_eq_getElem hlt⟩
      have hbi : (bA T)[i]'(by rw [hsT]; exact hlt) = b := by
        have : T[i] = b := by rw [List.getElem?_eq_getElem hlt] at hb; exact Option.some.inj hb
        exact this
      have hu : ((b.toNat : Int) == 10) = (b == 10) := u8_eq b 10 (by decide)
      by_cases hb10 : b = 10
      · have hm1 : ((b.toNat : Int) == 10) = true := by rw [hu, hb10]; rfl
        obtain ⟨p', c', w2, hr2, he2⟩ := hst.out.more HSz.out htl (by rw [hb, hb10])
        have HR2 := mkHid hr2
        have HY := mkHid he2
        have hwr : IntKind.i64.wrap ((i : Int) + 1) = (i : Int) + 1 := iwrap_id (by omega) (by omega)
        clear hst hr2 he2 hb hu hb10
        go_wp2_with (at_builtin; refine Lib.wpList_append_run _ rfl (.tmp 41) (.tmp 44) 23 23 rfl _ _ rfl rfl _ _ HR2.out ?_)
        go_roundw
        case rel => exact ⟨i + 1, by omega, by go_num, p', c', _, by rw [List.length_append]; rfl, HY.out⟩
        case measure => simp [intOf]; omega
      · have hm1 : ((b.toNat : Int) == 10) = false := by rw [hu]; simpa using hb10
        have HY : Hid (En W B T (i + 1) E p c wr) := ⟨hst.out.row, hst.out.ok.skip b hb hb10, hst.out.fr, hst.out.size⟩
        clear hst hb hu hb10
        go_wp2_with fail
        go_roundw
        case rel => exact ⟨i + 1, by omega, by go_num, p, c, E, rfl, HY.out⟩
        case measure => simp [intOf]; omega
    · have hiT : i = T.length := by omega
      subst hiT
      have hl := hst.out.ok.len
      have hle := hst.out.ok.le
      have hF := hst.out.fr
      obtain ⟨g, rfl, hcl⟩ := hst.out.slot
      have hcut := HCut.out E hst.out.ok
      have hL0 : ((E.length : Int) == 0) = false := by simpa using (show ¬ (E.length : Int) = 0 by omega)
      obtain ⟨r, hr1, hr2, ⟨hr3, k, hk1, hk2, hk3⟩ | ⟨k, rfl, hr3, hk3⟩⟩ := rem_len kp E.length (by omega) (by omega)
      · obtain ⟨e, he, hel, hc0, hc1⟩ := hcut k hk3
        have k0 : (0 : Int) ≤ (k : Int) := by omega
        have k1 : (k : Int) < (E.length : Int) := by omega
        have e0 : (0 : Int) ≤ (e : Int) := by omega
        have e1 : (e : Int) ≤ ((bA T).size : Int) := by omega
        have hce := hcl k _ he
        clear hk2
        have HP1 : Hid (Calls Tryz.prog 10 #[.string ((bA T).extract 0 e)] wr fun e2 w' => PaR wr (parP (T.take e)) e2 w') := by rw [bA_ext T e hel]; exact HPa.out wr hF (T.take e) (by rw [List.length_take]; omega)
        have HFr := mkHid hF
        by_cases hk0 : k = 0
        · rw [hc0 hk0] at HP1
          have hkz : ((k : Int) == 0) = true := by simpa using hk0
          clear hl hle hst hcl hcut he hx hsh h9 hlt i0 hi hF hc0 hc1 hk0 HPa HCut
          go_wp2_with fail
          refine HP1.out.mono ?_
          rintro e2 wa ⟨fa, rfl⟩
          have HFa : Hid (∀ o, Fr [] W (wa.alloc o)) := fun o => (HFr.out.tr0 fa).al o
          clear fa
          go_wp2_with (first
            | (go_at_call 8; refine (HNum.out _ _).mono ?_; rintro e wn ⟨rfl, rfl⟩))
          refine (HWk.out _ (HFa.out _)).mono ?_
          rintro e2 wc ⟨rfl, fc⟩
          have HFc := mkHid ((HFa.out _).tr0 fc)
          clear fc
          go_wp2_with fail
          go_ret
          exact ⟨rfl, HFc.out⟩
        · obtain ⟨⟨cc, hcc⟩, hc2⟩ := hc1 hk0
          rw [hcc] at HP1
          have hkz : ((k : Int) == 0) = false := by simpa using hk0
          have HP2 : Hid (∀ V, Fr [] W V → Calls Tryz.prog 10 #[.string ((bA T).extract 0 e ++ (⟨#[63]⟩ : ByteArray) ++ bA x)] V fun e2 w' => PaR V (.inr (k + 1)) e2 w') := fun V hV => by
            rw [bA_ext T e hel, bA_two]
            have := HPa.out V hV (T.take e ++ 63 :: x) (by rw [List.length_append, List.length_take, List.length_cons]; omega)
            rw [hc2 x] at this
            exact this
          have hq2 : ((bA T).extract 0 e ++ (⟨#[63]⟩ : ByteArray)).size + (bA x).size ≤ 9223372036854775807 := by
            rw [ByteArray.size_append, bA_ext T e hel, bA_size, bA_size, List.length_take]
            show _ + 1 + _ ≤ _
            omega
          have hxs : (bA x).size ≤ 140737488355328 := by rw [bA_size]; exact hx
          have hwk : IntKind.i64.wrap ((k : Int) + 1) = (k : Int) + 1 := iwrap_id (by omega) (by omega)
          have hkk : (((k + 1 : Nat) : Int) == (k : Int) + 1) = true := by simp
          clear hl hle hst hcl hcut he hx hsh h9 hlt i0 hi hF hc0 hc1 hk0 HPa HCut hcc hc2
          go_wp2_with fail
          refine HP1.out.mono ?_
          rintro e2 wa ⟨fa, K2, lp2, lc2, pw2, cw2, rfl, hhd, hls, hws, hcr⟩
          have hce2 : ∀ o, (wa.alloc o).cell? ⟨g, k, none⟩ = some (.int .i64 (e : Int)) := fun o => (Fr.alloc [] wa o).cl (fa.cl hce)
          have HFa : Hid (∀ o, Fr [] W (wa.alloc o)) := fun o => (HFr.out.tr0 fa).al o
          unfold Co.v
          clear fa hhd hls hws hcr hce
          go_wp2_with (first
            | (go_at_call 8; refine (HNum.out _ _).mono ?_; rintro e wn ⟨rfl, rfl⟩))
          refine (HP2.out _ (HFa.out _)).mono ?_
          rintro e2 wb ⟨fb, rfl⟩
          have HFb : Hid (∀ o, Fr [] W (wb.alloc o)) := fun o => ((HFa.out _).tr0 fb).al o
          clear fb
          go_wp2_with (first
            | (go_at_call 8; refine (HNum.out _ _).mono ?_; rintro e wn ⟨rfl, rfl⟩))
          refine (HWk.out _ (HFb.out _)).mono ?_
          rintro e2 wc ⟨rfl, fc⟩
          have HFc := mkHid ((HFb.out _).tr0 fc)
          clear fc
          go_wp2_with fail
          go_ret
          exact ⟨rfl, HFc.out⟩
      · obtain ⟨e, he, hel, hc0, hc1⟩ := hcut k hk3
        have k0 : (0 : Int) ≤ (k : Int) := by omega
        have k1 : (k : Int) < (E.length : Int) := by omega
        have e0 : (0 : Int) ≤ (e : Int) := by omega
        have e1 : (e : Int) ≤ ((bA T).size : Int) := by omega
        have hce := hcl k _ he
        have HP1 : Hid (Calls Tryz.prog 10 #[.string ((bA T).extract 0 e)] wr fun e2 w' => PaR wr (parP (T.take e)) e2 w') := by rw [bA_ext T e hel]; exact HPa.out wr hF (T.take e) (by rw [List.length_take]; omega)
        have HFr := mkHid hF
        by_cases hk0 : k = 0
        · rw [hc0 hk0] at HP1
          have hkz : ((k : Int) == 0) = true := by simpa using hk0
          clear hl hle hst hcl hcut he hx hsh h9 hlt i0 hi hF hc0 hc1 hk0 HPa HCut
          go_wp2_with fail
          refine HP1.out.mono ?_
          rintro e2 wa ⟨fa, rfl⟩
          have HFa : Hid (∀ o, Fr [] W (wa.alloc o)) := fun o => (HFr.out.tr0 fa).al o
          clear fa
          go_wp2_with (first
            | (go_at_call 8; refine (HNum.out _ _).mono ?_; rintro e wn ⟨rfl, rfl⟩))
          refine (HWk.out _ (HFa.out _)).mono ?_
          rintro e2 wc ⟨rfl, fc⟩
          have HFc := mkHid ((HFa.out _).tr0 fc)
          clear fc
          go_wp2_with fail
          go_ret
          exact ⟨rfl, HFc.out⟩
        · obtain ⟨⟨cc, hcc⟩, hc2⟩ := hc1 hk0
          rw [hcc] at HP1
          have hkz : ((k : Int) == 0) = false := by simpa using hk0
          have HP2 : Hid (∀ V, Fr [] W V → Calls Tryz.prog 10 #[.string ((bA T).extract 0 e ++ (⟨#[63]⟩ : ByteArray) ++ bA x)] V fun e2 w' => PaR V (.inr (k + 1)) e2 w') := fun V hV => by
            rw [bA_ext T e hel, bA_two]
            have := HPa.out V hV (T.take e ++ 63 :: x) (by rw [List.length_append, List.length_take, List.length_cons]; omega)
            rw [hc2 x] at this
            exact this
          have hq2 : ((bA T).extract 0 e ++ (⟨#[63]⟩ : ByteArray)).size + (bA x).size ≤ 9223372036854775807 := by
            rw [ByteArray.size_append, bA_ext T e hel, bA_size, bA_size, List.length_take]
            show _ + 1 + _ ≤ _
            omega
          have hxs : (bA x).size ≤ 140737488355328 := by rw [bA_size]; exact hx
          have hwk : IntKind.i64.wrap ((k : Int) + 1) = (k : Int) + 1 := iwrap_id (by omega) (by omega)
          have hkk : (((k + 1 : Nat) : Int) == (k : Int) + 1) = true := by simp
          clear hl hle hst hcl hcut he hx hsh h9 hlt i0 hi hF hc0 hc1 hk0 HPa HCut hcc hc2
          go_wp2_with fail
          refine HP1.out.mono ?_
          rintro e2 wa ⟨fa, K2, lp2, lc2, pw2, cw2, rfl, hhd, hls, hws, hcr⟩
          have hce2 : ∀ o, (wa.alloc o).cell? ⟨g, k, none⟩ = some (.int .i64 (e : Int)) := fun o => (Fr.alloc [] wa o).cl (fa.cl hce)
          have HFa : Hid (∀ o, Fr [] W (wa.alloc o)) := fun o => (HFr.out.tr0 fa).al o
          unfold Co.v
          clear fa hhd hls hws hcr hce
          go_wp2_with (first
            | (go_at_call 8; refine (HNum.out _ _).mono ?_; rintro e wn ⟨rfl, rfl⟩))
          refine (HP2.out _ (HFa.out _)).mono ?_
          rintro e2 wb ⟨fb, rfl⟩
          have HFb : Hid (∀ o, Fr [] W (wb.alloc o)) := fun o => ((HFa.out _).tr0 fb).al o
          clear fb
          go_wp2_with (first
            | (go_at_call 8; refine (HNum.out _ _).mono ?_; rintro e wn ⟨rfl, rfl⟩))
          refine (HWk.out _ (HFb.out _)).mono ?_
          rintro e2 wc ⟨rfl, fc⟩
          have HFc := mkHid ((HFb.out _).tr0 fc)
          clear fc
          go_wp2_with fail
          go_ret
          exact ⟨rfl, HFc.out⟩
end Go.Proofs.YtclkoffnjiiioaaGreatDoor
