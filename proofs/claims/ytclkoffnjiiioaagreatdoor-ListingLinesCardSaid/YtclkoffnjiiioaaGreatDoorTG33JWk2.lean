import Derived.Test.YtclkoffnjiiioaaGreatDoorTJSm1
import Derived.Test.YtclkoffnjiiioaaGreatDoorTJLin
namespace Go.Proofs.YtclkoffnjiiioaaGreatDoor
open Go.RowKit
set_option linter.unusedVariables false
set_option linter.unusedSimpArgs false
attribute [local go_sem ↓] Go.wp_at_zero Go.wp_at_succ
/-- two codes that say the same -/
structure SameC (K L : Co) : Prop where
  hd : K.args = L.args ∧ K.temps = L.temps ∧ K.stack = L.stack
  ts : stL K.ts = stL L.ts
  ws : K.ws = L.ws
theorem rd_rc {w : World} {p : Option Addr} {n c : Nat} {ss : List Int} (h : Rd w (.slice p n c) ss) : Rc w p ss ∧ ss.length = n := by
  obtain ⟨p', c', e, hh⟩ := h.at_
  injection e with e1 e2 _
  subst e1
  refine ⟨fun hp => ?_, e2.symm⟩
  obtain ⟨g, off, e2, -, hc⟩ := hh hp
  exact ⟨g, off, e2, hc⟩
set_option maxRecDepth 100000 in
set_option maxHeartbeats 8000000 in
theorem sameCode_ok (K L : Co) (lp pw lp2 pw2 : Option Addr) (lc cw lc2 cw2 : Nat) (W : World) (hk : LitsR W lp lc K.ts) (hk2 : Rc W pw K.ws) (hl : LitsR W lp2 lc2 L.ts) (hl2 : Rc W pw2 L.ws) (hws : K.ws.length ≤ 17592186044000) (hs : SameC K L) :
    Calls Tryz.prog 12 #[.agg (K.v lp lc pw cw), .agg (L.v lp2 lc2 pw2 cw2)] W fun e w' => e = .returned (.bool true) ∧ Fr [] W w' := by
  obtain ⟨⟨h1, h2, h3⟩, h4, h5⟩ := hs
  have hlt : L.ts.length = K.ts.length := by rw [← stL_len, ← h4, stL_len]
  have HL : Hid (∀ V, Fr [] W V → Calls Tryz.prog 24 #[.slice lp K.ts.length lc, .slice lp2 K.ts.length lc2] V fun e w' => e = .returned (.bool true) ∧ Fr [] V w') := fun V fV => by
    have := sameLits_ok V lp lc K.ts (hk.idle fV) 0 lp2 lc2 L.ts (hl.idle fV) h4
    rw [hlt] at this
    refine Calls.mono (show Calls Tryz.prog 24 _ V _ from this) ?_
    rintro e w' ⟨rfl, n, rfl⟩
    exact ⟨rfl, (Fr.drewN [] V 0).tr0 (Fr.drewN [] _ n)⟩
  have HI : Hid (∀ V, Fr [] W V → Calls Tryz.prog 22 #[.slice pw K.ws.length cw, .slice pw2 K.ws.length cw2] V fun e w' => e = .returned (.bool true) ∧ Fr [] V w') := fun V fV => same_is K.ws K.ws.length rfl hws pw pw2 cw cw2 V (fun hp => by obtain ⟨g, off, e, hc⟩ := hk2 hp; exact ⟨g, off, e, fun i hi => fV.cl (hc i hi)⟩) (fun hp => by rw [h5] at hp ⊢; obtain ⟨g, off, e, hc⟩ := hl2 hp; exact ⟨g, off, e, fun i hi => fV.cl (hc i hi)⟩)
  have hv : L.v lp2 lc2 pw2 cw2 = #[.int .i64 K.args, .int .i64 K.temps, .int .i64 K.stack, .slice lp2 K.ts.length lc2, .slice pw2 K.ws.length cw2] := by unfold Co.v; rw [← h1, ← h2, ← h3, hlt, h5]
  rw [hv]
  obtain ⟨V2, hV2⟩ : ∃ V, (W.alloc (.cells #[.int .i64 K.args, .int .i64 K.temps, .int .i64 K.stack, .slice lp K.ts.length lc, .slice pw K.ws.length cw] 25)).alloc (.cells #[.int .i64 K.args, .int .i64 K.temps, .int .i64 K.stack, .slice lp2 K.ts.length lc2, .slice pw2 K.ws.length cw2] 25) = V := ⟨_, rfl⟩
  have f2 : Fr [] W V2 := by rw [← hV2]; exact (Fr.alloc [] W _).al _
  have b1 : V2.heap[W.heap.size]? = some (.cells #[.int .i64 K.args, .int .i64 K.temps, .int .i64 K.stack, .slice lp K.ts.length lc, .slice pw K.ws.length cw] 25 (0, 0)) := by rw [← hV2]; exact (Fr.alloc [] _ _).hb (heap_alloc_new W _)
  have b2 : V2.heap[W.heap.size + 1]? = some (.cells #[.int .i64 K.args, .int .i64 K.temps, .int .i64 K.stack, .slice lp2 K.ts.length lc2, .slice pw2 K.ws.length cw2] 25 (0, 0)) := by
    rw [← hV2]
    have := heap_alloc_new (W.alloc (.cells #[.int .i64 K.args, .int .i64 K.temps, .int .i64 K.stack, .slice lp K.ts.length lc, .slice pw K.ws.length cw] 25)) (.cells #[.int .i64 K.args, .int .i64 K.temps, .int .i64 K.stack, .slice lp2 K.ts.length lc2, .slice pw2 K.ws.length cw2] 25)
    simpa using this
  have HB1 := mkHid b1
  have HB2 := mkHid b2
  have HF2 := mkHid f2
  have HV2 := mkHid hV2
  unfold Co.v
  clear hk hk2 hl hl2 h1 h2 h3 h4 h5 hlt hv b1 b2 f2 hV2
  go_enter Tryz.func12, Tryz.ntmps12
  go_wp2_with fail
  rw [HV2.out]
  refine (HL.out _ HF2.out).mono ?_
  rintro e w1 ⟨rfl, f1⟩
  have c1 : w1.cell? ⟨W.heap.size, 4, none⟩ = some (.slice pw K.ws.length cw) := cell_in (f1.hb HB1.out) 4
  have c2 : w1.cell? ⟨W.heap.size + 1, 4, none⟩ = some (.slice pw2 K.ws.length cw2) := cell_in (f1.hb HB2.out) 4
  have HF3 := mkHid (HF2.out.tr0 f1)
  clear f1
  go_wp2_with fail
  refine (HI.out _ HF3.out).mono ?_
  rintro e w2 ⟨rfl, f2⟩
  have HF4 := mkHid (HF3.out.tr0 f2)
  clear f2
  go_wp2_with fail
  go_ret
  exact ⟨rfl, HF4.out⟩
/-- a code without anything -/
def co0 : Co := ⟨0, 0, 0, [], []⟩
theorem co0_v : co0.v none 0 none 0 = #[.int .i64 0, .int .i64 0, .int .i64 0, .slice none 0 0, .slice none 0 0] := rfl
theorem lits0 (w : World) : LitsR w none 0 co0.ts := litsR_nil w
theorem rc0 (w : World) : Rc w none co0.ws := fun h => by cases h
theorem same0_ok (W : World) : Calls Tryz.prog 12 #[.agg #[.int .i64 0, .int .i64 0, .int .i64 0, .slice none 0 0, .slice none 0 0], .agg #[.int .i64 0, .int .i64 0, .int .i64 0, .slice none 0 0, .slice none 0 0]] W fun e w' => e = .returned (.bool true) ∧ Fr [] W w' :=
  sameCode_ok co0 co0 none none none none 0 0 0 0 W (lits0 W) (rc0 W) (lits0 W) (rc0 W) (by show (0 : Nat) ≤ _; omega) ⟨⟨rfl, rfl, rfl⟩, rfl, rfl⟩
end Go.Proofs.YtclkoffnjiiioaaGreatDoor
namespace Go.Proofs.YtclkoffnjiiioaaGreatDoor
open Go.RowKit
set_option linter.unusedVariables false
set_option linter.unusedSimpArgs false
/-- the texts of works -/
def txA : Bs := [99, 111, 100, 101, 32, 49, 32, 50, 32, 51, 10, 48, 32, 115, 101, 108, 102, 10, 49, 32, 114, 101, 116, 117, 114, 110, 10]
def txB : Bs := [99, 111, 100, 101, 32, 49, 32, 50, 32, 51, 10, 48, 32, 115, 101, 108, 102, 10, 50, 32, 114, 101, 116, 117, 114, 110, 10]
def coA : Co := ⟨1, 2, 3, [], [1, 20]⟩
theorem it0 : Lib.itoa 0 = [48] := by unfold Lib.itoa; rw [if_neg (by decide)]; exact Lib.decDigits_one (by decide)
theorem it1 : Lib.itoa 1 = [49] := by unfold Lib.itoa; rw [if_neg (by decide)]; exact Lib.decDigits_one (by decide)
theorem it2 : Lib.itoa 2 = [50] := by unfold Lib.itoa; rw [if_neg (by decide)]; exact Lib.decDigits_one (by decide)
theorem it3 : Lib.itoa 3 = [51] := by unfold Lib.itoa; rw [if_neg (by decide)]; exact Lib.decDigits_one (by decide)
theorem nums3 : numsW [1, 2, 3] = [32, 49, 32, 50, 32, 51] := by
  rw [nums_cons, nums_cons, nums_cons, it1, it2, it3]
  rfl
theorem ins0 : insL 0 1 [] = [48, 32, 115, 101, 108, 102] := by
  unfold insL
  rw [show ((0 : Nat) : Int) = 0 from rfl, it0]
  rfl
theorem ins1 : insL 1 20 [] = [49, 32, 114, 101, 116, 117, 114, 110] := by
  unfold insL
  rw [show ((1 : Nat) : Int) = 1 from rfl, it1]
  rfl
theorem lnA : lnW [1, 20] 3 0 = some (insL 0 1 [] ++ [10] ++ (insL 1 20 [] ++ [10])) := by
  have h1 : lnW [1, 20] 1 2 = some [] := rfl
  have h2 : lnW [1, 20] 2 1 = (lnW [1, 20] 1 2).map (insW 1 20 [] ++ ·) := rfl
  have h3 : lnW [1, 20] 3 0 = (lnW [1, 20] 2 1).map (insW 0 1 [] ++ ·) := rfl
  rw [h3, h2, h1]
  simp [insW_L]
theorem prA : prP coA = (0, txA) := by
  unfold prP
  rw [if_neg (show ¬ (4096 < coA.ws.length ∨ 64 < coA.ts.length) by decide), if_neg (show ¬ (gaU coA.ts 0).1 ≠ 0 from fun h => h rfl), show lnW coA.ws (coA.ws.length + 1) 0 = some (insL 0 1 [] ++ [10] ++ (insL 1 20 [] ++ [10])) from lnA]
  show (0, headW 1 2 3 ++ List.flatMap litW [] ++ (insL 0 1 [] ++ [10] ++ (insL 1 20 [] ++ [10]))) = _
  unfold headW
  rw [nums3, ins0, ins1]
  rfl
theorem rng12 : ∀ i, r64 (coA.ws.getD i 0) := fun i => by
  match i with
  | 0 => show r64 1; unfold r64; omega
  | 1 => show r64 20; unfold r64; omega
  | i + 2 => show r64 0; unfold r64; omega
theorem parA : parP txA = .inl ⟨[1, 2, 3], [], [1, 20]⟩ := by
  have := par_pr coA txA prA (fun t ht => by cases ht) rng12 ⟨by show r64 1; unfold r64; omega, by show r64 2; unfold r64; omega, by show r64 3; unfold r64; omega⟩ [] (fun b hb => by cases hb) nn_nil
  rw [List.append_nil, if_pos rfl] at this
  rw [this]
  show Sum.inl (CoS.mk [1, 2, 3] (stL []) [1, 20]) = _
  rw [stL_nil]
theorem parB : parP txB = .inr 3 := by
  have e : txB = ([99, 111, 100, 101] ++ numsW [1, 2, 3]) ++ 10 :: (insL 0 1 [] ++ 10 :: ([50, 32, 114, 101, 116, 117, 114, 110] ++ 10 :: [])) := by rw [nums3, ins0]; rfl
  have n1 : Nl ([99, 111, 100, 101] ++ numsW [1, 2, 3]) := nl_app (fun b hb => by simp at hb; rcases hb with rfl | rfl | rfl | rfl <;> decide) (nl_nums _)
  have n3 : Nl [50, 32, 114, 101, 116, 117, 114, 110] := fun b hb => by simp at hb; rcases hb with rfl | rfl | rfl | rfl | rfl | rfl | rfl | rfl <;> decide
  have hno : NoL (insL 0 1 [] ++ 10 :: ([50, 32, 114, 101, 116, 117, 114, 110] ++ 10 :: [])) := by
    rw [ins0]
    intro b hb
    have : 48 = b := by simpa using hb
    subst this
    decide
  have hi1 : insP (insL 0 1 []) 0 = some [1] := ins_W 0 1 [] (by decide) (by decide) rfl (fun n hn => by cases hn) (by decide)
  have hi2 : insP [50, 32, 114, 101, 116, 117, 114, 110] 1 = none := by
    have hn : numP [50, 32, 114, 101, 116, 117, 114, 110] = some (2, [32, 114, 101, 116, 117, 114, 110]) := by
      have := numP_itoa 2 (by unfold r64; omega) [32, 114, 101, 116, 117, 114, 110] (nn_cons (by decide))
      rw [it2] at this
      exact this
    unfold insP
    rw [hn]
    simp only
    rw [if_pos (by decide)]
  unfold parP
  rw [e, cut_app _ _ n1]
  simp only
  rw [head_W 1 2 3 (by unfold r64; omega) (by unfold r64; omega) (by unfold r64; omega)]
  simp only
  rw [lits_stop _ _ _ _ _ hno]
  simp only
  obtain ⟨f, hf⟩ : ∃ f, (insL 0 1 [] ++ 10 :: ([50, 32, 114, 101, 116, 117, 114, 110] ++ 10 :: [])).length + 1 = f + 2 := ⟨15, by rw [ins0]; rfl⟩
  rw [hf, inssP, cut_app _ _ (nl_ins 0 1 [] (by decide))]
  simp only [List.length_nil]
  rw [hi1]
  simp only [List.nil_append]
  rw [inssP, cut_app _ _ n3]
  simp only [List.length_singleton]
  rw [hi2]
  rfl
end Go.Proofs.YtclkoffnjiiioaaGreatDoor
namespace Go.Proofs.YtclkoffnjiiioaaGreatDoor
open Go.RowKit
set_option linter.unusedVariables false
set_option linter.unusedSimpArgs false
attribute [local go_sem ↓] Go.wp_at_zero Go.wp_at_succ
abbrev bsA : ByteArray := ⟨#[99, 111, 100, 101, 32, 49, 32, 50, 32, 51, 10, 48, 32, 115, 101, 108, 102, 10, 49, 32, 114, 101, 116, 117, 114, 110, 10]⟩
abbrev bsB : ByteArray := ⟨#[99, 111, 100, 101, 32, 49, 32, 50, 32, 51, 10, 48, 32, 115, 101, 108, 102, 10, 50, 32, 114, 101, 116, 117, 114, 110, 10]⟩
theorem bsA_is : bA txA = bsA := rfl
theorem bsB_is : bA txB = bsB := rfl
theorem corA (W : World) (hE : Ev W) (g : Nat) (hg : W.heap[g]? = some (.cells #[.int .i64 1, .int .i64 20] 3 (0, 0))) : CoR W coA none 0 (some ⟨g, 0, none⟩) 2 := by
  refine ⟨⟨⟨_, _, rfl, fun hp => ⟨g, 0, rfl, lt_of_heap hg, fun i hi => ?_⟩⟩, fun c hc => (by injection hc with e; cases e), by show (2 : Nat) ≤ _; omega⟩, Nat.le_refl _, litsR_nil W, fun t ht => (by cases ht), rng12, ⟨by show r64 1; unfold r64; omega, by show r64 2; unfold r64; omega, by show r64 3; unfold r64; omega⟩, hE.tb, hE.pw⟩
  rw [Nat.zero_add, cell_in hg]
  match i, hi with
  | 0, _ => rfl
  | 1, _ => rfl
  | i + 2, hi => exact absurd hi (by show ¬ i + 2 < 2; omega)
theorem rc12 (W : World) (g : Nat) (hg : W.heap[g]? = some (.cells #[.int .i64 1, .int .i64 20] 3 (0, 0))) : Rc W (some ⟨g, 0, none⟩) [1, 20] := fun _ => ⟨g, 0, rfl, fun i hi => by
  rw [Nat.zero_add, cell_in hg]
  match i, hi with
  | 0, _ => rfl
  | 1, _ => rfl
  | i + 2, hi => exact absurd hi (by show ¬ i + 2 < 2; omega)⟩
set_option maxRecDepth 100000 in
set_option maxHeartbeats 16000000 in
theorem works_ok (W : World) (hE : Ev W) (h9 : 9 ≤ W.heap.size) : Calls Tryz.prog 9 #[] W fun e w' => e = .returned (.bool true) ∧ Fr [] W w' := by
  obtain ⟨W1, hW1⟩ : ∃ V, W.alloc (.cells #[.int .i64 1, .int .i64 20] 3) = V := ⟨_, rfl⟩
  have f1 : Fr [] W W1 := by rw [← hW1]; exact Fr.alloc [] W _
  have b1 : W1.heap[W.heap.size]? = some (.cells #[.int .i64 1, .int .i64 20] 3 (0, 0)) := by rw [← hW1]; exact heap_alloc_new W _
  have HPr := mkHid (print_ok coA none 0 (some ⟨W.heap.size, 0, none⟩) 2 W1 (corA W1 (hE.fr0 f1) _ b1))
  rw [prA] at HPr
  have hv : coA.v none 0 (some ⟨W.heap.size, 0, none⟩) 2 = #[.int .i64 1, .int .i64 2, .int .i64 3, .slice none 0 0, .slice (some ⟨W.heap.size, 0, none⟩) 2 2] := rfl
  rw [hv, show (⟨(0, txA).2.toArray⟩ : ByteArray) = bsA from rfl, show ((0, txA) : Int × Bs).1 = 0 from rfl] at HPr
  have HPa : Hid (∀ V, Fr [] W V → Calls Tryz.prog 10 #[.string bsA] V fun e w' => PaR V (.inl ⟨[1, 2, 3], [], [1, 20]⟩) e w') := fun V fV => by
    have := parse_ok V (hE.fr0 fV) (Nat.le_trans h9 fV.size) txA (by decide)
    rw [parA] at this
    exact this
  have HPb : Hid (∀ V, Fr [] W V → Calls Tryz.prog 10 #[.string bsB] V fun e w' => PaR V (.inr 3) e w') := fun V fV => by
    have := parse_ok V (hE.fr0 fV) (Nat.le_trans h9 fV.size) txB (by decide)
    rw [parB] at this
    exact this
  have HNum := mkHid num_ok
  have HW1 := mkHid hW1
  have HF1 := mkHid f1
  have hAA : (bsA.toList == bsA.toList) = true := by simp
  clear hW1 f1 b1 hv hE
  go_enter Tryz.func9, Tryz.ntmps9
  go_wp2_with fail
  rw [HW1.out]
  refine HPr.out.mono ?_
  rintro e w2 ⟨rfl, f2⟩
  have HF2 := mkHid (HF1.out.tr0 f2)
  clear f2
  go_wp2_with fail
  refine (HPa.out _ HF2.out).mono ?_
  rintro e w3 ⟨f3, K, lp, lc, pw, cw, rfl, hhd, hls, hws, hcr⟩
  have HF3 := mkHid (HF2.out.tr0 f3)
  simp only [List.cons.injEq, and_true] at hhd
  obtain ⟨ha, ht, hs⟩ := hhd
  have hts : K.ts = [] := List.length_eq_zero_iff.1 (by rw [← stL_len, hls]; rfl)
  have hv : K.v lp lc pw cw = #[.int .i64 1, .int .i64 2, .int .i64 3, .slice lp 0 lc, .slice pw 2 cw] := by
    unfold Co.v
    simp only at hws
    rw [ha, ht, hs, hts, hws]
    rfl
  rw [hv]
  have hrc := (rd_rc hcr.words).1
  simp only at hws
  rw [hws] at hrc
  have HRc := mkHid hrc
  obtain ⟨W4, hW4⟩ : ∃ V, w3.alloc (.cells #[.int .i64 1, .int .i64 2, .int .i64 3, .slice lp 0 lc, .slice pw 2 cw] 25) = V := ⟨_, rfl⟩
  have f4 : Fr [] w3 W4 := by rw [← hW4]; exact Fr.alloc [] w3 _
  have b4 : W4.heap[w3.heap.size]? = some (.cells #[.int .i64 1, .int .i64 2, .int .i64 3, .slice lp 0 lc, .slice pw 2 cw] 25 (0, 0)) := by rw [← hW4]; exact heap_alloc_new w3 _
  have HW4 := mkHid hW4
  have HF4 := mkHid f4
  have HB4 := mkHid b4
  clear f3 hls hws hcr hrc ha ht hs hts hv hW4 f4 b4 HPa HPr HW1
  go_wp2_with fail
  rw [HW4.out]
  refine (HPb.out _ (HF3.out.tr0 HF4.out)).mono ?_
  rintro e w5 ⟨f5, rfl⟩
  obtain ⟨W6, hW6⟩ : ∃ V, w5.alloc (.cells #[.int .i64 0, .int .i64 0, .int .i64 0, .slice none 0 0, .slice none 0 0] 25) = V := ⟨_, rfl⟩
  have f6 : Fr [] w5 W6 := by rw [← hW6]; exact Fr.alloc [] w5 _
  have F46 : Fr [] w3 W6 := HF4.out.tr0 (f5.tr0 f6)
  have b6 : W6.heap[w3.heap.size]? = some (.cells #[.int .i64 1, .int .i64 2, .int .i64 3, .slice lp 0 lc, .slice pw 2 cw] 25 (0, 0)) := (f5.tr0 f6).hb HB4.out
  have c1 : ∀ o, (W6.alloc o).cell? ⟨w3.heap.size, 1, none⟩ = some (.int .i64 2) := fun o => cell_in ((Fr.alloc [] W6 o).hb b6) 1
  have d1 : W6.cell? ⟨w3.heap.size, 1, none⟩ = some (.int .i64 2) := cell_in b6 1
  have d4 : W6.cell? ⟨w3.heap.size, 4, none⟩ = some (.slice pw 2 cw) := cell_in b6 4
  obtain ⟨W7, hW7⟩ : ∃ V, W6.alloc (.cells #[.int .i64 1, .int .i64 20] 3) = V := ⟨_, rfl⟩
  have f7 : Fr [] W6 W7 := by rw [← hW7]; exact Fr.alloc [] W6 _
  have b7 : W7.heap[W6.heap.size]? = some (.cells #[.int .i64 1, .int .i64 20] 3 (0, 0)) := by rw [← hW7]; exact heap_alloc_new W6 _
  have HS : Hid (Calls Tryz.prog 22 #[.slice pw 2 cw, .slice (some ⟨W6.heap.size, 0, none⟩) 2 2] W7 fun e w' => e = .returned (.bool true) ∧ Fr [] W7 w') := same_is [1, 20] 2 rfl (by decide) pw (some ⟨W6.heap.size, 0, none⟩) cw 2 W7 (fun hp => by obtain ⟨g, off, e, hc⟩ := HRc.out hp; exact ⟨g, off, e, fun i hi => (F46.tr0 f7).cl (hc i hi)⟩) (rc12 W7 _ b7)
  have HW6 := mkHid hW6
  have HW7 := mkHid hW7
  have HFin : Hid (Fr [] W W7) := HF3.out.tr0 (F46.tr0 f7)
  have hs6 : W6.heap.size = w5.heap.size + 1 := by rw [← hW6]; simp
  rw [hs6] at HS
  have e1 : ∀ o, (w5.alloc o).cell? ⟨w3.heap.size, 1, none⟩ = some (.int .i64 2) := fun o => cell_in ((f5.tr0 (Fr.alloc [] w5 o)).hb HB4.out) 1
  have e4 : ∀ o, (w5.alloc o).cell? ⟨w3.heap.size, 4, none⟩ = some (.slice pw 2 cw) := fun o => cell_in ((f5.tr0 (Fr.alloc [] w5 o)).hb HB4.out) 4
  clear f5 f6 F46 b6 f7 b7 HPb HW4 c1 hW6 hW7 hs6 d1 d4
  go_wp2_with (first
    | (go_at_call 8; refine (HNum.out _ _).mono ?_; rintro e w8 ⟨rfl, rfl⟩))
  rw [HW6.out, HW7.out]
  refine HS.out.mono ?_
  rintro e w9 ⟨rfl, f9⟩
  have HF9 := mkHid (HFin.out.tr0 f9)
  clear f9
  go_wp2_with (first
    | (go_at_call 8; refine (HNum.out _ _).mono ?_; rintro e w8 ⟨rfl, rfl⟩))
  go_ret
  exact ⟨rfl, HF9.out⟩
end Go.Proofs.YtclkoffnjiiioaaGreatDoor
