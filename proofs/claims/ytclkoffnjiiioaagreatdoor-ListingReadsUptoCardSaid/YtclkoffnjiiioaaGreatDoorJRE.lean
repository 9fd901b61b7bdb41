import Derived.Test.YtclkoffnjiiioaaGreatDoorJRD
import Derived.Test.YtclkoffnjiiioaaGreatDoorJSm2
namespace Go.Proofs.YtclkoffnjiiioaaGreatDoor
open Go.RowKit
set_option linter.unusedVariables false
set_option linter.unusedSimpArgs false
attribute [local go_sem ↓] Go.wp_at_zero Go.wp_at_succ
/-- how long the line ahead is -/
def lnN (t : Bs) (a : Nat) : Nat := ((t.drop a).takeWhile (· != 10)).length
theorem ln_at (t : Bs) (a j : Nat) (hj : j < lnN t a) : ∃ b, t[a + j]? = some b ∧ ((b.toNat : Int) != 10) = true := by
  obtain ⟨b, h1, h2⟩ := (tw_get (p := (· != 10)) (t.drop a)).1 j hj
  rw [List.getElem?_drop] at h1
  refine ⟨b, h1, ?_⟩
  have hb : b ≠ 10 := by simpa using h2
  have : ¬ (b.toNat : Int) = 10 := fun e => hb (UInt8.toNat_inj.1 (show b.toNat = 10 by omega))
  simpa using this
theorem lq_le (t : Bs) (a : Nat) (h : a ≤ t.length) : a + lnN t a ≤ t.length := by
  unfold lnN
  have := (List.takeWhile_prefix (l := t.drop a) (· != 10)).length_le
  rw [List.length_drop] at this
  omega
/-- the line ahead has no end, or it is cut there -/
theorem ln_cut (t : Bs) (a : Nat) (h : a ≤ t.length) : (a + lnN t a = t.length ∧ cutP (t.drop a) = none) ∨ (a + lnN t a < t.length ∧ (∃ b, t[a + lnN t a]? = some b ∧ ((b.toNat : Int) != 10) = false) ∧ cutP (t.drop a) = some ((t.drop a).take (lnN t a), t.drop (a + lnN t a + 1))) := by
  have hw := List.takeWhile_append_dropWhile (p := (· != 10)) (l := t.drop a)
  have hnl : Nl ((t.drop a).takeWhile (· != 10)) := fun b hb => by
    have := List.all_eq_true.1 (List.all_takeWhile (p := (· != 10)) (l := t.drop a)) b hb
    simpa using this
  rcases (tw_get (p := (· != 10)) (t.drop a)).2 with e | ⟨b, e1, e2⟩
  · left
    rw [List.length_drop] at e
    refine ⟨by unfold lnN; omega, ?_⟩
    cases hc : cutP (t.drop a) with
    | none => rfl
    | some p =>
      obtain ⟨l, b⟩ := p
      have hs := (cut_some hc).1
      exfalso
      have hd : (t.drop a).dropWhile (· != 10) = [] := by
        have := congrArg List.length hw
        rw [List.length_append, List.length_drop] at this
        exact List.eq_nil_of_length_eq_zero (by omega)
      rw [hd, List.append_nil] at hw
      have hm : (10 : UInt8) ∈ (t.drop a).takeWhile (· != 10) := by rw [hw, hs]; simp
      exact hnl 10 hm rfl
  · right
    rw [List.getElem?_drop] at e1
    have hlt := (List.getElem?_eq_some_iff.1 e1).1
    have hb : b = 10 := by simpa using e2
    refine ⟨hlt, ⟨b, e1, by rw [hb]; rfl⟩, ?_⟩
    have hd : t.drop (a + lnN t a) = 10 :: t.drop (a + lnN t a + 1) := by
      rw [List.drop_eq_getElem_cons (show a + lnN t a < t.length from hlt)]
      congr 1
      have h5 := (List.getElem?_eq_some_iff.1 e1).2
      exact h5.trans hb
    have ht : t.drop a = (t.drop a).take (lnN t a) ++ 10 :: t.drop (a + lnN t a + 1) := by
      rw [← hd, ← List.drop_drop]
      exact (List.take_append_drop _ _).symm
    have htk : (t.drop a).take (lnN t a) = (t.drop a).takeWhile (· != 10) := by
      unfold lnN
      conv => lhs; arg 2; rw [← hw]
      exact List.take_left
    conv => lhs; rw [ht]
    refine cut_app _ _ ?_
    rw [htk]
    exact hnl
/-- the document's Parse under way -/
def PS (W : World) (g2 g5 x B : Nat) (t : Bs) (R : CoS ⊕ Nat) (st n a : Nat) (wr : World) : Prop :=
  ∃ (K : Co) (lp : Option Addr) (lc : Nat) (pw : Option Addr) (cw : Nat) (els f : Nat), wr.heap[g2]? = some z25 ∧ wr.heap[g5]? = some (.cells (K.v lp lc pw cw) 25 (0, 0)) ∧ CdR B x wr K lp lc pw cw els ∧ Fr [] W wr ∧ loopQ f (t.drop a) st (hdK K) (stL K.ts) K.ws els n = R ∧ (t.drop a).length < f
/-- what the document's Parse answers -/
def PaD (W : World) (R : CoS ⊕ Nat) (e : Ending) (w' : World) : Prop :=
  Fr [] W w' ∧ match R with
  | .inl c => ∃ (K : Co) (lp : Option Addr) (lc : Nat) (pw : Option Addr) (cw : Nat), e = .returned (.tuple #[.agg (K.v lp lc pw cw), .int .i64 0, .int .i64 0]) ∧ hdK K = c.hd ∧ stL K.ts = c.ls ∧ K.ws = c.ws ∧ LitsX w' (fun g => W.heap.size ≤ g) lp lc K.ts ∧ w'.ownsRow W.heap.size 3 1 (.slice pw K.ws.length cw) K.ws.length (K.ws.map (Value.int .i64))
  | .inr n => e = .returned (.tuple #[.agg #[.int .i64 0, .int .i64 0, .int .i64 0, .slice none 0 0, .slice none 0 0], .int .i64 (n : Int), .int .i64 120])
theorem loop_hd (t : Bs) : loopQ (t.length + 1) t 0 (hdK co0) (stL co0.ts) co0.ws 0 0 = loopQ (t.length + 1) t 0 [] [] [] 0 0 := by
  have e : stL co0.ts = [] := stL_nil
  rw [e]
  rw [loopQ, loopQ]
  by_cases ht : t = []
  · rw [if_pos ht, if_pos ht]; rfl
  · rw [if_neg ht, if_neg ht]
    cases cutP t with
    | none => rfl
    | some p =>
      obtain ⟨l, b⟩ := p
      simp only
      rw [if_pos trivial, if_pos trivial]
      cases headD l <;> rfl
set_option maxRecDepth 100000 in
set_option maxHeartbeats 32000000 in
/-- the document's Parse -/
theorem rparse_ok (W : World) (hE : Ev W) (h9 : 9 ≤ W.heap.size) (t : Bs) (ht : t.length ≤ 1100000) : Calls Tryz.prog 13 #[.string (bA t)] W fun e w' => PaD W (parQ t) e w' := by
  obtain ⟨R, hR⟩ : ∃ R, R = parQ t := ⟨_, rfl⟩
  rw [← hR]
  obtain ⟨W3, hW3⟩ : ∃ V, ((W.alloc (.cells #[.int .i64 0, .int .i64 0, .int .i64 0, .slice none 0 0, .slice none 0 0] 25)).alloc (.cells #[.int .i64 0, .int .i64 0, .int .i64 0, .slice none 0 0, .slice none 0 0] 25)).alloc (.cells #[.int .i64 0, .int .i64 0] 70) = V := ⟨_, rfl⟩
  obtain ⟨g2, hg2⟩ : ∃ g, g = W.heap.size := ⟨_, rfl⟩
  obtain ⟨g5, hg5⟩ : ∃ g, g = W.heap.size + 1 := ⟨_, rfl⟩
  obtain ⟨x, hx⟩ : ∃ g, g = W.heap.size + 2 := ⟨_, rfl⟩
  obtain ⟨B, hB⟩ : ∃ g, g = W.heap.size + 3 := ⟨_, rfl⟩
  have hbeg : W3.heap[g2]? = some z25 ∧ W3.heap[g5]? = some z25 ∧ W3.heap[x]? = some (.cells (wkc 0 0) 70 (0, 0)) ∧ Fr [] W W3 ∧ W3.heap.size = B := by
    rw [← hW3, hg2, hg5, hx, hB]
    have f1 : Fr [] W (W.alloc (.cells #[.int .i64 0, .int .i64 0, .int .i64 0, .slice none 0 0, .slice none 0 0] 25)) := Fr.alloc [] W _
    have s1 : (W.alloc (.cells #[.int .i64 0, .int .i64 0, .int .i64 0, .slice none 0 0, .slice none 0 0] 25)).heap.size = W.heap.size + 1 := by simp
    have b1 : (W.alloc (.cells #[.int .i64 0, .int .i64 0, .int .i64 0, .slice none 0 0, .slice none 0 0] 25)).heap[W.heap.size]? = some z25 := heap_alloc_new W _
    generalize W.alloc (.cells #[.int .i64 0, .int .i64 0, .int .i64 0, .slice none 0 0, .slice none 0 0] 25) = W1 at *
    have f2 : Fr [] W1 (W1.alloc (.cells #[.int .i64 0, .int .i64 0, .int .i64 0, .slice none 0 0, .slice none 0 0] 25)) := Fr.alloc [] W1 _
    have s2 : (W1.alloc (.cells #[.int .i64 0, .int .i64 0, .int .i64 0, .slice none 0 0, .slice none 0 0] 25)).heap.size = W.heap.size + 2 := by simp [s1]
    have b2 : (W1.alloc (.cells #[.int .i64 0, .int .i64 0, .int .i64 0, .slice none 0 0, .slice none 0 0] 25)).heap[W.heap.size + 1]? = some z25 := by rw [← s1]; exact heap_alloc_new W1 _
    generalize W1.alloc (.cells #[.int .i64 0, .int .i64 0, .int .i64 0, .slice none 0 0, .slice none 0 0] 25) = W2 at *
    have f3 : Fr [] W2 (W2.alloc (.cells #[.int .i64 0, .int .i64 0] 70)) := Fr.alloc [] W2 _
    have s3 : (W2.alloc (.cells #[.int .i64 0, .int .i64 0] 70)).heap.size = W.heap.size + 3 := by simp [s2]
    have b3 : (W2.alloc (.cells #[.int .i64 0, .int .i64 0] 70)).heap[W.heap.size + 2]? = some (.cells (wkc 0 0) 70 (0, 0)) := by rw [← s2]; exact heap_alloc_new W2 _
    exact ⟨f3.hb (f2.hb b1), f3.hb b2, b3, (f1.tr0 f2).tr0 f3, s3⟩
  obtain ⟨hb2, hb5, hbx, hf3, hs3⟩ := hbeg
  have HS : Hid (PS W g2 g5 x B t R 0 0 0 W3) := by
    refine ⟨co0, none, 0, none, 0, 0, t.length + 1, hb2, hb5, ⟨TR.nil _ _, ⟨rfl, .inl ⟨rfl, rfl⟩⟩, hbx, by decide, by decide, by decide⟩, hf3, ?_, by rw [List.drop_zero]; omega⟩
    rw [hR, List.drop_zero]
    unfold parQ
    exact loop_hd t
  have HG : Hid (g2 = W.heap.size ∧ g5 = W.heap.size + 1 ∧ x = W.heap.size + 2 ∧ B = W.heap.size + 3) := ⟨hg2, hg5, hx, hB⟩
  have n1 : g2 ≠ g5 := by omega
  have n2 : x ≠ g5 := by omega
  have n3 : x ≠ g2 := by omega
  have HB : Hid (g2 < B ∧ g5 < B ∧ x < B ∧ 9 ≤ B ∧ W.heap.size ≤ g2 ∧ W.heap.size ≤ g5 ∧ W.heap.size ≤ x) := ⟨by omega, by omega, by omega, by omega, by omega, by omega, by omega⟩
  have HE : Hid (∀ V, Fr [] W V → Ev V) := fun V fV => hE.fr0 fV
  have HW3 := mkHid hW3
  have hss : (bA t).size = t.length := bA_size t
  have HNo : Hid (∀ (V : World) (n : Nat), V.heap[g2]? = some z25 → Fr [] W V → R = .inr n → PaD W R (.returned (.tuple #[.agg #[.int .i64 0, .int .i64 0, .int .i64 0, .slice none 0 0, .slice none 0 0], .int .i64 (n : Int), .int .i64 120])) (st5 V g2 (.int .i64 0) (.int .i64 0) (.int .i64 0) (.slice none 0 0) (.slice none 0 0)) ∧ (st5 V g2 (.int .i64 0) (.int .i64 0) (.int .i64 0) (.slice none 0 0) (.slice none 0 0)).heap[g2]? = some (.cells #[.int .i64 0, .int .i64 0, .int .i64 0, .slice none 0 0, .slice none 0 0] 25 (0, 0))) := fun V n hV fV hr => by
    obtain ⟨b5, f5⟩ := st5_ok (.int .i64 0) (.int .i64 0) (.int .i64 0) (.slice none 0 0) (.slice none 0 0) hV
    refine ⟨⟨fV.trans f5 (fun b hb => .inr (by simp at hb; rw [hb]; exact HB.out.2.2.2.2.1)), ?_⟩, b5⟩
    rw [hr]
  clear hb2 hb5 hbx hf3 hs3 hg2 hg5 hx hB hW3 hE h9 hR
  go_enter Tryz.func13, Tryz.ntmps13
  go_wp2_with fail
  rw [HW3.out, ← HG.out.2.2.1, ← HG.out.2.1, ← HG.out.1]
  go_loopw [7, 8, 9] (fun s q v wr => ∃ st n a : Nat, st ≤ 2 ∧ n ≤ a ∧ a ≤ t.length ∧ s = .int .i64 (st : Int) ∧ q = .int .i64 (n : Int) ∧ v = .int .i64 (a : Int) ∧ Hid (PS W g2 g5 x B t R st n a wr)) (fun _ _ v _ => t.length - (intOf v).toNat)
  case atStart => exact ⟨0, 0, 0, by omega, by omega, by omega, rfl, rfl, rfl, HS.out⟩
  case round =>
    clear HS
    obtain ⟨st, n, a, hst, hna, hat, rfl, rfl, rfl, hps⟩ := hrel
    obtain ⟨K, lp, lc, pw, cw, els, f, hb2, hb5, hcd, hfr, hq, hfl⟩ := hps.out
    clear hps
    have a0 : (0 : Int) ≤ (a : Int) := by omega
    by_cases hlt : a < t.length
    · have q1 : decide ((a : Int) < (t.length : Int)) = true := decide_eq_true (by omega)
      have q2 : (a : Int) < (t.length : Int) := by omega
      obtain ⟨n1', hn1'⟩ : ∃ q, q = n + 1 := ⟨_, rfl⟩
      have hwn : IntKind.i64.wrap ((n : Int) + 1) = (n1' : Int) := by rw [iwrap_id (by omega) (by omega)]; omega
      have hne : t.drop a ≠ [] := fun e => by have := congrArg List.length e; rw [List.length_drop] at this; simp at this; omega
      cases f with
      | zero => omega
      | succ f =>
      rw [loop_step f (t.drop a) st _ _ _ _ _ hne] at hq
      have hcut := ln_cut t a hat
      have hll := lq_le t a hat
      have HLn : Hid (∀ j, j < lnN t a → ∃ b, t[a + j]? = some b ∧ ((b.toNat : Int) != 10) = true) := fun j hj => ln_at t a j hj
      obtain ⟨en, hen⟩ : ∃ q, q = a + lnN t a := ⟨_, rfl⟩
      have HEn := mkHid hen
      rw [← hen] at hcut hll
      have HCut := mkHid hcut
      have HQ := mkHid hq
      have HP : Hid (wr.heap[g2]? = some z25 ∧ wr.heap[g5]? = some (.cells (K.v lp lc pw cw) 25 (0, 0)) ∧ CdR B x wr K lp lc pw cw els ∧ Fr [] W wr) := ⟨hb2, hb5, hcd, hfr⟩
      have HNa : Hid (n ≤ a ∧ n1' = n + 1 ∧ (t.drop a).length < f + 1 ∧ st ≤ 2) := ⟨hna, hn1', hfl, hst⟩
      have hae : a ≤ en := by omega
      clear hcut hq hb2 hb5 hcd hfr hen hna hn1' hfl hne hat hlt hst
      obtain ⟨U, hU⟩ : ∃ U, U = wr := ⟨_, rfl⟩
      rw [← hU] at HP ⊢
      clear hU
      go_wp2_with fail
      go_loopw [10] (fun v ur => U = ur ∧ ∃ e : Nat, a ≤ e ∧ e ≤ en ∧ v = .int .i64 (e : Int)) (fun v _ => t.length - (intOf v).toNat)
      case atStart => exact ⟨rfl, a, Nat.le_refl _, hae, rfl⟩
      case round =>
        obtain ⟨rfl, e, hea, hee, rfl⟩ := hrel
        have e0 : (0 : Int) ≤ (e : Int) := by omega
        by_cases hl2 : e < en
        · obtain ⟨b, hb, hnb⟩ := HLn.out (e - a) (by have := HEn.out; omega)
          rw [show a + (e - a) = e by omega] at hb
          obtain ⟨hi, hbb⟩ := byte_at t e b hb
          have j1 : (e : Int) < (t.length : Int) := by omega
          have j2 : decide ((e : Int) < (t.length : Int)) = true := decide_eq_true j1
          obtain ⟨en2, hen2⟩ : ∃ q, q = e + 1 := ⟨_, rfl⟩
          have hwe : IntKind.i64.wrap ((e : Int) + 1) = (en2 : Int) := by rw [iwrap_id (by omega) (by omega)]; omega
          have HE2 : Hid (en2 = e + 1 ∧ e < en ∧ a ≤ e ∧ e < t.length) := ⟨hen2, hl2, hea, by omega⟩
          clear hb hen2 hl2 hea hee
          go_wp2_with fail
          go_roundw
          case rel => exact ⟨trivial, en2, by have := HE2.out; omega, by have := HE2.out; omega, rfl⟩
          case measure => have := HE2.out; simp [intOf]; omega
        · have hee2 : e = en := by omega
          subst hee2
          clear hl2 hea hee HLn
          rcases HCut.out with ⟨c1, c2⟩ | ⟨c1, ⟨b, c2, c3⟩, c4⟩
          · have j1 : ¬ (e : Int) < (t.length : Int) := by omega
            have j2 : decide ((e : Int) < (t.length : Int)) = false := decide_eq_false j1
            have j4 : (e : Int) = (t.length : Int) := by omega
            have j3 : ((e : Int) == (t.length : Int)) = true := by simpa using j4
            have j5 : ¬ e < t.length := by omega
            have hq := HQ.out
            rw [c2] at hq
            simp only at hq
            have HFin := mkHid (HNo.out U n1' HP.out.1 HP.out.2.2.2 (by rw [← hq, HNa.out.2.1]))
            have e0 : U.cell? ⟨g2, 0, none⟩ = some (.int .i64 0) := cell_in HP.out.1 0
            have e1 : U.cell? ⟨g2, 1, none⟩ = some (.int .i64 0) := cell_in HP.out.1 1
            have e2 : U.cell? ⟨g2, 2, none⟩ = some (.int .i64 0) := cell_in HP.out.1 2
            have e3 : U.cell? ⟨g2, 3, none⟩ = some (.slice none 0 0) := cell_in HP.out.1 3
            have e4 : U.cell? ⟨g2, 4, none⟩ = some (.slice none 0 0) := cell_in HP.out.1 4
            have y0 := frozen_in HP.out.1 0
            have y1 := frozen_in HP.out.1 1
            have y2 := frozen_in HP.out.1 2
            have y3 := frozen_in HP.out.1 3
            have y4 := frozen_in HP.out.1 4
            clear hq c1 c2 j4 HQ HCut HNo
            go_wp2_with fail
            exact ret25 Tryz.results13 HFin.out.2 rfl rfl rfl HFin.out.1
          · obtain ⟨hi, hbb⟩ := byte_at t e b c2
            have j1 : (e : Int) < (t.length : Int) := by omega
            have j2 : decide ((e : Int) < (t.length : Int)) = true := decide_eq_true j1
            have j4 : ¬ (e : Int) = (t.length : Int) := by omega
            have j3 : ((e : Int) == (t.length : Int)) = false := by simpa using j4
            have ja : (a : Int) ≤ (e : Int) := by omega
            have jb : (e : Int) ≤ (t.length : Int) := by omega
            obtain ⟨l, hl⟩ : ∃ l, l = (t.drop a).take (e - a) := ⟨_, rfl⟩
            have hex : (bA t).extract a e = bA l := by rw [ext_is t a e hae (by omega), hl]
            have hll2 : l.length ≤ 1100000 := by rw [hl, List.length_take, List.length_drop]; omega
            have hq := HQ.out
            rw [c4, show lnN t a = e - a by have := HEn.out; omega, ← hl] at hq
            simp only at hq
            obtain ⟨en2, hen2⟩ : ∃ q, q = e + 1 := ⟨_, rfl⟩
            have hwe : IntKind.i64.wrap ((e : Int) + 1) = (en2 : Int) := by rw [iwrap_id (by omega) (by omega)]; omega
            have HE2 : Hid (en2 = e + 1 ∧ a ≤ e ∧ e < t.length) := ⟨hen2, hae, c1⟩
            rw [← hen2] at hq
            have HQ2 := mkHid hq
            have hsB := HP.out.2.2.1
            have HLine : Hid (∀ V, Fr [] U V → Calls Tryz.prog 25 #[.agg (K.v lp lc pw cw), .pointer (some ⟨x, 0, none⟩), .int .i64 (st : Int), .string (bA l)] V fun e w' => LnD V B x K lp pw st els l e w') := fun V fV => by
              have hcd := HP.out.2.2.1
              have hx := lt_of_heap hcd.wk
              have hfv := HP.out.2.2.2.tr0 fV
              have hsz := hfv.size
              have hB := HB.out
              have hG := HG.out
              have hBs : B ≤ U.heap.size := by omega
              have hus := fV.size
              exact line_all V (HE.out V hfv) (by omega) B (by omega) (by omega) x (by omega) K lp lc pw cw els st HNa.out.2.2.2 l hll2 ⟨hcd.tr.keep fV (by simp), own_congr hcd.row (fun g hg => fV.block g (own_lt hcd.row g hg).2 (by simp)), fV.hb hcd.wk, hcd.tl, hcd.wl, hcd.nl⟩
            have hkv : K.v lp lc pw cw = #[.int .i64 K.args, .int .i64 K.temps, .int .i64 K.stack, .slice lp K.ts.length lc, .slice pw K.ws.length cw] := rfl
            rw [hkv] at HLine
            have HC : Hid (U.drew.cell? ⟨g5, 0, none⟩ = some (.int .i64 K.args) ∧ U.drew.cell? ⟨g5, 1, none⟩ = some (.int .i64 K.temps) ∧ U.drew.cell? ⟨g5, 2, none⟩ = some (.int .i64 K.stack) ∧ U.drew.cell? ⟨g5, 3, none⟩ = some (.slice lp K.ts.length lc) ∧ U.drew.cell? ⟨g5, 4, none⟩ = some (.slice pw K.ws.length cw)) := ⟨cell_in HP.out.2.1 0, cell_in HP.out.2.1 1, cell_in HP.out.2.1 2, cell_in HP.out.2.1 3, cell_in HP.out.2.1 4⟩
            have HStN : Hid (stN st l ≤ 2) := by show stN st l ≤ 2; unfold stN; split; omega; split; omega; omega
            clear hq hl hen2 hll2 c1 c2 c4 hsB hkv HQ HCut HEn j4
            skip
            go_wp2_with fail
            refine wp_region_h (S := fun _ => True) (by kernel_rfl) trivial (fun hHeld => ?_)
            refine wpAnyH_take (i := 1) (v := ?_) rfl (by kernel_rfl) (by kernel_rfl) (by kernel_rfl) (fun _ _ _ h => h) (Or.inl ⟨by rfl, ?_⟩) (by assumption) ?_
            rotate_left
            · (intro w hSw; (try dsimp only at hSw); first | (go_simp; done) | (go_simp; with_reducible rfl))
            try simp only [Act.put, qT, qZ, qS, qB, qY, qX]
            refine wpAnyH_take (i := 2) (v := ?_) rfl (by kernel_rfl) (by kernel_rfl) (by kernel_rfl) (fun _ _ _ h => h) (Or.inl ⟨by rfl, ?_⟩) (by assumption) ?_
            rotate_left
            · (intro w hSw; (try dsimp only at hSw); first | (go_simp; done) | (go_simp; with_reducible rfl))
            try simp only [Act.put, qT, qZ, qS, qB, qY, qX]
            refine wpAnyH_take (i := 3) (v := ?_) rfl (by kernel_rfl) (by kernel_rfl) (by kernel_rfl) (fun _ _ _ h => h) (Or.inl ⟨by rfl, ?_⟩) (by assumption) ?_
            rotate_left
            · (intro w hSw; (try dsimp only at hSw); first | (go_simp; done) | (go_simp; with_reducible rfl))
            try simp only [Act.put, qT, qZ, qS, qB, qY, qX]
            refine wpAnyH_take (i := 4) (v := ?_) rfl (by kernel_rfl) (by kernel_rfl) (by kernel_rfl) (fun _ _ _ h => h) (Or.inl ⟨by rfl, ?_⟩) (by assumption) ?_
            rotate_left
            · (intro w hSw; (try dsimp only at hSw); first | (go_simp; done) | (go_simp; with_reducible rfl))
            try simp only [Act.put, qT, qZ, qS, qB, qY, qX]
            refine wpAnyH_take (i := 5) (v := ?_) rfl (by kernel_rfl) (by kernel_rfl) (by kernel_rfl) (fun _ _ _ h => h) (Or.inl ⟨by rfl, ?_⟩) (by assumption) ?_
            rotate_left
            · (intro w hSw; (try dsimp only at hSw); first | (go_simp; done) | (go_simp; with_reducible rfl))
            try simp only [Act.put, qT, qZ, qS, qB, qY, qX]
            refine wpAnyH_take (i := 6) (v := ?_) rfl (by kernel_rfl) (by kernel_rfl) (by kernel_rfl) (fun _ _ _ h => h) (Or.inl ⟨by rfl, ?_⟩) (by assumption) ?_
            rotate_left
            · (intro w hSw; (try dsimp only at hSw); first | (go_simp; done) | (go_simp; with_reducible rfl))
            try simp only [Act.put, qT, qZ, qS, qB, qY, qX]
            have d0 : U.cell? ⟨g5, 0, none⟩ = some (.int .i64 K.args) := cell_in HP.out.2.1 0
            have d1 : U.cell? ⟨g5, 1, none⟩ = some (.int .i64 K.temps) := cell_in HP.out.2.1 1
            have d2 : U.cell? ⟨g5, 2, none⟩ = some (.int .i64 K.stack) := cell_in HP.out.2.1 2
            have d3 : U.cell? ⟨g5, 3, none⟩ = some (.slice lp K.ts.length lc) := cell_in HP.out.2.1 3
            have d4 : U.cell? ⟨g5, 4, none⟩ = some (.slice pw K.ws.length cw) := cell_in HP.out.2.1 4
            refine wpH_one (i := 0) (by kernel_rfl) rfl (fun K0 hK => ?_)
            go_simp
            refine hK.out _ _ trivial (fun hHeld => ?_)
            clear hK K0 d0 d1 d2 d3 d4
            try simp only [Act.put, qT, qZ, qS, qB, qY, qX]
            try rw [hex]
            refine wpH_one (i := 7) (by kernel_rfl) rfl (fun K0 hK => ?_)
            go_simp
            try rw [hex]
            refine (HLine.out U.drew (Fr.drew [] U)).mono ?_
            rintro e4 w4 ⟨K2, lp2, lc2, pw2, cw2, ok, n2', rfl, f4, hcd2, hln⟩
            have hF4 : Fr [] W w4 := (HP.out.2.2.2.tr0 (Fr.drew [] U)).trans f4 (fun g hg => .inr (by
              have hB := HB.out
              rcases List.mem_cons.1 hg with q | q
              · omega
              · rcases List.mem_append.1 q with q | q
                · have := (HP.out.2.2.1.tr.blk g q).1; omega
                · have := (own_lt HP.out.2.2.1.row g ((blk_own _ _ _ _).2 q)).1; omega))
            have hnot : ∀ g, g < B → g ≠ x → g ∉ x :: (blk lp ++ blk pw) := fun g h1 h2 hm => by
              rcases List.mem_cons.1 hm with q | q
              · exact h2 q
              · rcases List.mem_append.1 q with q | q
                · have := (HP.out.2.2.1.tr.blk g q).1; omega
                · have := (own_lt HP.out.2.2.1.row g ((blk_own _ _ _ _).2 q)).1; omega
            have h42 := (f4.block g2 (lt_of_heap HP.out.1) (hnot g2 HB.out.1 (fun e => n3 e.symm))).trans HP.out.1
            have h45 := (f4.block g5 (lt_of_heap HP.out.2.1) (hnot g5 HB.out.2.1 (fun e => n2 e.symm))).trans HP.out.2.1
            have d0 : w4.cell? ⟨g5, 0, none⟩ = some (.int .i64 K.args) := cell_in h45 0
            have d1 : w4.cell? ⟨g5, 1, none⟩ = some (.int .i64 K.temps) := cell_in h45 1
            have d2 : w4.cell? ⟨g5, 2, none⟩ = some (.int .i64 K.stack) := cell_in h45 2
            have d3 : w4.cell? ⟨g5, 3, none⟩ = some (.slice lp K.ts.length lc) := cell_in h45 3
            have d4 : w4.cell? ⟨g5, 4, none⟩ = some (.slice pw K.ws.length cw) := cell_in h45 4
            have y0 := frozen_in h45 0
            have y1 := frozen_in h45 1
            have y2 := frozen_in h45 2
            have y3 := frozen_in h45 3
            have y4 := frozen_in h45 4
            have hkv2 : K2.v lp2 lc2 pw2 cw2 = #[.int .i64 K2.args, .int .i64 K2.temps, .int .i64 K2.stack, .slice lp2 K2.ts.length lc2, .slice pw2 K2.ws.length cw2] := rfl
            rw [hkv2]
            obtain ⟨b5, f5⟩ := st5_ok (.int .i64 K2.args) (.int .i64 K2.temps) (.int .i64 K2.stack) (.slice lp2 K2.ts.length lc2) (.slice pw2 K2.ws.length cw2) h45
            have HD4 : Hid ((st5 w4 g5 (.int .i64 K2.args) (.int .i64 K2.temps) (.int .i64 K2.stack) (.slice lp2 K2.ts.length lc2) (.slice pw2 K2.ws.length cw2)).heap[g2]? = some z25 ∧ (st5 w4 g5 (.int .i64 K2.args) (.int .i64 K2.temps) (.int .i64 K2.stack) (.slice lp2 K2.ts.length lc2) (.slice pw2 K2.ws.length cw2)).heap[g5]? = some (.cells #[.int .i64 K2.args, .int .i64 K2.temps, .int .i64 K2.stack, .slice lp2 K2.ts.length lc2, .slice pw2 K2.ws.length cw2] 25 (0, 0)) ∧ Fr [] W (st5 w4 g5 (.int .i64 K2.args) (.int .i64 K2.temps) (.int .i64 K2.stack) (.slice lp2 K2.ts.length lc2) (.slice pw2 K2.ws.length cw2)) ∧ Fr [g5] w4 (st5 w4 g5 (.int .i64 K2.args) (.int .i64 K2.temps) (.int .i64 K2.stack) (.slice lp2 K2.ts.length lc2) (.slice pw2 K2.ws.length cw2))) := ⟨(f5.block g2 (lt_of_heap h42) (by simpa using n1)).trans h42, b5, hF4.trans f5 (fun b hb => .inr (by simp at hb; rw [hb]; exact HB.out.2.2.2.2.2.1)), f5⟩
            have HCd := mkHid hcd2
            have HLn2 := mkHid hln
            clear hcd2 hln hkv2 b5 f5 f4 hF4 hnot h42 h45
            try go_wp2_with fail
            refine hK.out _ _ trivial (fun hHeld => ?_)
            clear hK K0
            try simp only [Act.put, qT, qZ, qS, qB, qY, qX]
            refine wpAnyH_take (i := 8) (v := ?_) rfl (by kernel_rfl) (by kernel_rfl) (by kernel_rfl) (fun _ _ _ h => h) (Or.inl ⟨by rfl, ?_⟩) (by assumption) ?_
            rotate_left
            · (intro w hSw; (try dsimp only at hSw); first | (go_simp; done) | (go_simp; with_reducible rfl))
            try simp only [Act.put, qT, qZ, qS, qB, qY, qX]
            refine wpAnyH_take (i := 9) (v := ?_) rfl (by kernel_rfl) (by kernel_rfl) (by kernel_rfl) (fun _ _ _ h => h) (Or.inl ⟨by rfl, ?_⟩) (by assumption) ?_
            rotate_left
            · (intro w hSw; (try dsimp only at hSw); first | (go_simp; done) | (go_simp; with_reducible rfl))
            try simp only [Act.put, qT, qZ, qS, qB, qY, qX]
            refine wpAnyH_take (i := 10) (v := ?_) rfl (by kernel_rfl) (by kernel_rfl) (by kernel_rfl) (fun _ _ _ h => h) (Or.inl ⟨by rfl, ?_⟩) (by assumption) ?_
            rotate_left
            · (intro w hSw; (try dsimp only at hSw); first | (go_simp; done) | (go_simp; with_reducible rfl))
            try simp only [Act.put, qT, qZ, qS, qB, qY, qX]
            refine wpAnyH_take (i := 11) (v := ?_) rfl (by kernel_rfl) (by kernel_rfl) (by kernel_rfl) (fun _ _ _ h => h) (Or.inl ⟨by rfl, ?_⟩) (by assumption) ?_
            rotate_left
            · (intro w hSw; (try dsimp only at hSw); first | (go_simp; done) | (go_simp; with_reducible rfl))
            try simp only [Act.put, qT, qZ, qS, qB, qY, qX]
            refine wpH_one (i := 12) (by kernel_rfl) rfl (fun K0 hK => ?_)
            go_simp
            obtain ⟨V5, hV5⟩ : ∃ V, st5 w4 g5 (.int .i64 K2.args) (.int .i64 K2.temps) (.int .i64 K2.stack) (.slice lp2 K2.ts.length lc2) (.slice pw2 K2.ws.length cw2) = V := ⟨_, rfl⟩
            have hV5b := hV5
            unfold st5 at hV5b
            rw [hV5b]
            rw [hV5] at HD4
            clear hV5 hV5b
            refine hK.out _ _ trivial (fun hHeld => ?_)
            clear hK K0 d0 d1 d2 d3 d4 y0 y1 y2 y3 y4
            try simp only [Act.put, qT, qZ, qS, qB, qY, qX]
            refine wpAnyH_take (i := 13) (v := ?_) rfl (by kernel_rfl) (by kernel_rfl) (by kernel_rfl) (fun _ _ _ h => h) (Or.inl ⟨by rfl, ?_⟩) (by assumption) ?_
            rotate_left
            · (intro w hSw; (try dsimp only at hSw); first | (go_simp; done) | (go_simp; with_reducible rfl))
            try simp only [Act.put, qT, qZ, qS, qB, qY, qX]
            refine wpAnyH_take (i := 14) (v := ?_) rfl (by kernel_rfl) (by kernel_rfl) (by kernel_rfl) (fun _ _ _ h => h) (Or.inl ⟨by rfl, ?_⟩) (by assumption) ?_
            rotate_left
            · (intro w hSw; (try dsimp only at hSw); first | (go_simp; done) | (go_simp; with_reducible rfl))
            try simp only [Act.put, qT, qZ, qS, qB, qY, qX]
            refine wpAnyH_done (by kernel_rfl) ?_ _
            clear hHeld
            cases ok with
            | false =>
              have HFin := mkHid (HNo.out V5 n1' HD4.out.1 HD4.out.2.2.1 (by have h := HQ2.out; rw [HLn2.out] at h; rw [← h, HNa.out.2.1]; rfl))
              have e0 : V5.cell? ⟨g2, 0, none⟩ = some (.int .i64 0) := cell_in HD4.out.1 0
              have e1 : V5.cell? ⟨g2, 1, none⟩ = some (.int .i64 0) := cell_in HD4.out.1 1
              have e2 : V5.cell? ⟨g2, 2, none⟩ = some (.int .i64 0) := cell_in HD4.out.1 2
              have e3 : V5.cell? ⟨g2, 3, none⟩ = some (.slice none 0 0) := cell_in HD4.out.1 3
              have e4 : V5.cell? ⟨g2, 4, none⟩ = some (.slice none 0 0) := cell_in HD4.out.1 4
              have y0 := frozen_in HD4.out.1 0
              have y1 := frozen_in HD4.out.1 1
              have y2 := frozen_in HD4.out.1 2
              have y3 := frozen_in HD4.out.1 3
              have y4 := frozen_in HD4.out.1 4
              clear HNo HQ2 HLn2 HCd
              go_wp2_with fail
              exact ret25 Tryz.results13 HFin.out.2 rfl rfl rfl HFin.out.1
            | true =>
              have HNx : Hid (PS W g2 g5 x B t R (stN st l) n1' en2 V5) := by
                have hc := HCd.out rfl
                have f5 := HD4.out.2.2.2
                have hB := HB.out
                have hq := HQ2.out
                rw [HLn2.out] at hq
                have hdl := HNa.out.2.2.1
                have hel := HE2.out
                refine ⟨K2, lp2, lc2, pw2, cw2, n2', f, HD4.out.1, HD4.out.2.1, ⟨hc.tr.keep f5 (by simp; left; omega), own_congr hc.row (fun g hg => f5.block g (own_lt hc.row g hg).2 (fun hm => by have := (own_lt hc.row g hg).1; simp at hm; omega)), (f5.block x (lt_of_heap hc.wk) (by simpa using n2)).trans hc.wk, hc.tl, hc.wl, hc.nl⟩, HD4.out.2.2.1, ?_, ?_⟩
                · rw [HNa.out.2.1]; exact hq
                · rw [List.length_drop] at hdl ⊢; omega
              clear HNo HQ2 HLn2 HCd HD4
              go_wp2_with fail
              go_roundw
              case rel => exact ⟨stN st l, n1', en2, HStN.out, by have := HNa.out; have := HE2.out; omega, by have := HE2.out; omega, rfl, rfl, rfl, HNx.out⟩
              case measure => have := HE2.out; simp [intOf]; omega
    · have hae : a = t.length := by omega
      have q1 : decide ((a : Int) < (t.length : Int)) = false := decide_eq_false (by omega)
      have q2 : ¬ (a : Int) < (t.length : Int) := by omega
      have q3 : ¬ a < t.length := hlt
      have hnil : t.drop a = [] := by rw [hae, List.drop_length]
      rw [hnil] at hq
      cases f with
      | zero => omega
      | succ f =>
      rw [loopQ, if_pos rfl] at hq
      have e0 : wr.cell? ⟨g2, 0, none⟩ = some (.int .i64 0) := cell_in hb2 0
      have e1 : wr.cell? ⟨g2, 1, none⟩ = some (.int .i64 0) := cell_in hb2 1
      have e2 : wr.cell? ⟨g2, 2, none⟩ = some (.int .i64 0) := cell_in hb2 2
      have e3 : wr.cell? ⟨g2, 3, none⟩ = some (.slice none 0 0) := cell_in hb2 3
      have e4 : wr.cell? ⟨g2, 4, none⟩ = some (.slice none 0 0) := cell_in hb2 4
      have y0 := frozen_in hb2 0
      have y1 := frozen_in hb2 1
      have y2 := frozen_in hb2 2
      have y3 := frozen_in hb2 3
      have y4 := frozen_in hb2 4
      by_cases hs0 : st = 0
      · subst hs0
        rw [if_pos rfl] at hq
        have HFin := mkHid (HNo.out wr 1 hb2 hfr hq.symm)
        clear hq hb2 hb5 hcd hfr hnil hae hlt hfl HNo
        go_wp2_with fail
        exact ret25 Tryz.results13 HFin.out.2 rfl rfl rfl HFin.out.1
      · rw [if_neg hs0] at hq
        have hs2 : ¬ (st : Int) = 0 := by omega
        have hs1 : ((st : Int) == 0) = false := by simpa using hs2
        obtain ⟨b5, f5⟩ := st5_ok (.int .i64 K.args) (.int .i64 K.temps) (.int .i64 K.stack) (.slice lp K.ts.length lc) (.slice pw K.ws.length cw) hb2
        have HFin : Hid (PaD W R (.returned (.tuple #[.agg #[.int .i64 K.args, .int .i64 K.temps, .int .i64 K.stack, .slice lp K.ts.length lc, .slice pw K.ws.length cw], .int .i64 0, .int .i64 0])) (st5 wr g2 (.int .i64 K.args) (.int .i64 K.temps) (.int .i64 K.stack) (.slice lp K.ts.length lc) (.slice pw K.ws.length cw))) := by
          refine ⟨hfr.trans f5 (fun b hb => .inr (by simp at hb; rw [hb]; exact HB.out.2.2.2.2.1)), ?_⟩
          rw [← hq]
          refine ⟨K, lp, lc, pw, cw, rfl, rfl, rfl, rfl, ?_, ?_⟩
          · exact (hcd.tr.lits (by have := hcd.tl; omega)).keep f5 (fun g hg _ hm => by have := HB.out; simp at hm; omega) (fun g hg _ => by have := HB.out; omega)
          · exact own_base (own_congr hcd.row (fun g hg => f5.block g (own_lt hcd.row g hg).2 (fun hm => by have := (own_lt hcd.row g hg).1; have := HB.out; simp at hm; omega))) (by have := HB.out; omega)
        have HB5 := mkHid b5
        have d0 : wr.cell? ⟨g5, 0, none⟩ = some (.int .i64 K.args) := cell_in hb5 0
        have d1 : wr.cell? ⟨g5, 1, none⟩ = some (.int .i64 K.temps) := cell_in hb5 1
        have d2 : wr.cell? ⟨g5, 2, none⟩ = some (.int .i64 K.stack) := cell_in hb5 2
        have d3 : wr.cell? ⟨g5, 3, none⟩ = some (.slice lp K.ts.length lc) := cell_in hb5 3
        have d4 : wr.cell? ⟨g5, 4, none⟩ = some (.slice pw K.ws.length cw) := cell_in hb5 4
        clear hq hb2 hb5 hcd hfr hnil hae hlt hfl HNo b5 f5
        go_wp2_with fail
        exact ret25 Tryz.results13 HB5.out rfl rfl rfl HFin.out
end Go.Proofs.YtclkoffnjiiioaaGreatDoor
