import Derived.Test.YtclkoffnjiiioaaGreatDoorTG12INum
import Derived.Test.YtclkoffnjiiioaaGreatDoorTG11CLast
namespace Go.Proofs.YtclkoffnjiiioaaGreatDoor
open Go.RowKit
set_option linter.unusedVariables false
set_option linter.unusedSimpArgs false
attribute [local go_sem ↓] Go.wp_at_zero Go.wp_at_succ
def nmT : List ByteArray := [⟨#[]⟩, ⟨#[115, 101, 108, 102]⟩, ⟨#[110, 105, 108]⟩, ⟨#[116, 114, 117, 101]⟩, ⟨#[102, 97, 108, 115, 101]⟩, ⟨#[105, 110, 116]⟩, ⟨#[108, 105, 116]⟩, ⟨#[115, 121, 109]⟩, ⟨#[99, 108, 97, 115, 115]⟩, ⟨#[102, 105, 101, 108, 100]⟩, ⟨#[116, 101, 109, 112]⟩, ⟨#[103, 108, 111, 98, 97, 108]⟩, ⟨#[115, 116, 111, 114, 101, 102, 105, 101, 108, 100]⟩, ⟨#[115, 116, 111, 114, 101, 116, 101, 109, 112]⟩, ⟨#[115, 116, 111, 114, 101, 103, 108, 111, 98, 97, 108]⟩, ⟨#[112, 111, 112]⟩, ⟨#[100, 117, 112]⟩, ⟨#[115, 101, 110, 100]⟩, ⟨#[115, 117, 112, 101, 114]⟩, ⟨#[98, 108, 111, 99, 107]⟩, ⟨#[114, 101, 116, 117, 114, 110]⟩, ⟨#[104, 111, 109, 101, 114, 101, 116, 117, 114, 110]⟩, ⟨#[98, 108, 111, 99, 107, 114, 101, 116, 117, 114, 110]⟩, ⟨#[106, 117, 109, 112]⟩, ⟨#[105, 102, 116, 114, 117, 101]⟩, ⟨#[105, 102, 102, 97, 108, 115, 101]⟩, ⟨#[98, 97, 99, 107]⟩, ⟨#[102, 105, 114, 115, 116]⟩, ⟨#[110, 101, 120, 116]⟩]
def opT : List Nat := [0, 0, 0, 0, 0, 1, 1, 1, 1, 1, 2, 1, 1, 2, 1, 0, 0, 2, 2, 3, 0, 0, 0, 1, 1, 1, 1, 2, 2]
def nmB (i : Nat) : ByteArray := nmT.getD i ⟨#[]⟩
def opd (i : Nat) : Nat := opT.getD i 0
theorem opd_le (i : Nat) : opd i ≤ 3 := by
  unfold opd opT
  by_cases h : i < 29
  · have : ∀ i, i < 29 → ([0, 0, 0, 0, 0, 1, 1, 1, 1, 1, 2, 1, 1, 2, 1, 0, 0, 2, 2, 3, 0, 0, 0, 1, 1, 1, 1, 2, 2] : List Nat).getD i 0 ≤ 3 := by decide
    exact this i h
  · rw [List.getD_eq_getElem?_getD, List.getElem?_eq_none (by simp; omega)]; simp
theorem nmB_le (i : Nat) : (nmB i).size ≤ 20 := by
  by_cases h : i < 29
  · have : ∀ i, i < 29 → (nmB i).size ≤ 20 := by decide
    exact this i h
  · unfold nmB
    rw [List.getD_eq_getElem?_getD, List.getElem?_eq_none (by show 29 ≤ i; omega)]
    decide
/-- the table of operations -/
def Tb (W : World) : Prop := ∀ i, i < 29 → W.cell? ⟨0, i * 2, none⟩ = some (.string (nmB i)) ∧ W.cell? ⟨0, i * 2 + 1, none⟩ = some (.int .i64 (opd i : Int))
theorem Tb.pos {W : World} (h : Tb W) : 0 < W.heap.size := World.block_lt_of_cell? W ⟨0, 0, none⟩ (h 0 (by decide)).1
theorem Tb.low {B : Nat} {W W' : World} (h : Tb W) (hb : Below B W W') (hB : 0 < B) : Tb W' := fun i hi => by
  have h1 : W'.heap[0]? = W.heap[0]? := hb.block 0 hB
  exact ⟨(World.cell?_of_block (w := W) (a := ⟨0, i * 2, none⟩) h1).trans (h i hi).1, (World.cell?_of_block (w := W) (a := ⟨0, i * 2 + 1, none⟩) h1).trans (h i hi).2⟩
theorem Tb.idle {W W' : World} (h : Tb W) (hf : Fr [] W W') : Tb W' := h.low (hf.below (B := W.heap.size) (Nat.le_refl _) (by simp)) h.pos
def isOp (o : Int) : Bool := decide (1 ≤ o) && decide (o ≤ 28)
/-- an instruction's line -/
def insW (at_ o : Nat) (ns : List Int) : List UInt8 := Lib.itoa (at_ : Int) ++ [32] ++ (nmB o).data.toList ++ numsW ns ++ [10]
/-- the lines of whole instructions -/
def lnW (ws : List Int) : Nat → Nat → Option (List UInt8)
  | 0, _ => none
  | f + 1, a => if a < ws.length then (if isOp (ws.getD a 0) = true ∧ a + 1 + opd (ws.getD a 0).toNat ≤ ws.length then (lnW ws f (a + 1 + opd (ws.getD a 0).toNat)).map (insW a (ws.getD a 0).toNat ((ws.drop (a + 1)).take (opd (ws.getD a 0).toNat)) ++ ·) else none) else some []
set_option maxHeartbeats 1000000 in
theorem isOperation_ok (o : Int) (w : World) : Calls Tryz.prog 30 #[.int .i64 o] w fun e w' => e = .returned (.bool (isOp o)) ∧ w' = w := by
  have HO : Hid (isOp o = (decide (1 ≤ o) && decide (o ≤ 28))) := rfl
  rw [HO.out]
  by_cases h1 : 1 ≤ o
  · by_cases h2 : o ≤ 28
    all_goals
      go_enter Tryz.func30, Tryz.ntmps30
      go_wp2_with fail
      all_goals
        go_ret
        exact ⟨by simp [h1, h2], rfl⟩
  · have q1 : decide (1 ≤ o) = false := decide_eq_false h1
    go_enter Tryz.func30, Tryz.ntmps30
    go_wp2_with fail
    all_goals
      go_ret
      exact ⟨by simp [h1], rfl⟩
set_option maxRecDepth 100000 in
set_option maxHeartbeats 4000000 in
theorem areWhole_ok (ws : List Int) (p : Option Addr) (c : Nat) (W : World) (h : Rd W (.slice p ws.length c) ws) (hn : ws.length ≤ 100000) (ht : Tb W) : Calls Tryz.prog 18 #[.slice p ws.length c] W fun e w' => e = .returned (.bool (lnW ws (ws.length + 1) 0).isSome) ∧ w' = W := by
  have hat : 0 < ws.length → ∃ g off, p = some ⟨g, off, none⟩ ∧ ∀ i, i < ws.length → W.cell? ⟨g, off + i, none⟩ = some (.int .i64 (ws.getD i 0)) := fun hp => by
    obtain ⟨p', c', e, hh⟩ := h.at_
    injection e with e1 _ _
    subst e1
    obtain ⟨g, off, e2, -, hc⟩ := hh hp
    exact ⟨g, off, e2, hc⟩
  obtain ⟨R, hR⟩ : ∃ R, (lnW ws (ws.length + 1) 0).isSome = R := ⟨_, rfl⟩
  rw [hR]
  have HAt := mkHid hat
  have HT := mkHid ht
  have HR0 := mkHid hR
  have HO := mkHid isOperation_ok
  clear h hat ht hR
  go_enter Tryz.func18, Tryz.ntmps18
  go_wp2_with fail
  go_loopw [3] (fun q wr => wr = W ∧ ∃ a : Nat, q = .int .i64 (a : Int) ∧ a ≤ ws.length + 4 ∧ Hid ((a ≤ ws.length ∧ ∃ f, ws.length < a + f ∧ (lnW ws f a).isSome = R) ∨ (ws.length < a ∧ R = false))) (fun q _ => ws.length + 4 - (intOf q).toNat)
  case atStart => exact ⟨rfl, 0, rfl, by omega, .inl ⟨by omega, ws.length + 1, by omega, HR0.out⟩⟩
  case round =>
    clear HR0
    obtain ⟨rfl, a, rfl, ha, hst⟩ := hrel
    have a0 : (0 : Int) ≤ (a : Int) := by omega
    by_cases hlt : a < ws.length
    · have a1 : (a : Int) < (ws.length : Int) := by omega
      obtain ⟨f, hf, hR⟩ : ∃ f, ws.length < a + f ∧ (lnW ws f a).isSome = R := by
        rcases hst.out with ⟨-, h⟩ | ⟨h, -⟩
        · exact h
        · omega
      obtain ⟨g, off, rfl, hcs⟩ := HAt.out (by omega)
      have c0 := hcs a hlt
      cases f with
      | zero => omega
      | succ f =>
      have hR2 := hR
      unfold lnW at hR2
      rw [if_pos hlt] at hR2
      obtain ⟨o, ho⟩ : ∃ o, ws.getD a 0 = o := ⟨_, rfl⟩
      rw [ho] at hR2 c0
      have HOp := mkHid (HO.out o wr)
      by_cases hop : isOp o = true
      · have hop1 : 1 ≤ o ∧ o ≤ 28 := by unfold isOp at hop; simpa using hop
        rw [hop] at HOp
        obtain ⟨m, rfl⟩ : ∃ m : Nat, o = (m : Int) := ⟨o.toNat, by omega⟩
        have htb := (HT.out m (by omega)).2
        have hod := opd_le m
        rw [Int.toNat_natCast] at hR2
        have HN : Hid ((a + (1 + opd m) ≤ ws.length ∧ ∃ f, ws.length < a + (1 + opd m) + f ∧ (lnW ws f (a + (1 + opd m))).isSome = R) ∨ (ws.length < a + (1 + opd m) ∧ R = false)) := by
          by_cases hle : a + 1 + opd m ≤ ws.length
          · rw [if_pos ⟨hop, hle⟩] at hR2
            refine .inl ⟨by omega, f, by omega, ?_⟩
            rw [show a + (1 + opd m) = a + 1 + opd m by omega]
            simpa using hR2
          · rw [if_neg (fun hh => hle hh.2)] at hR2
            exact .inr ⟨by omega, by simpa using hR2.symm⟩
        have m0 : (0 : Int) ≤ (m : Int) := by omega
        have m1 : (m : Int) < 29 := by omega
        clear hst hR hR2 hcs ho hop hop1
        generalize opd m = od at *
        go_wp2_with (go_at_call 30; refine HOp.out.mono ?_; rintro e w1 ⟨rfl, hw1⟩; rw [hw1]; clear hw1 w1)
        go_roundw
        case rel => exact ⟨trivial, a + (1 + od), by go_num, by omega, HN.out⟩
        case measure => simp [intOf]; omega
      · rw [if_neg (fun hh => hop hh.1)] at hR2
        have hRf : R = false := by simpa using hR2.symm
        have hop' : isOp o = false := by simpa using hop
        rw [hop'] at HOp
        subst hRf
        clear hst hR hR2 hcs ho hop hop'
        go_wp2_with (go_at_call 30; refine HOp.out.mono ?_; rintro e w1 ⟨rfl, hw1⟩; rw [hw1]; clear hw1 w1)
        go_ret
        exact ⟨rfl, rfl⟩
    · have q1 : decide ((a : Int) < (ws.length : Int)) = false := decide_eq_false (by omega)
      have HRe : Hid (R = ((a : Int) == (ws.length : Int))) := by
        rcases hst.out with ⟨h1, f, hf, hR⟩ | ⟨h1, h2⟩
        · cases f with
          | zero => omega
          | succ f =>
            unfold lnW at hR
            rw [if_neg hlt] at hR
            have : a = ws.length := by omega
            show R = _
            rw [← hR, this]
            simp
        · show R = _
          rw [h2]
          exact (beq_eq_false_iff_ne.2 (by omega)).symm
      clear hst
      go_wp2_with fail
      all_goals
        go_ret
        exact ⟨by rw [HRe.out]; rfl, rfl⟩
end Go.Proofs.YtclkoffnjiiioaaGreatDoor

namespace Go.Proofs.YtclkoffnjiiioaaGreatDoor
open Go.RowKit
set_option linter.unusedVariables false
set_option linter.unusedSimpArgs false
attribute [local go_sem ↓] Go.wp_at_zero Go.wp_at_succ
/-- one of two may come up -/
theorem wpLast_two {P : Program} {ops : Array Oper} {Q : Exit → Act → World → Prop} {md : Region.Mode} {S : World → Prop} {L : Nat} {i j : Nat} {oi oj : Oper} {fuel : Nat} {listed : Array Bool} {a : Act} {w : World} (hr : Region.ready md ops listed = [i, j]) (hi : ops[i]? = some oi) (hj : ops[j]? = some oj) (hiL : i ≠ L) (hjL : j ≠ L)
    (h1 : ∀ K' : Act → World → Prop, Shut (∀ a w, S w → (S w → wpLast P md ops Q S L fuel (listed.setIfInBounds i true) a w) → K' a w) → if Region.wanted oi (yielded ops a.tmps) = true then Oper.wp P oi a w K' Q else K' (a.put oi.dst undef) w)
    (h2 : ∀ K' : Act → World → Prop, Shut (∀ a w, S w → (S w → wpLast P md ops Q S L fuel (listed.setIfInBounds j true) a w) → K' a w) → if Region.wanted oj (yielded ops a.tmps) = true then Oper.wp P oj a w K' Q else K' (a.put oj.dst undef) w) : wpLast P md ops Q S L (fuel + 1) listed a w := by
  refine ⟨fun h0 => (by rw [hr] at h0; cases h0), fun k hk => ?_⟩
  rw [hr] at hk
  have e : k = i ∨ k = j := by simpa using hk
  rcases e with e | e
  · subst e
    exact wpOp_step hi (fun K' hK => h1 K' (fun a w hS hW => hK a w ⟨fun _ => hS, hW hS⟩))
  · subst e
    exact wpOp_step hj (fun K' hK => h2 K' (fun a w hS hW => hK a w ⟨fun _ => hS, hW hS⟩))
def headW (a b d : Int) : List UInt8 := [99, 111, 100, 101] ++ numsW [a, b, d] ++ [10]
set_option maxRecDepth 100000 in
set_option maxHeartbeats 8000000 in
theorem writeHead_ok {W : World} {B : Nat} {v : Value} {bs : List UInt8} (h : Pg W B v bs) (a b d : Int) (ls ws : Value) (h1 : ls.oneCell' = true) (h2 : ws.oneCell' = true) (ha : -9223372036854775808 ≤ a ∧ a ≤ 9223372036854775807) (hb : -9223372036854775808 ≤ b ∧ b ≤ 9223372036854775807) (hd : -9223372036854775808 ≤ d ∧ d ≤ 9223372036854775807) (hl : bs.length ≤ 17592186044416) :
    Calls Tryz.prog 19 #[v, .agg #[.int .i64 a, .int .i64 b, .int .i64 d, ls, ws]] W fun e w' => WrP W B bs (headW a b d) e w' := by
  obtain ⟨bx, hbx⟩ : ∃ o : Obj, o = .cells #[.int .i64 a, .int .i64 b, .int .i64 d, ls, ws] 25 := ⟨_, rfl⟩
  have hg : (W.alloc bx).heap[W.heap.size]? = some (.cells #[.int .i64 a, .int .i64 b, .int .i64 d, ls, ws] 25 (0, 0)) := by rw [hbx]; exact heap_alloc_new W _
  have HS : Hid (∀ U, Pf B (W.alloc bx) U → U.cell? ⟨W.heap.size, 0, none⟩ = some (.int .i64 a) ∧ U.cell? ⟨W.heap.size, 1, none⟩ = some (.int .i64 b) ∧ U.cell? ⟨W.heap.size, 2, none⟩ = some (.int .i64 d)) := fun U hU => by
    have := hU.hb hg (by intro c fz e; injection e with _ e; cases e)
    exact ⟨cell_in this 0, cell_in this 1, cell_in this 2⟩
  have h0 : Pg ((W.alloc bx).drew) B v bs := (h.al bx).dr 1
  have hlo := h.low
  have hlo1 : B ≤ (W.alloc bx).heap.size := (h.al bx).low
  have f0 : Pf B (W.alloc bx) ((W.alloc bx).drew) := (Pf.refl B _).dn hlo1 1
  have fW : Pf B W (W.alloc bx) := (Pf.refl B W).alloc hlo bx
  -- what comes behind the append and the row of numbers, in either order
  have HNum : Hid (∀ (V : World) (pg : Value) (g : Nat), Pg V B pg (bs ++ [99, 111, 100, 101]) → V.heap[g]? = some (.cells #[.int .i64 a, .int .i64 b, .int .i64 d] 3 (0, 0)) → Calls Tryz.prog 32 #[pg, .slice (some ⟨g, 0, none⟩) 3 3] V fun e w' => WrP V B (bs ++ [99, 111, 100, 101]) (numsW [a, b, d]) e w') := fun V pg g hp hg3 => by
    refine numbers_ok hp [a, b, d] (some ⟨g, 0, none⟩) 3 (fun n hn => ?_) (by simp) (by simp; omega) (fun W' hW' _ => ⟨g, 0, rfl, fun i hi => ?_⟩)
    · simp at hn
      rcases hn with rfl | rfl | rfl
      · exact ha
      · exact hb
      · exact hd
    · have h3 := hW'.hb hg3 (by intro c fz e; injection e with _ e; cases e)
      rw [cell_in h3]
      match i, hi with
      | 0, _ => rfl
      | 1, _ => rfl
      | 2, _ => rfl
  have HEl : Hid (∀ (V : World) (pg : Value), Pg V B pg (bs ++ [99, 111, 100, 101] ++ numsW [a, b, d]) → Calls Tryz.prog 31 #[pg] V fun e w' => WrP V B (bs ++ [99, 111, 100, 101] ++ numsW [a, b, d]) [10] e w') := fun V pg hp => endLine_ok hp (by
    have := numsW_len [a, b, d] (fun n hn => by simp at hn; rcases hn with rfl | rfl | rfl; exact ha; exact hb; exact hd)
    simp only [List.length_append, List.length_cons, List.length_nil] at this ⊢
    omega)
  have HFin : Hid (∀ v' w', Pg w' B v' (bs ++ [99, 111, 100, 101] ++ numsW [a, b, d] ++ [10]) → Pf B (W.alloc bx) w' → WrP W B bs (headW a b d) (.returned v') w') := fun v' w' h1 h2 => ⟨v', rfl, by unfold headW; rw [← List.append_assoc, ← List.append_assoc]; exact h1, fW.trans h2⟩
  -- the two orders
  obtain ⟨va, wa, hra, hpa, hfa⟩ := h0.str ⟨#[99, 111, 100, 101]⟩ (by show bs.length + 4 ≤ _; omega)
  have hfa2 : Pf B (W.alloc bx) wa := f0.trans hfa
  have h0b : Pg (((W.alloc bx).alloc (.cells #[.int .i64 a, .int .i64 b, .int .i64 d] 3)).drew) B v bs := ((h.al bx).al _).dr 1
  obtain ⟨vb, wb, hrb, hpb, hfb⟩ := h0b.str ⟨#[99, 111, 100, 101]⟩ (by show bs.length + 4 ≤ _; omega)
  have hfb1 : Pf B (W.alloc bx) (((W.alloc bx).alloc (.cells #[.int .i64 a, .int .i64 b, .int .i64 d] 3)).drew) := ((Pf.refl B _).alloc hlo1 _).dn hlo1 1
  have hgb3 : (((W.alloc bx).alloc (.cells #[.int .i64 a, .int .i64 b, .int .i64 d] 3)).drew).heap[(W.alloc bx).heap.size]? = some (.cells #[.int .i64 a, .int .i64 b, .int .i64 d] 3 (0, 0)) := heap_alloc_new (W.alloc bx) _
  have hsz : (W.alloc bx).heap.size = W.heap.size + 1 := by simp
  rw [hsz] at hgb3
  have HRa := mkHid hra
  have HRb := mkHid hrb
  have HA : Hid (Pg wa B va (bs ++ [99, 111, 100, 101]) ∧ Pf B (W.alloc bx) wa) := ⟨hpa, hfa2⟩
  have HAl : Hid (Pg (wa.alloc (.cells #[.int .i64 a, .int .i64 b, .int .i64 d] 3)) B va (bs ++ [99, 111, 100, 101]) ∧ Pf B (W.alloc bx) (wa.alloc (.cells #[.int .i64 a, .int .i64 b, .int .i64 d] 3)) ∧ (wa.alloc (.cells #[.int .i64 a, .int .i64 b, .int .i64 d] 3)).heap[wa.heap.size]? = some (.cells #[.int .i64 a, .int .i64 b, .int .i64 d] 3 (0, 0))) := ⟨hpa.al _, hfa2.alloc hlo1 _, heap_alloc_new wa _⟩
  have HBl : Hid (Pf B (W.alloc bx) (((W.alloc bx).alloc (.cells #[.int .i64 a, .int .i64 b, .int .i64 d] 3)).drew)) := hfb1
  have HBb : Hid (Pg wb B vb (bs ++ [99, 111, 100, 101]) ∧ Pf B (W.alloc bx) wb ∧ wb.heap[W.heap.size + 1]? = some (.cells #[.int .i64 a, .int .i64 b, .int .i64 d] 3 (0, 0))) := ⟨hpb, hfb1.trans hfb, hfb.hb hgb3 (by intro c fz e; injection e with _ e; cases e)⟩
  have HF0 := mkHid f0
  have HBx := mkHid hbx
  clear h hg h0 hlo hlo1 f0 fW hra hpa hfa hfa2 h0b hrb hpb hfb hfb1 hgb3 hsz ha hb hd
  rw [hbx] at HS HRa HRb HA HAl HBl HBb HF0 HFin
  clear HBx hbx bx
  go_enter Tryz.func19, Tryz.ntmps19
  go_upto_region 1 with fail
  refine wp_region_last (L := 11) (S := (fun U => U.cell? ⟨W.heap.size, 0, none⟩ = some (.int .i64 a) ∧ U.cell? ⟨W.heap.size, 1, none⟩ = some (.int .i64 b) ∧ U.cell? ⟨W.heap.size, 2, none⟩ = some (.int .i64 d))) (by kernel_rfl) (HS.out _ HF0.out) (fun hHeld => ?_)
  refine wpLast_take (i := 0) (v := ?_) rfl (by kernel_rfl) (by kernel_rfl) (by kernel_rfl) (by decide) (by kernel_rfl) (fun _ _ _ h => h) (Or.inl ⟨by rfl, ?_⟩) (by assumption) ?_
  rotate_left
  · (intro w hSw; (try dsimp only at hSw); first | (go_simp; done) | (go_simp; with_reducible rfl))
  try simp only [Act.put, List.getElem_toArray, List.getElem_cons_zero, List.getElem_cons_succ, List.setIfInBounds_toArray, List.set_cons_zero, List.set_cons_succ]
  refine wpLast_take (i := 2) (v := ?_) rfl (by kernel_rfl) (by kernel_rfl) (by kernel_rfl) (by decide) (by kernel_rfl) (fun _ _ _ h => h) (Or.inl ⟨by rfl, ?_⟩) (by assumption) ?_
  rotate_left
  · (intro w hSw; (try dsimp only at hSw); first | (go_simp; done) | (go_simp; with_reducible rfl))
  try simp only [Act.put, List.getElem_toArray, List.getElem_cons_zero, List.getElem_cons_succ, List.setIfInBounds_toArray, List.set_cons_zero, List.set_cons_succ]
  refine wpLast_take (i := 3) (v := ?_) rfl (by kernel_rfl) (by kernel_rfl) (by kernel_rfl) (by decide) (by kernel_rfl) (fun _ _ _ h => h) (Or.inl ⟨by rfl, ?_⟩) (by assumption) ?_
  rotate_left
  · (intro w hSw; (try dsimp only at hSw); first | (go_simp; done) | (go_simp; with_reducible rfl))
  try simp only [Act.put, List.getElem_toArray, List.getElem_cons_zero, List.getElem_cons_succ, List.setIfInBounds_toArray, List.set_cons_zero, List.set_cons_succ]
  refine wpLast_take (i := 4) (v := ?_) rfl (by kernel_rfl) (by kernel_rfl) (by kernel_rfl) (by decide) (by kernel_rfl) (fun _ _ _ h => h) (Or.inl ⟨by rfl, ?_⟩) (by assumption) ?_
  rotate_left
  · (intro w hSw; (try dsimp only at hSw); first | (go_simp; done) | (go_simp; with_reducible rfl))
  try simp only [Act.put, List.getElem_toArray, List.getElem_cons_zero, List.getElem_cons_succ, List.setIfInBounds_toArray, List.set_cons_zero, List.set_cons_succ]
  refine wpLast_take (i := 5) (v := ?_) rfl (by kernel_rfl) (by kernel_rfl) (by kernel_rfl) (by decide) (by kernel_rfl) (fun _ _ _ h => h) (Or.inl ⟨by rfl, ?_⟩) (by assumption) ?_
  rotate_left
  · (intro w hSw; (try dsimp only at hSw); first | (go_simp; done) | (go_simp; with_reducible rfl))
  try simp only [Act.put, List.getElem_toArray, List.getElem_cons_zero, List.getElem_cons_succ, List.setIfInBounds_toArray, List.set_cons_zero, List.set_cons_succ]
  refine wpLast_take (i := 6) (v := ?_) rfl (by kernel_rfl) (by kernel_rfl) (by kernel_rfl) (by decide) (by kernel_rfl) (fun _ _ _ h => h) (Or.inl ⟨by rfl, ?_⟩) (by assumption) ?_
  rotate_left
  · (intro w hSw; (try dsimp only at hSw); first | (go_simp; done) | (go_simp; with_reducible rfl))
  try simp only [Act.put, List.getElem_toArray, List.getElem_cons_zero, List.getElem_cons_succ, List.setIfInBounds_toArray, List.set_cons_zero, List.set_cons_succ]
  refine wpLast_take (i := 7) (v := ?_) rfl (by kernel_rfl) (by kernel_rfl) (by kernel_rfl) (by decide) (by kernel_rfl) (fun _ _ _ h => h) (Or.inl ⟨by rfl, ?_⟩) (by assumption) ?_
  rotate_left
  · (intro w hSw; (try dsimp only at hSw); first | (go_simp; done) | (go_simp; with_reducible rfl))
  try simp only [Act.put, List.getElem_toArray, List.getElem_cons_zero, List.getElem_cons_succ, List.setIfInBounds_toArray, List.set_cons_zero, List.set_cons_succ]
  refine wpLast_two (i := 1) (j := 8) (by kernel_rfl) rfl rfl (by decide) (by decide) (fun K hK => ?_) (fun K hK => ?_)
  · refine step_append_run rfl (.tmp 5) (.const (.string ⟨#[99, 111, 100, 101]⟩)) 57 9 rfl v (.string ⟨#[99, 111, 100, 101]⟩) (by simp [Act.eval]) (by simp [Act.eval]) _ _ HRa.out ?_
    refine hK.out _ _ (HS.out _ HA.out.2) (fun hHeld => ?_)
    clear hK K
    try simp only [Act.put, List.getElem_toArray, List.getElem_cons_zero, List.getElem_cons_succ, List.setIfInBounds_toArray, List.set_cons_zero, List.set_cons_succ]
    refine wpLast_one (i := 8) (by kernel_rfl) rfl (by decide) (fun K hK => ?_)
    go_simp
    refine hK.out _ _ (HS.out _ HAl.out.2.1) (fun hHeld => ?_)
    clear hK K
    try simp only [Act.put, List.getElem_toArray, List.getElem_cons_zero, List.getElem_cons_succ, List.setIfInBounds_toArray, List.set_cons_zero, List.set_cons_succ]
    refine wpLast_one (i := 9) (by kernel_rfl) rfl (by decide) (fun K hK => ?_)
    go_simp
    go_wp2_with fail
    refine (HNum.out _ _ _ HAl.out.1 HAl.out.2.2).mono ?_
    rintro e w7 ⟨v7, rfl, hp7, hf7⟩
    have H7 := mkHid (And.intro hp7 hf7)
    clear hp7 hf7
    refine hK.out _ _ (HS.out _ (HAl.out.2.1.trans H7.out.2)) (fun hHeld => ?_)
    clear hK K
    try simp only [Act.put, List.getElem_toArray, List.getElem_cons_zero, List.getElem_cons_succ, List.setIfInBounds_toArray, List.set_cons_zero, List.set_cons_succ]
    refine wpLast_one (i := 10) (by kernel_rfl) rfl (by decide) (fun K hK => ?_)
    go_simp
    go_wp2_with fail
    refine (HEl.out _ _ H7.out.1).mono ?_
    rintro e w8 ⟨v8, rfl, hp8, hf8⟩
    have H8 := mkHid (HFin.out v8 w8 hp8 ((HAl.out.2.1.trans H7.out.2).trans hf8))
    have H9 := mkHid hf8
    clear hp8 hf8
    refine hK.out _ _ (HS.out _ ((HAl.out.2.1.trans H7.out.2).trans H9.out)) (fun hHeld => ?_)
    clear hK K
    try simp only [Act.put, List.getElem_toArray, List.getElem_cons_zero, List.getElem_cons_succ, List.setIfInBounds_toArray, List.set_cons_zero, List.set_cons_succ]
    refine wpLast_end (by kernel_rfl) rfl (by kernel_rfl) (fun K hK => ?_)
    go_simp
    refine hK.out _ _ ?_
    clear hK K
    try simp only [Act.put, List.getElem_toArray, List.getElem_cons_zero, List.getElem_cons_succ, List.setIfInBounds_toArray, List.set_cons_zero, List.set_cons_succ]
    go_wp2_with fail
    go_ret
    exact H8.out
  · go_simp
    refine hK.out _ _ (HS.out _ HBl.out) (fun hHeld => ?_)
    clear hK K
    try simp only [Act.put, List.getElem_toArray, List.getElem_cons_zero, List.getElem_cons_succ, List.setIfInBounds_toArray, List.set_cons_zero, List.set_cons_succ]
    refine wpLast_one (i := 1) (by kernel_rfl) rfl (by decide) (fun K hK => ?_)
    refine step_append_run rfl (.tmp 5) (.const (.string ⟨#[99, 111, 100, 101]⟩)) 57 9 rfl v (.string ⟨#[99, 111, 100, 101]⟩) (by simp [Act.eval]) (by simp [Act.eval]) _ _ HRb.out ?_
    refine hK.out _ _ (HS.out _ HBb.out.2.1) (fun hHeld => ?_)
    clear hK K
    try simp only [Act.put, List.getElem_toArray, List.getElem_cons_zero, List.getElem_cons_succ, List.setIfInBounds_toArray, List.set_cons_zero, List.set_cons_succ]
    refine wpLast_one (i := 9) (by kernel_rfl) rfl (by decide) (fun K hK => ?_)
    go_simp
    go_wp2_with fail
    refine (HNum.out _ _ _ HBb.out.1 HBb.out.2.2).mono ?_
    rintro e w7 ⟨v7, rfl, hp7, hf7⟩
    have H7 := mkHid (And.intro hp7 hf7)
    clear hp7 hf7
    refine hK.out _ _ (HS.out _ (HBb.out.2.1.trans H7.out.2)) (fun hHeld => ?_)
    clear hK K
    try simp only [Act.put, List.getElem_toArray, List.getElem_cons_zero, List.getElem_cons_succ, List.setIfInBounds_toArray, List.set_cons_zero, List.set_cons_succ]
    refine wpLast_one (i := 10) (by kernel_rfl) rfl (by decide) (fun K hK => ?_)
    go_simp
    go_wp2_with fail
    refine (HEl.out _ _ H7.out.1).mono ?_
    rintro e w8 ⟨v8, rfl, hp8, hf8⟩
    have H8 := mkHid (HFin.out v8 w8 hp8 ((HBb.out.2.1.trans H7.out.2).trans hf8))
    have H9 := mkHid hf8
    clear hp8 hf8
    refine hK.out _ _ (HS.out _ ((HBb.out.2.1.trans H7.out.2).trans H9.out)) (fun hHeld => ?_)
    clear hK K
    try simp only [Act.put, List.getElem_toArray, List.getElem_cons_zero, List.getElem_cons_succ, List.setIfInBounds_toArray, List.set_cons_zero, List.set_cons_succ]
    refine wpLast_end (by kernel_rfl) rfl (by kernel_rfl) (fun K hK => ?_)
    go_simp
    refine hK.out _ _ ?_
    clear hK K
    try simp only [Act.put, List.getElem_toArray, List.getElem_cons_zero, List.getElem_cons_succ, List.setIfInBounds_toArray, List.set_cons_zero, List.set_cons_succ]
    go_wp2_with fail
    go_ret
    exact H8.out
end Go.Proofs.YtclkoffnjiiioaaGreatDoor

