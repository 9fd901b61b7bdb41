import Derived.Test.YtclkoffnjiiioaaGreatDoorTG14IWw
import Derived.Laws.IdiomStrings
import Derived.Laws.BytesArg
import Derived.Lib.AtoiAll
import Derived.Lib.Strings
import Derived.Lib.Bytealg
namespace Go.Proofs.YtclkoffnjiiioaaGreatDoor
open Go.RowKit
set_option linter.unusedVariables false
set_option linter.unusedSimpArgs false
/-- a literal whose numbers are Go's -/
inductive NmT : LitT → Prop
  | mk (t : LitT) (h : -9223372036854775808 ≤ t.num ∧ t.num ≤ 9223372036854775807) (k : ∀ u ∈ t.kids, NmT u) : NmT t
theorem NmT.num {t : LitT} (h : NmT t) : -9223372036854775808 ≤ t.num ∧ t.num ≤ 9223372036854775807 := by cases h; assumption
theorem NmT.kids {t : LitT} (h : NmT t) : ∀ u ∈ t.kids, NmT u := by cases h; assumption
theorem may_kind {t : LitT} (hm : mayB t = true) : 1 ≤ t.kind ∧ t.kind ≤ 7 := by
  unfold mayB at hm
  by_cases h1 : t.kind = 1 ∨ t.kind = 3
  · omega
  · rw [if_neg h1] at hm
    by_cases h2 : t.kind = 2
    · omega
    · rw [if_neg h2] at hm
      by_cases h4 : t.kind = 4
      · omega
      · rw [if_neg h4] at hm
        by_cases h5 : t.kind = 5 ∨ t.kind = 6 ∨ t.kind = 7
        · omega
        · rw [if_neg h5] at hm; cases hm
theorem may_text {t : LitT} (h : mayB t = true) (hk : t.kind = 2) : t.text.size ≤ 256 := by
  unfold mayB at h
  rw [if_neg (by omega), if_pos hk] at h
  simp at h
  omega
theorem may_arr {t : LitT} (h : mayB t = true) (hk : t.kind = 4) : t.kids.length ≤ 32 := by
  unfold mayB at h
  rw [if_neg (by omega), if_neg (by omega), if_pos hk] at h
  simp at h
  omega
mutual
theorem fineT : ∀ (t : LitT) (n : Nat), mayB t = true → NmT t → (gaT t n).1 = 0 → FineT t
  | .mk k x m p c kids, n, hm, hn, h => by
    refine .mk _ (may_kind hm) hn.num (fun hk => may_text hm hk) (fun hk => may_arr hm hk) (fun hk => ?_)
    rw [gaT_at, if_pos hk] at h
    exact fineL kids n hn.kids h
theorem fineL : ∀ (ts : List LitT) (n : Nat), (∀ t ∈ ts, NmT t) → (gaL ts n).1 = 0 → ∀ t ∈ ts, FineT t
  | [], n, hn, h => by simp
  | t :: ts, n, hn, h => by
    rw [gaL_cons] at h
    by_cases h1 : mayB t = false
    · rw [if_pos h1] at h; cases h
    · rw [if_neg h1] at h
      by_cases h2 : 4096 < n + 1
      · rw [if_pos h2] at h; cases h
      · rw [if_neg h2] at h
        by_cases h3 : (gaT t (n + 1)).1 ≠ 0
        · rw [if_pos h3] at h; exact absurd h h3
        · rw [if_neg h3] at h
          intro u hu
          rcases List.mem_cons.1 hu with e | hu
          · rw [e]; exact fineT t (n + 1) (by simpa using h1) (hn t (by simp)) (by simpa using h3)
          · exact fineL ts _ (fun v hv => hn v (by simp [hv])) h u hu
end
theorem fineU : ∀ (ts : List LitT) (n : Nat), (∀ t ∈ ts, NmT t) → (gaU ts n).1 = 0 → ∀ t ∈ ts, FineT t
  | [], n, hn, h => by simp
  | t :: ts, n, hn, h => by
    rw [show gaU (t :: ts) n = (if topB t = false then (120, n) else if (gaT t n).1 ≠ 0 then gaT t n else gaU ts (gaT t n).2) from rfl] at h
    by_cases h1 : topB t = false
    · rw [if_pos h1] at h; cases h
    · rw [if_neg h1] at h
      by_cases h3 : (gaT t n).1 ≠ 0
      · rw [if_pos h3] at h; exact absurd h h3
      · rw [if_neg h3] at h
        intro u hu
        rcases List.mem_cons.1 hu with e | hu
        · rw [e]
          refine fineT t n ?_ (hn t (by simp)) (by simpa using h3)
          unfold topB at h1
          simp at h1
          exact h1.2
        · exact fineU ts _ (fun v hv => hn v (by simp [hv])) h u hu
theorem textW_len (s : ByteArray) (h : s.size ≤ 256) : (textW s).length ≤ 1026 := by
  unfold textW
  have := esc_len s.data.toList
  have h1 : s.data.toList.length = s.data.size := Array.length_toList
  have h2 : s.data.size = s.size := rfl
  simp only [List.length_cons, List.length_append, List.length_nil]
  omega
mutual
theorem wrT_len : ∀ (t : LitT) (n : Nat), FineT t → (gaT t n).1 = 0 → n ≤ (gaT t n).2 ∧ (wrT t).length ≤ 2202 * ((gaT t n).2 - n) + 1100
  | .mk k x m p c kids, n, hf, h => by
    obtain ⟨_, h0, h1, h2, h3, hk⟩ := hf
    have hi := itoa_len m h1.1 h1.2
    rw [gaT_at] at h ⊢
    rw [wrT_at]
    by_cases e4 : (LitT.mk k x m p c kids).kind = 4
    · rw [if_pos e4] at h ⊢
      rw [if_neg (by omega), if_neg (by omega), if_neg (by omega), if_neg (by omega), if_neg (by omega), if_neg (by omega)]
      have := wrL_len kids n true (hk e4) h
      simp only [List.length_cons, List.length_append, List.length_nil]
      have hkk : (LitT.mk k x m p c kids).kids = kids := rfl
      rw [hkk]
      omega
    · rw [if_neg e4]
      refine ⟨Nat.le_refl _, ?_⟩
      simp only [Nat.sub_self, Nat.mul_zero, Nat.zero_add]
      by_cases e1 : (LitT.mk k x m p c kids).kind = 1
      · rw [if_pos e1]; show (Lib.itoa m).length ≤ _; omega
      · rw [if_neg e1]
        by_cases e2 : (LitT.mk k x m p c kids).kind = 2
        · rw [if_pos e2]; have := textW_len _ (h2 e2); omega
        · rw [if_neg e2]
          by_cases e3 : (LitT.mk k x m p c kids).kind = 3
          · rw [if_pos e3, List.length_cons]; show (Lib.itoa m).length + 1 ≤ _; omega
          · rw [if_neg e3]
            by_cases e5 : (LitT.mk k x m p c kids).kind = 5
            · rw [if_pos e5]; simp
            · rw [if_neg e5]
              by_cases e6 : (LitT.mk k x m p c kids).kind = 6
              · rw [if_pos e6]; simp
              · rw [if_neg e6]
                by_cases e7 : (LitT.mk k x m p c kids).kind = 7
                · rw [if_pos e7]; simp
                · omega
theorem wrL_len : ∀ (ts : List LitT) (n : Nat) (f : Bool), (∀ t ∈ ts, FineT t) → (gaL ts n).1 = 0 → n ≤ (gaL ts n).2 ∧ (wrL ts f).length ≤ 2202 * ((gaL ts n).2 - n)
  | [], n, f, hf, h => by rw [gaL_nil, wrL_nil]; simp
  | t :: ts, n, f, hf, h => by
    rw [gaL_cons] at h ⊢
    by_cases h1 : mayB t = false
    · rw [if_pos h1] at h; cases h
    · rw [if_neg h1] at h ⊢
      by_cases h2 : 4096 < n + 1
      · rw [if_pos h2] at h; cases h
      · rw [if_neg h2] at h ⊢
        by_cases h3 : (gaT t (n + 1)).1 ≠ 0
        · rw [if_pos h3] at h; exact absurd h h3
        · rw [if_neg h3] at h ⊢
          have q1 := wrT_len t (n + 1) (hf t (by simp)) (by simpa using h3)
          have q2 := wrL_len ts (gaT t (n + 1)).2 false (fun u hu => hf u (by simp [hu])) h
          rw [wrL_cons]
          have q3 : (if f = true then ([] : List UInt8) else [32]).length ≤ 1 := by split <;> simp
          simp only [List.length_append]
          omega
end
theorem lnW_len (ws : List Int) (hr : ∀ i, -9223372036854775808 ≤ ws.getD i 0 ∧ ws.getD i 0 ≤ 9223372036854775807) (hn : ws.length ≤ 4096) : ∀ (f a : Nat) (out : List UInt8), a ≤ ws.length → lnW ws f a = some out → out.length ≤ 200 * (ws.length - a)
  | 0, a, out, ha, h => by cases h
  | f + 1, a, out, ha, h => by
    unfold lnW at h
    by_cases hlt : a < ws.length
    · rw [if_pos hlt] at h
      by_cases hc : isOp (ws.getD a 0) = true ∧ a + 1 + opd (ws.getD a 0).toNat ≤ ws.length
      · rw [if_pos hc] at h
        cases hq : lnW ws f (a + 1 + opd (ws.getD a 0).toNat) with
        | none => rw [hq] at h; cases h
        | some r =>
          rw [hq] at h
          have h2 := Option.some.inj h
          have ih := lnW_len ws hr hn f _ r hc.2 hq
          have hod := opd_le (ws.getD a 0).toNat
          have hnm := nmB_le (ws.getD a 0).toNat
          have hi := itoa_len (a : Int) (by omega) (by omega)
          have hnw := numsW_len ((ws.drop (a + 1)).take (opd (ws.getD a 0).toNat)) (fun n hn => by
            obtain ⟨i, hi⟩ := List.getElem?_of_mem (List.mem_of_mem_drop (List.mem_of_mem_take hn))
            have := hr i
            rw [List.getD_eq_getElem?_getD, hi] at this
            exact this)
          have hnt : ((ws.drop (a + 1)).take (opd (ws.getD a 0).toNat)).length ≤ opd (ws.getD a 0).toNat := by rw [List.length_take]; omega
          have hsz : (nmB (ws.getD a 0).toNat).data.toList.length = (nmB (ws.getD a 0).toNat).size := by rw [Array.length_toList]; rfl
          rw [← h2, List.length_append]
          unfold insW
          simp only [List.length_append, List.length_singleton]
          omega
      · rw [if_neg hc] at h; cases h
    · rw [if_neg hlt] at h
      have := Option.some.inj h
      subst this
      simp
end Go.Proofs.YtclkoffnjiiioaaGreatDoor

namespace Go.Proofs.YtclkoffnjiiioaaGreatDoor
open Go.RowKit
set_option linter.unusedVariables false
set_option linter.unusedSimpArgs false
attribute [local go_sem ↓] Go.wp_at_zero Go.wp_at_succ
/-- a page becomes a text -/
theorem Pg.conv {W : World} {B : Nat} {v : Value} {bs : List UInt8} (h : Pg W B v bs) : (convert 57 9 v).run Tryz.prog W = .ok (.string ⟨bs.toArray⟩) W := by
  have hr := h.row
  rcases hr.2 with ⟨rfl, h0⟩ | ⟨g, cap, cur, rfl, h1, h2, h3, h4, h5, h6⟩
  · have hb : bs = [] := List.length_eq_zero_iff.1 h0
    subst hb
    exact run_convert_bytes_nil W 57 5 Tryz.underlying57 Tryz.underlying5 0 0 9 Tryz.underlying9
  · refine run_convert_bytes_back W 57 9 5 ⟨g, 0, none⟩ cap bs Tryz.underlying57 Tryz.underlying5 Tryz.underlying9 (fun j hj => ?_)
    have hp : (⟨g, 0, none⟩ : Addr).add j = ⟨g, j, none⟩ := by rw [Addr.add_mid]; simp
    rw [hp, hr.cellAt j (by omega)]
    simp [Lib.byteCells, List.getElem?_eq_getElem hj]
/-- the library's table of powers of ten lies there -/
abbrev Pw (w : World) : Prop := Lib.TabIs Tryz.prog w "internal/strconv.uint64pow10" .u64 Lib.pow10Tab
theorem Pw.low {w w' : World} {B : Nat} (h : Pw w) (hB : w.heap.size ≤ B) (b : Below B w w') : Pw w' := by
  unfold Pw Lib.TabIs World.var? at h ⊢
  cases hg : Tryz.prog.globalNamed "internal/strconv.uint64pow10" with
  | none => rw [hg] at h; cases h
  | some g =>
  rw [hg] at h
  simp only [Option.bind_some] at h ⊢
  have hlt : g < w.heap.size := by
    rcases Nat.lt_or_ge g w.heap.size with h1 | h1
    · exact h1
    · rw [Array.getElem?_eq_none h1] at h
      cases h
  rw [b.block g (by omega)]
  exact h
theorem Pw.tab {w : World} {B : Nat} (h : Pw w) (hB : w.heap.size ≤ B) : Lib.TabBelow Tryz.prog B w "internal/strconv.uint64pow10" .u64 Lib.pow10Tab := fun w' hb => h.low hB hb
theorem Pw.idle {w w' : World} (h : Pw w) (f : Fr [] w w') : Pw w' := h.low (Nat.le_refl _) (f.below (Nat.le_refl _) (by simp))
/-- a code -/
structure Co where
  args : Int
  temps : Int
  stack : Int
  ts : List LitT
  ws : List Int
def Co.v (K : Co) (lp : Option Addr) (lc : Nat) (pw : Option Addr) (cw : Nat) : Array Value := #[.int .i64 K.args, .int .i64 K.temps, .int .i64 K.stack, .slice lp K.ts.length lc, .slice pw K.ws.length cw]
def r64 (n : Int) : Prop := -9223372036854775808 ≤ n ∧ n ≤ 9223372036854775807
/-- a code in memory -/
structure CoR (W : World) (K : Co) (lp : Option Addr) (lc : Nat) (pw : Option Addr) (cw : Nat) : Prop where
  words : Rd W (.slice pw K.ws.length cw) K.ws
  cap : K.ws.length ≤ cw
  lits : LitsR W lp lc K.ts
  nums : ∀ t ∈ K.ts, NmT t
  rng : ∀ i, -9223372036854775808 ≤ K.ws.getD i 0 ∧ K.ws.getD i 0 ≤ 9223372036854775807
  hd : r64 K.args ∧ r64 K.temps ∧ r64 K.stack
  tb : Tb W
  pw : Pw W
theorem CoR.idle {W W' : World} {K : Co} {lp : Option Addr} {lc : Nat} {pw : Option Addr} {cw : Nat} (h : CoR W K lp lc pw cw) (f : Fr [] W W') : CoR W' K lp lc pw cw := ⟨h.words.idle f, h.cap, h.lits.idle f, h.nums, h.rng, h.hd, h.tb.idle f, h.pw.idle f⟩
/-- what Print answers -/
def prP (K : Co) : Int × List UInt8 :=
  if 4096 < K.ws.length ∨ 64 < K.ts.length then (73, [])
  else if (gaU K.ts 0).1 ≠ 0 then ((gaU K.ts 0).1, [])
  else match lnW K.ws (K.ws.length + 1) 0 with
    | none => (110, [])
    | some o => (0, headW K.args K.temps K.stack ++ K.ts.flatMap litW ++ o)
theorem litW_take (ts : List LitT) (i : Nat) (t : LitT) (h : ts[i]? = some t) : (ts.take (i + 1)).flatMap litW = (ts.take i).flatMap litW ++ litW t := by
  obtain ⟨hlt, e⟩ := List.getElem?_eq_some_iff.1 h
  rw [List.take_succ_eq_append_getElem hlt, List.flatMap_append, e]
  simp
theorem headW_len (a b d : Int) (ha : r64 a) (hb : r64 b) (hd : r64 d) : (headW a b d).length ≤ 100 := by
  have := numsW_len [a, b, d] (fun n hn => by simp at hn; rcases hn with rfl | rfl | rfl; exact ha; exact hb; exact hd)
  unfold headW
  simp only [List.length_append, List.length_cons, List.length_nil] at this ⊢
  omega
theorem gaU_each : ∀ (ts : List LitT) (n : Nat), n ≤ 4096 → (gaU ts n).1 = 0 → ∀ t ∈ ts, ∃ m, m ≤ 4096 ∧ (gaT t m).1 = 0
  | [], n, hn, h => by simp
  | t :: ts, n, hn, h => by
    rw [show gaU (t :: ts) n = (if topB t = false then (120, n) else if (gaT t n).1 ≠ 0 then gaT t n else gaU ts (gaT t n).2) from rfl] at h
    by_cases h1 : topB t = false
    · rw [if_pos h1] at h; cases h
    · rw [if_neg h1] at h
      by_cases h3 : (gaT t n).1 ≠ 0
      · rw [if_pos h3] at h; exact absurd h h3
      · rw [if_neg h3] at h
        have h4 : (gaT t n).1 = 0 := by simpa using h3
        intro u hu
        rcases List.mem_cons.1 hu with e | hu
        · rw [e]; exact ⟨n, hn, h4⟩
        · exact gaU_each ts _ (gaT_le t n hn h4) h u hu
theorem each_len (ts : List LitT) (hn : ∀ t ∈ ts, NmT t) (h : (gaU ts 0).1 = 0) (t : LitT) (ht : t ∈ ts) : (wrT t).length ≤ 10000000 := by
  obtain ⟨m, hm, hg⟩ := gaU_each ts 0 (by omega) h t ht
  have h1 := wrT_len t m (fineU ts 0 hn h t ht) hg
  have h2 := gaT_le t m hm hg
  omega
theorem lits_len (ts : List LitT) (hw : ∀ t ∈ ts, (wrT t).length ≤ 10000000) : (ts.flatMap litW).length ≤ 10000010 * ts.length := by
  induction ts with
  | nil => simp
  | cons t l ih =>
    rw [List.flatMap_cons, List.length_append, List.length_cons]
    have h1 := hw t (by simp)
    have h2 := ih (fun u hu => hw u (by simp [hu]))
    have h3 : (litW t).length ≤ 10000010 := by
      unfold litW
      rw [List.length_append, List.length_append]
      have : (if t.kind = 2 then ([116, 101, 120, 116, 32] : List UInt8) else [97, 114, 114, 97, 121, 32]).length ≤ 6 := by split <;> simp
      simp
      omega
    omega
theorem below_fr {w w' : World} (h : Below w.heap.size w w') : Fr [] w w' := ⟨h.os, h.tape, h.output, h.size, fun k hk _ => h.block k hk⟩
set_option maxRecDepth 100000 in
set_option maxHeartbeats 8000000 in
theorem print_ok (K : Co) (lp : Option Addr) (lc : Nat) (pw : Option Addr) (cw : Nat) (W : World) (h : CoR W K lp lc pw cw) :
    Calls Tryz.prog 7 #[.agg (K.v lp lc pw cw)] W fun e w' => e = .returned (.tuple #[.string ⟨(prP K).2.toArray⟩, .int .i64 (prP K).1]) ∧ Fr [] W w' := by
  have hsh := h.words.short
  have hls : K.ts.length ≤ 2513169434916 := by
    cases h.lits with
    | mk _ _ _ nil at_ short txt kids => exact short
  obtain ⟨R, hR⟩ : ∃ R, prP K = R := ⟨_, rfl⟩
  rw [hR]
  have HF0 : Hid (Fr [] W (W.alloc (.cells (K.v lp lc pw cw) 25))) := Fr.alloc [] W _
  unfold prP at hR
  by_cases hbig : 4096 < K.ws.length ∨ 64 < K.ts.length
  · rw [if_pos hbig] at hR
    have HR := mkHid hR
    unfold Co.v at *
    by_cases hb1 : 4096 < K.ws.length
    · have q1 : decide ((4096 : Int) < (K.ws.length : Int)) = true := decide_eq_true (by omega)
      clear h hR hbig hb1
      generalize K.ws.length = nw at *
      generalize K.ts.length = nt at *
      go_enter Tryz.func7, Tryz.ntmps7
      go_wp2_with fail
      go_ret2
      exact ⟨by rw [← HR.out]; rfl, HF0.out⟩
    · have hb2 : 64 < K.ts.length := by omega
      have q1 : decide ((4096 : Int) < (K.ws.length : Int)) = false := decide_eq_false (by omega)
      have q2 : decide ((64 : Int) < (K.ts.length : Int)) = true := decide_eq_true (by omega)
      clear h hR hbig hb1 hb2
      generalize K.ws.length = nw at *
      generalize K.ts.length = nt at *
      go_enter Tryz.func7, Tryz.ntmps7
      go_wp2_with fail
      go_ret2
      exact ⟨by rw [← HR.out]; rfl, HF0.out⟩
  rw [if_neg hbig] at hR
  have q1 : decide ((4096 : Int) < (K.ws.length : Int)) = false := decide_eq_false (by omega)
  have q2 : decide ((64 : Int) < (K.ts.length : Int)) = false := decide_eq_false (by omega)
  have hn4 : K.ws.length ≤ 4096 ∧ K.ts.length ≤ 64 := by omega
  -- gathering
  obtain ⟨W2, hW2⟩ : ∃ V, (W.alloc (.cells (K.v lp lc pw cw) 25)).alloc (.cells #[.int .i64 0] 51) = V := ⟨_, rfl⟩
  have hx2 : W2.heap[W.heap.size + 1]? = some (.cells #[.int .i64 ((0 : Nat) : Int)] 51 (0, 0)) := by
    rw [← hW2]
    have := heap_alloc_new (W.alloc (.cells (K.v lp lc pw cw) 25)) (.cells #[.int .i64 0] 51)
    simpa using this
  have hb2 : W2.heap[W.heap.size]? = some (.cells (K.v lp lc pw cw) 25 (0, 0)) := by rw [← hW2]; exact al_old (heap_alloc_new W _) _
  have f2 : Fr [] W W2 := by rw [← hW2]; exact ((Fr.refl [] W).al _).al _
  have HGa := mkHid (allTop_ok (W.heap.size + 1) W lp lc K.ts h.lits (by omega) W2 0 f2 hx2 (by omega))
  have hmf : ∀ (fn : Fn) (first cap : Array Value) (w : World), (Instr.makeFunc fn first cap).run Tryz.prog w = .ok (.func fn first cap) w := fun _ _ _ _ => rfl
  have HW2 : Hid ((W.alloc (.cells #[.int .i64 K.args, .int .i64 K.temps, .int .i64 K.stack, .slice lp K.ts.length lc, .slice pw K.ws.length cw] 25)).alloc (.cells #[.int .i64 0] 51) = W2) := hW2
  have HH := mkHid h
  have HRR := mkHid hR
  have HB2 := mkHid hb2
  have HF2 := mkHid f2
  unfold Co.v
  clear h hR hW2 hx2 hb2 f2 hbig HF0
  go_enter Tryz.func7, Tryz.ntmps7
  go_wp2_with fail
  rw [HW2.out]
  refine HGa.out.mono ?_
  rintro e w1 ⟨ov, rfl, f1, hx1, hno, hye⟩
  have hFw : Fr [] W w1 := HF2.out.trans f1 (fun b hb => .inr (by simp at hb; omega))
  have hbox : w1.heap[W.heap.size]? = some (.cells (K.v lp lc pw cw) 25 (0, 0)) := (f1.block _ (lt_of_heap HB2.out) (by simp)).trans HB2.out
  by_cases hz : (gaU K.ts 0).1 = 0
  rotate_left
  · obtain rfl := hno hz
    have HRe : Hid (R = ((gaU K.ts 0).1, [])) := by have := HRR.out; rw [if_pos hz] at this; exact this.symm
    have q3 : ((gaU K.ts 0).1 != 0) = true := by simpa using hz
    have HFw := mkHid hFw
    clear f1 hx1 hno hye hbox hFw HRR HGa HH hz
    generalize (gaU K.ts 0).1 = ge at *
    go_wp2_with fail
    go_ret2
    exact ⟨by rw [HRe.out]; rfl, HFw.out⟩
  obtain ⟨p', c', vs, rfl, hE⟩ := hye hz
  have HR2 : Hid ((match lnW K.ws (K.ws.length + 1) 0 with | none => (110, []) | some o => (0, headW K.args K.temps K.stack ++ K.ts.flatMap litW ++ o)) = R) := by
    have := HRR.out
    rw [if_neg (by simpa using hz)] at this
    exact this
  have hc1 := HH.out.idle hFw
  have HWh := mkHid (areWhole_ok K.ws pw cw w1 hc1.words (by omega) hc1.tb)
  have d0 : w1.cell? ⟨W.heap.size, 0, none⟩ = some (.int .i64 K.args) := cell_in hbox 0
  have d1 : w1.cell? ⟨W.heap.size, 1, none⟩ = some (.int .i64 K.temps) := cell_in hbox 1
  have d2 : w1.cell? ⟨W.heap.size, 2, none⟩ = some (.int .i64 K.stack) := cell_in hbox 2
  have d3 : w1.cell? ⟨W.heap.size, 3, none⟩ = some (.slice lp K.ts.length lc) := cell_in hbox 3
  have d4 : w1.cell? ⟨W.heap.size, 4, none⟩ = some (.slice pw K.ws.length cw) := cell_in hbox 4
  have HFw := mkHid hFw
  have HZ := mkHid hz
  rw [hz]
  have HCo := mkHid hc1
  have HE := mkHid hE
  have HBox := mkHid hbox
  clear f1 hx1 hno hye hbox hFw HRR HGa HB2 HF2 HW2 hz hc1 hE
  cases hq : lnW K.ws (K.ws.length + 1) 0 with
  | none =>
    rw [hq] at HWh HR2
    have HRe : Hid (R = (110, [])) := HR2.out.symm
    clear HR2 hq
    go_wp2_with fail
    refine HWh.out.mono ?_
    rintro e w2 ⟨rfl, hw2⟩
    rw [hw2]
    clear hw2 w2
    go_wp2_with fail
    go_ret2
    exact ⟨by rw [HRe.out]; rfl, HFw.out⟩
  | some out =>
    rw [hq] at HWh HR2
    have HRe : Hid (R = (0, headW K.args K.temps K.stack ++ K.ts.flatMap litW ++ out)) := HR2.out.symm
    have HQ := mkHid hq
    have hp0 : Pg w1 w1.heap.size (.slice none 0 0) [] := ⟨World.ownsRow_nil _ _ _ _, Nat.le_refl _, HCo.out.pw.tab (Nat.le_refl _)⟩
    obtain ⟨r1, r2, r3⟩ := HCo.out.hd
    have HHd := mkHid (writeHead_ok hp0 K.args K.temps K.stack (.slice lp K.ts.length lc) (.slice pw K.ws.length cw) rfl rfl r1 r2 r3 (by simp))
    have HHl := mkHid (headW_len K.args K.temps K.stack r1 r2 r3)
    have HOl := mkHid (lnW_len K.ws HCo.out.rng hn4.1 _ 0 out (by omega) hq)
    have HEl : Hid (∀ t ∈ K.ts, (wrT t).length ≤ 10000000) := fun t ht => each_len K.ts HCo.out.nums HZ.out t ht
    clear HR2 hq hp0 r1 r2 r3
    go_wp2_with fail
    refine HWh.out.mono ?_
    rintro e w2 ⟨rfl, hw2⟩
    rw [hw2]
    clear hw2 w2
    go_wp2_with fail
    refine HHd.out.mono ?_
    rintro e w2 ⟨v2, rfl, hp2, hf2⟩
    have H2 := mkHid (And.intro hp2 hf2)
    clear hp2 hf2 d0 d1 d2 d3 d4 HHd HWh
    obtain ⟨B, hBe⟩ : ∃ B, w1.heap.size = B := ⟨_, rfl⟩
    rw [hBe] at H2
    have HBe := mkHid hBe
    clear hBe
    go_wp2_with fail
    go_loopw [7, 38] (fun pg q wr => ∃ i : Nat, i ≤ K.ts.length ∧ q = .int .i64 (i : Int) ∧ Hid (Pg wr B pg ([] ++ headW K.args K.temps K.stack ++ (K.ts.take i).flatMap litW) ∧ Pf B w1 wr)) (fun _ q _ => K.ts.length - (intOf q).toNat)
    case atStart => exact ⟨0, Nat.zero_le _, rfl, by simpa using H2.out.1, H2.out.2⟩
    case round =>
      clear H2
      obtain ⟨i, hi, rfl, hst⟩ := hrel
      have i0 : (0 : Int) ≤ (i : Int) := by omega
      obtain ⟨hp, hf⟩ := hst.out
      have hbox : wr.heap[W.heap.size]? = some (.cells (K.v lp lc pw cw) 25 (0, 0)) := (hf.below.block _ (by rw [← HBe.out]; exact lt_of_heap HBox.out)).trans HBox.out
      have d3 : wr.cell? ⟨W.heap.size, 3, none⟩ = some (.slice lp K.ts.length lc) := cell_in hbox 3
      have d4 : wr.cell? ⟨W.heap.size, 4, none⟩ = some (.slice pw K.ws.length cw) := cell_in hbox 4
      have hll := lits_len (K.ts.take i) (fun t ht => HEl.out t (List.mem_of_mem_take ht))
      rw [List.length_take] at hll
      have hhl := HHl.out
      by_cases hlt : i < K.ts.length
      · have i1 : (i : Int) < (K.ts.length : Int) := by omega
        obtain ⟨t, ht⟩ : ∃ t, K.ts[i]? = some t := ⟨_, List.getElem?_eq_getElem hlt⟩
        have hmem := List.mem_of_getElem? ht
        have hvl : vs.length = K.ts.length := by have := HE.out.row.1; omega
        obtain ⟨v, hv⟩ : ∃ v, vs[i]? = some v := ⟨_, List.getElem?_eq_getElem (by omega)⟩
        have hEW := elem_ok w1 B _ (by rw [HBe.out]; exact Nat.le_refl _) v t (HE.out.els i t v ht hv) (fineU K.ts 0 HCo.out.nums HZ.out t hmem)
        obtain ⟨T, u, hvu⟩ := (HE.out.els i t v ht hv).shape
        subst hvu
        obtain ⟨go, rfl⟩ : ∃ g, p' = some ⟨g, 0, none⟩ := by
          rcases HE.out.row.2 with ⟨e, e0⟩ | ⟨g, cap, cur, e, q1, q2, q3, q4⟩
          · omega
          · injection e with e1 _ e3
            exact ⟨g, e1⟩
        have x0 : wr.cell? ⟨go, i, none⟩ = some (.iface T u) := by
          have hgl := (own_lt HE.out.row go rfl).2
          have h1 : wr.heap[go]? = w1.heap[go]? := hf.below.block go (by rw [← HBe.out]; exact hgl)
          rw [World.cell?_of_block (w := w1) (a := ⟨go, i, none⟩) h1, HE.out.row.cellAt i (by omega), hv]
        obtain ⟨gl, ol, rfl, hgl, hla⟩ : ∃ g off, lp = some ⟨g, off, none⟩ ∧ g < w1.heap.size ∧ ∀ i t, K.ts[i]? = some t → LitAt w1 g (off + i * 4) t := by
          cases HCo.out.lits with
          | mk _ _ _ nil at_ short txt kids => exact at_ (by omega)
        have y0 : wr.cell? ⟨gl, ol + i * 4, none⟩ = some (.int .i64 t.kind) := by
          have h1 : wr.heap[gl]? = w1.heap[gl]? := hf.below.block gl (by rw [← HBe.out]; exact hgl)
          rw [World.cell?_of_block (w := w1) (a := ⟨gl, ol + i * 4, none⟩) h1]
          exact (hla i t ht).c0
        have hwl := HEl.out t hmem
        have HOb := mkHid (writeObject_ok hp t hEW hf.below (by simp only [List.length_append, List.length_nil]; omega))
        have HX : Hid (∀ v' w', Pg w' B v' ([] ++ headW K.args K.temps K.stack ++ (K.ts.take i).flatMap litW ++ litW t) → Pf B wr w' → Pg w' B v' ([] ++ headW K.args K.temps K.stack ++ (K.ts.take (i + 1)).flatMap litW) ∧ Pf B w1 w') := fun v' w' h1 h2 => ⟨by rw [litW_take K.ts i t ht, ← List.append_assoc]; exact h1, hf.trans h2⟩
        clear hst hp hf hbox hll hhl hEW hv hla hgl hwl ht hvl
        generalize t.kind = kd at *
        go_wp2_with fail
        refine HOb.out.mono ?_
        rintro e w3 ⟨v3, rfl, h1, h2⟩
        have HY := mkHid (HX.out v3 w3 h1 h2)
        clear h1 h2
        go_wp2_with fail
        go_roundw
        case rel => exact ⟨i + 1, by omega, by go_num, HY.out⟩
        case measure => simp [intOf]; omega
      · have hie : i = K.ts.length := by omega
        subst hie
        rw [List.take_of_length_le (Nat.le_refl _)] at hp hll
        have hol := HOl.out
        have HWw := mkHid (writeWords_ok hp K.ws pw cw HCo.out.words HCo.out.cap (by rw [HBe.out]; exact Nat.le_refl _) hf.below HCo.out.tb hn4.1 HCo.out.rng out HQ.out (by simp only [List.length_append, List.length_nil]; omega))
        have HF := mkHid hf
        clear hst hp hf hbox hll hhl hol
        go_wp2_with fail
        refine HWw.out.mono ?_
        rintro e w3 ⟨v3, rfl, h1, h2⟩
        have HC3 := h1.conv
        have HFz : Hid (Fr [] W w3) := HFw.out.tr0 (below_fr (by rw [HBe.out]; exact (HF.out.trans h2).below))
        clear h1 h2
        go_wp2_with fail
        go_ret2
        exact ⟨by rw [HRe.out, List.append_assoc]; rfl, HFz.out⟩
end Go.Proofs.YtclkoffnjiiioaaGreatDoor

namespace Go.Proofs.YtclkoffnjiiioaaGreatDoor
open Go.RowKit
set_option linter.unusedVariables false
set_option linter.unusedSimpArgs false
abbrev Bs := List UInt8
/-- a piece that must stand ahead -/
def tokP (p r : Bs) : Option Bs := if Lib.hasPrefix r p = true then some (r.drop p.length) else none
def isNB (b : UInt8) : Bool := [45, 48, 49, 50, 51, 52, 53, 54, 55, 56, 57].contains b
/-- a number in the one way in which it is written -/
def numP (r : Bs) : Option (Int × Bs) :=
  match Lib.atoiAll (r.takeWhile isNB) with
  | .ok v => if Lib.itoa v = r.takeWhile isNB then some (v, r.dropWhile isNB) else none
  | _ => none
def markB (c : UInt8) : Bool := c == 39 || c == 92
def plainB (c : UInt8) : Bool := decide (32 ≤ c) && decide (c ≤ 126) && !markB c
def hexT : Bs := [48, 49, 50, 51, 52, 53, 54, 55, 56, 57, 97, 98, 99, 100, 101, 102]
/-- the digits of a byte that is not written as it stands -/
def hidP : Bs → Option (UInt8 × Bs)
  | a :: b :: r =>
    if Lib.indexByte hexT a < 0 ∨ Lib.indexByte hexT b < 0 then none
    else
      let c := UInt8.ofNat ((Lib.indexByte hexT a).toNat * 16 + (Lib.indexByte hexT b).toNat)
      if plainB c = false ∧ markB c = false then some (c, r) else none
  | _ => none
/-- a byte of a text -/
def oneP (r : Bs) : Option (UInt8 × Bs) :=
  match tokP [92, 120] r with
  | some r' => hidP r'
  | none =>
    match tokP [92] r with
    | some (c :: r') => if markB c = true then some (c, r') else none
    | some [] => none
    | none =>
      match r with
      | c :: r' => if plainB c = true then some (c, r') else none
      | [] => none
/-- the bytes of a text, up to its end -/
def quoP : Nat → Bs → Bs → Option (Bs × Bs)
  | 0, _, _ => none
  | f + 1, r, acc =>
    match tokP [39] r with
    | some r' => some (acc, r')
    | none =>
      match oneP r with
      | none => none
      | some (c, r') => if acc.length = 256 then none else quoP f r' (acc ++ [c])
/-- a text -/
def txtP (r : Bs) : Option (LitS × Bs) :=
  match tokP [39] r with
  | none => none
  | some r' =>
    match quoP (r'.length + 1) r' [] with
    | none => none
    | some (b, r2) => some (.mk 2 ⟨b.toArray⟩ 0 [], r2)
def noTx : ByteArray := ⟨#[]⟩
def symP (r : Bs) : Option (LitS × Bs) :=
  match tokP [35] r with
  | none => none
  | some r' =>
    match numP r' with
    | none => none
    | some (n, r2) => some (.mk 3 noTx n [], r2)
def conP (r : Bs) : Option (LitS × Bs) :=
  match tokP [110, 105, 108] r with
  | some r' => some (.mk 5 noTx 0 [], r')
  | none =>
    match tokP [116, 114, 117, 101] r with
    | some r' => some (.mk 6 noTx 0 [], r')
    | none =>
      match tokP [102, 97, 108, 115, 101] r with
      | some r' => some (.mk 7 noTx 0 [], r')
      | none => none
def intP (r : Bs) : Option (LitS × Bs) :=
  match numP r with
  | none => none
  | some (n, r2) => some (.mk 1 noTx n [], r2)
/-- the first byte; 10: there is none -/
def fstB (r : Bs) : UInt8 := r.headD 10
mutual
/-- an element -/
def eleP : Nat → Bs → Nat → Option (LitS × Bs × Nat)
  | 0, _, _ => none
  | f + 1, r, n =>
    if fstB r = 40 then
      match tokP [40] r with
      | none => none
      | some r' =>
        match arrP f r' n [] with
        | none => none
        | some (l, r2, n2) => some (.mk 4 noTx 0 l, r2, n2)
    else
      match (if fstB r = 39 then txtP r else if fstB r = 35 then symP r else if fstB r = 110 ∨ fstB r = 116 ∨ fstB r = 102 then conP r else intP r) with
      | none => none
      | some (x, r2) => some (x, r2, n)
/-- elements, up to the array's end -/
def arrP : Nat → Bs → Nat → List LitS → Option (List LitS × Bs × Nat)
  | 0, _, _, _ => none
  | f + 1, r, n, acc =>
    match tokP [41] r with
    | some r' => some (acc, r', n)
    | none =>
      match (if acc.length = 0 then some r else tokP [32] r) with
      | none => none
      | some r1 =>
        if acc.length = 32 ∨ n = 4096 then none
        else
          match eleP f r1 (n + 1) with
          | none => none
          | some (x, r2, n2) => arrP f r2 n2 (acc ++ [x])
end
/-- so many numbers, a blank ahead of each -/
def numsP : Nat → Bs → Option (List Int × Bs)
  | 0, r => some ([], r)
  | k + 1, r =>
    match tokP [32] r with
    | none => none
    | some r1 =>
      match numP r1 with
      | none => none
      | some (n, r2) =>
        match numsP k r2 with
        | none => none
        | some (l, r3) => some (n :: l, r3)
/-- the head's line -/
def headP (l : Bs) : Option (List Int) :=
  match tokP [99, 111, 100, 101] l with
  | none => none
  | some r =>
    match numsP 3 r with
    | some (ns, []) => some ns
    | _ => none
/-- an array behind its bracket, in an element or by itself -/
def arrT (r : Bs) (n : Nat) : Option (LitS × Bs × Nat) :=
  match tokP [40] r with
  | none => none
  | some r' =>
    match arrP (2 * r'.length + 2) r' n [] with
    | none => none
    | some (l, r2, n2) => some (.mk 4 noTx 0 l, r2, n2)
/-- a literal's line -/
def litP (l : Bs) (k n : Nat) : Option (LitS × Nat) :=
  if k = 64 then none
  else
    match tokP [116, 101, 120, 116, 32] l with
    | some r =>
      (match txtP r with
      | some (x, []) => some (x, n)
      | _ => none)
    | none =>
      match tokP [97, 114, 114, 97, 121, 32] l with
      | some r =>
        (match arrT r n with
        | some (x, [], n2) => some (x, n2)
        | _ => none)
      | none => none
/-- the number of an operation's name; 0: it is none -/
def opN (b : Bs) : Nat := ((List.range 28).find? fun i => (nmB (i + 1)).data.toList == b).elim 0 (· + 1)
/-- an instruction's line, behind so many words -/
def insP (l : Bs) (k : Nat) : Option (List Int) :=
  match numP l with
  | none => none
  | some (pl, r) =>
    if pl ≠ (k : Int) then none
    else
      match tokP [32] r with
      | none => none
      | some r1 =>
        if opN (r1.takeWhile (· != 32)) = 0 ∨ 4096 < k + 1 + opd (opN (r1.takeWhile (· != 32))) then none
        else
          match numsP (opd (opN (r1.takeWhile (· != 32)))) (r1.dropWhile (· != 32)) with
          | some (ns, []) => some ((opN (r1.takeWhile (· != 32)) : Int) :: ns)
          | _ => none
/-- a line, and what is behind it -/
def cutP (t : Bs) : Option (Bs × Bs) := if Lib.indexByte t 10 < 0 then none else some (t.take (Lib.indexByte t 10).toNat, t.drop ((Lib.indexByte t 10).toNat + 1))
def litsP : Nat → Bs → Nat → List LitS → Nat → Bs × List LitS × Nat
  | 0, t, n, ls, k => (t, ls, k)
  | f + 1, t, n, ls, k =>
    match cutP t with
    | none => (t, ls, k)
    | some (l, b) =>
      match litP l ls.length n with
      | none => (t, ls, k)
      | some (x, n2) => litsP f b n2 (ls ++ [x]) (k + 1)
def inssP : Nat → Bs → List Int → Nat → Bs × List Int × Nat
  | 0, t, ws, k => (t, ws, k)
  | f + 1, t, ws, k =>
    match cutP t with
    | none => (t, ws, k)
    | some (l, b) =>
      match insP l ws.length with
      | none => (t, ws, k)
      | some vs => inssP f b (ws ++ vs) (k + 1)
/-- a code, wherever it lies -/
structure CoS where
  hd : List Int
  ls : List LitS
  ws : List Int
/-- what Parse answers: the code, or the line -/
def parP (t : Bs) : CoS ⊕ Nat :=
  match cutP t with
  | none => .inr 1
  | some (l, b) =>
    match headP l with
    | none => .inr 1
    | some ns =>
      let a := litsP (b.length + 1) b 0 [] 1
      let c := inssP (a.1.length + 1) a.1 [] a.2.2
      if c.1 = [] then .inl ⟨ns, a.2.1, c.2.1⟩ else .inr (c.2.2 + 1)
end Go.Proofs.YtclkoffnjiiioaaGreatDoor
