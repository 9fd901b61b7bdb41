import Derived.Test.YtclkoffnjiiioaaDoorIPm
import Derived.Laws.IdiomStrings
import Derived.Laws.BytesArg
namespace Go.Proofs.YtclkoffnjiiioaaDoor
open Go.RowKit
set_option linter.unusedVariables false
set_option linter.unusedSimpArgs false
attribute [local go_sem ↓] Go.wp_at_zero Go.wp_at_succ
/-- a page becomes a text -/
theorem Pg.conv {W : World} {B : Nat} {v : Value} {bs : List UInt8} (h : Pg W B v bs) : (convert 47 9 v).run Tryd.prog W = .ok (.string ⟨bs.toArray⟩) W := by
  have hr := h.row
  rcases hr.2 with ⟨rfl, h0⟩ | ⟨g, cap, cur, rfl, h1, h2, h3, h4, h5, h6⟩
  · have hb : bs = [] := List.length_eq_zero_iff.1 h0
    subst hb
    exact run_convert_bytes_nil W 47 5 Tryd.underlying47 Tryd.underlying5 0 0 9 Tryd.underlying9
  · refine run_convert_bytes_back W 47 9 5 ⟨g, 0, none⟩ cap bs Tryd.underlying47 Tryd.underlying5 Tryd.underlying9 (fun j hj => ?_)
    have hp : (⟨g, 0, none⟩ : Addr).add j = ⟨g, j, none⟩ := by rw [Addr.add_mid]; simp
    rw [hp, hr.cellAt j (by omega)]
    simp [Lib.byteCells, List.getElem?_eq_getElem hj]
/-- the library's table of powers of ten lies there -/
abbrev Pw (w : World) : Prop := Lib.TabIs Tryd.prog w "internal/strconv.uint64pow10" .u64 Lib.pow10Tab
theorem Pw.low {w w' : World} {B : Nat} (h : Pw w) (hB : w.heap.size ≤ B) (b : Below B w w') : Pw w' := by
  unfold Pw Lib.TabIs World.var? at h ⊢
  cases hg : Tryd.prog.globalNamed "internal/strconv.uint64pow10" with
  | none => rw [hg] at h; cases h
  | some g =>
  rw [hg] at h
  simp only [Option.bind_some] at h ⊢
  have hlt : g < w.heap.size := by
    rcases Nat.lt_or_ge g w.heap.size with h1 | h1
    · exact h1
    · rw [Array.getElem?_eq_none h1] at h
      cases h
  rw [b.block g (by omega)]
  exact h
theorem Pw.tab {w : World} {B : Nat} (h : Pw w) (hB : w.heap.size ≤ B) : Lib.TabBelow Tryd.prog B w "internal/strconv.uint64pow10" .u64 Lib.pow10Tab := fun w' hb => h.low hB hb
theorem Pw.idle {w w' : World} (h : Pw w) (f : Fr [] w w') : Pw w' := h.low (Nat.le_refl _) (f.below (Nat.le_refl _) (by simp))
/-- a code -/
structure Co where
  args : Int
  temps : Int
  stack : Int
  ts : List LitT
  ws : List Int
def Co.v (K : Co) (lp : Option Addr) (lc : Nat) (pw : Option Addr) (cw : Nat) : Array Value := #[.int .i64 K.args, .int .i64 K.temps, .int .i64 K.stack, .slice lp K.ts.length lc, .slice pw K.ws.length cw]
def r64 (n : Int) : Prop := -9223372036854775808 ≤ n ∧ n ≤ 9223372036854775807
/-- a code in memory -/
structure CoR (W : World) (K : Co) (lp : Option Addr) (lc : Nat) (pw : Option Addr) (cw : Nat) : Prop where
  words : Rd W (.slice pw K.ws.length cw) K.ws
  cap : K.ws.length ≤ cw
  lits : LitsR W lp lc K.ts
  nums : ∀ t ∈ K.ts, NmT t
  rng : ∀ i, -9223372036854775808 ≤ K.ws.getD i 0 ∧ K.ws.getD i 0 ≤ 9223372036854775807
  hd : r64 K.args ∧ r64 K.temps ∧ r64 K.stack
  tb : Tb W
  pw : Pw W
theorem CoR.idle {W W' : World} {K : Co} {lp : Option Addr} {lc : Nat} {pw : Option Addr} {cw : Nat} (h : CoR W K lp lc pw cw) (f : Fr [] W W') : CoR W' K lp lc pw cw := ⟨h.words.idle f, h.cap, h.lits.idle f, h.nums, h.rng, h.hd, h.tb.idle f, h.pw.idle f⟩
/-- what Print answers -/
def prP (K : Co) : Int × List UInt8 :=
  if 4096 < K.ws.length ∨ 64 < K.ts.length then (73, [])
  else if (gaU K.ts 0).1 ≠ 0 then ((gaU K.ts 0).1, [])
  else match lnW K.ws (K.ws.length + 1) 0 with
    | none => (110, [])
    | some o => (0, headW K.args K.temps K.stack ++ K.ts.flatMap litW ++ o)
theorem litW_take (ts : List LitT) (i : Nat) (t : LitT) (h : ts[i]? = some t) : (ts.take (i + 1)).flatMap litW = (ts.take i).flatMap litW ++ litW t := by
  obtain ⟨hlt, e⟩ := List.getElem?_eq_some_iff.1 h
  rw [List.take_succ_eq_append_getElem hlt, List.flatMap_append, e]
  simp
theorem headW_len (a b d : Int) (ha : r64 a) (hb : r64 b) (hd : r64 d) : (headW a b d).length ≤ 100 := by
  have := numsW_len [a, b, d] (fun n hn => by simp at hn; rcases hn with rfl | rfl | rfl; exact ha; exact hb; exact hd)
  unfold headW
  simp only [List.length_append, List.length_cons, List.length_nil] at this ⊢
  omega
theorem gaU_each : ∀ (ts : List LitT) (n : Nat), n ≤ 4096 → (gaU ts n).1 = 0 → ∀ t ∈ ts, ∃ m, m ≤ 4096 ∧ (gaT t m).1 = 0
  | [], n, hn, h => by simp
  | t :: ts, n, hn, h => by
    rw [show gaU (t :: ts) n = (if topB t = false then (120, n) else if (gaT t n).1 ≠ 0 then gaT t n else gaU ts (gaT t n).2) from rfl] at h
    by_cases h1 : topB t = false
    · rw [if_pos h1] at h; cases h
    · rw [if_neg h1] at h
      by_cases h3 : (gaT t n).1 ≠ 0
      · rw [if_pos h3] at h; exact absurd h h3
      · rw [if_neg h3] at h
        have h4 : (gaT t n).1 = 0 := by simpa using h3
        intro u hu
        rcases List.mem_cons.1 hu with e | hu
        · rw [e]; exact ⟨n, hn, h4⟩
        · exact gaU_each ts _ (gaT_le t n hn h4) h u hu
theorem each_len (ts : List LitT) (hn : ∀ t ∈ ts, NmT t) (h : (gaU ts 0).1 = 0) (t : LitT) (ht : t ∈ ts) : (wrT t).length ≤ 10000000 := by
  obtain ⟨m, hm, hg⟩ := gaU_each ts 0 (by omega) h t ht
  have h1 := wrT_len t m (fineU ts 0 hn h t ht) hg
  have h2 := gaT_le t m hm hg
  omega
theorem lits_len (ts : List LitT) (hw : ∀ t ∈ ts, (wrT t).length ≤ 10000000) : (ts.flatMap litW).length ≤ 10000010 * ts.length := by
  induction ts with
  | nil => simp
  | cons t l ih =>
    rw [List.flatMap_cons, List.length_append, List.length_cons]
    have h1 := hw t (by simp)
    have h2 := ih (fun u hu => hw u (by simp [hu]))
    have h3 : (litW t).length ≤ 10000010 := by
      unfold litW
      rw [List.length_append, List.length_append]
      have : (if t.kind = 2 then ([116, 101, 120, 116, 32] : List UInt8) else [97, 114, 114, 97, 121, 32]).length ≤ 6 := by split <;> simp
      simp
      omega
    omega
theorem below_fr {w w' : World} (h : Below w.heap.size w w') : Fr [] w w' := ⟨h.os, h.tape, h.output, h.size, fun k hk _ => h.block k hk⟩
set_option maxRecDepth 100000 in
set_option maxHeartbeats 8000000 in
theorem print_ok (K : Co) (lp : Option Addr) (lc : Nat) (pw : Option Addr) (cw : Nat) (W : World) (h : CoR W K lp lc pw cw) :
    Calls Tryd.prog 6 #[.agg (K.v lp lc pw cw)] W fun e w' => e = .returned (.tuple #[.string ⟨(prP K).2.toArray⟩, .int .i64 (prP K).1]) ∧ Fr [] W w' := by
  have hsh := h.words.short
  have hls : K.ts.length ≤ 2513169434916 := by
    cases h.lits with
    | mk _ _ _ nil at_ short txt kids => exact short
  obtain ⟨R, hR⟩ : ∃ R, prP K = R := ⟨_, rfl⟩
  rw [hR]
  have HF0 : Hid (Fr [] W (W.alloc (.cells (K.v lp lc pw cw) 25))) := Fr.alloc [] W _
  unfold prP at hR
  by_cases hbig : 4096 < K.ws.length ∨ 64 < K.ts.length
  · rw [if_pos hbig] at hR
    have HR := mkHid hR
    unfold Co.v at *
    by_cases hb1 : 4096 < K.ws.length
    · have q1 : decide ((4096 : Int) < (K.ws.length : Int)) = true := decide_eq_true (by omega)
      clear h hR hbig hb1
      generalize K.ws.length = nw at *
      generalize K.ts.length = nt at *
      go_enter Tryd.func6, Tryd.ntmps6
      go_wp2_with fail
      go_ret2
      exact ⟨by rw [← HR.out]; rfl, HF0.out⟩
    · have hb2 : 64 < K.ts.length := by omega
      have q1 : decide ((4096 : Int) < (K.ws.length : Int)) = false := decide_eq_false (by omega)
      have q2 : decide ((64 : Int) < (K.ts.length : Int)) = true := decide_eq_true (by omega)
      clear h hR hbig hb1 hb2
      generalize K.ws.length = nw at *
      generalize K.ts.length = nt at *
      go_enter Tryd.func6, Tryd.ntmps6
      go_wp2_with fail
      go_ret2
      exact ⟨by rw [← HR.out]; rfl, HF0.out⟩
  rw [if_neg hbig] at hR
  have q1 : decide ((4096 : Int) < (K.ws.length : Int)) = false := decide_eq_false (by omega)
  have q2 : decide ((64 : Int) < (K.ts.length : Int)) = false := decide_eq_false (by omega)
  have hn4 : K.ws.length ≤ 4096 ∧ K.ts.length ≤ 64 := by omega
  -- gathering
  obtain ⟨W2, hW2⟩ : ∃ V, (W.alloc (.cells (K.v lp lc pw cw) 25)).alloc (.cells #[.int .i64 0] 41) = V := ⟨_, rfl⟩
  have hx2 : W2.heap[W.heap.size + 1]? = some (.cells #[.int .i64 ((0 : Nat) : Int)] 41 (0, 0)) := by
    rw [← hW2]
    have := heap_alloc_new (W.alloc (.cells (K.v lp lc pw cw) 25)) (.cells #[.int .i64 0] 41)
    simpa using this
  have hb2 : W2.heap[W.heap.size]? = some (.cells (K.v lp lc pw cw) 25 (0, 0)) := by rw [← hW2]; exact al_old (heap_alloc_new W _) _
  have f2 : Fr [] W W2 := by rw [← hW2]; exact ((Fr.refl [] W).al _).al _
  have HGa := mkHid (allTop_ok (W.heap.size + 1) W lp lc K.ts h.lits (by omega) W2 0 f2 hx2 (by omega))
  have hmf : ∀ (fn : Fn) (first cap : Array Value) (w : World), (Instr.makeFunc fn first cap).run Tryd.prog w = .ok (.func fn first cap) w := fun _ _ _ _ => rfl
  have HW2 : Hid ((W.alloc (.cells #[.int .i64 K.args, .int .i64 K.temps, .int .i64 K.stack, .slice lp K.ts.length lc, .slice pw K.ws.length cw] 25)).alloc (.cells #[.int .i64 0] 41) = W2) := hW2
  have HH := mkHid h
  have HRR := mkHid hR
  have HB2 := mkHid hb2
  have HF2 := mkHid f2
  unfold Co.v
  clear h hR hW2 hx2 hb2 f2 hbig HF0
  go_enter Tryd.func6, Tryd.ntmps6
  go_wp2_with fail
  rw [HW2.out]
  refine HGa.out.mono ?_
  rintro e w1 ⟨ov, rfl, f1, hx1, hno, hye⟩
  have hFw : Fr [] W w1 := HF2.out.trans f1 (fun b hb => .inr (by simp at hb; omega))
  have hbox : w1.heap[W.heap.size]? = some (.cells (K.v lp lc pw cw) 25 (0, 0)) := (f1.block _ (lt_of_heap HB2.out) (by simp)).trans HB2.out
  by_cases hz : (gaU K.ts 0).1 = 0
  rotate_left
  · obtain rfl := hno hz
    have HRe : Hid (R = ((gaU K.ts 0).1, [])) := by have := HRR.out; rw [if_pos hz] at this; exact this.symm
    have q3 : ((gaU K.ts 0).1 != 0) = true := by simpa using hz
    have HFw := mkHid hFw
    clear f1 hx1 hno hye hbox hFw HRR HGa HH hz
    generalize (gaU K.ts 0).1 = ge at *
    go_wp2_with fail
    go_ret2
    exact ⟨by rw [HRe.out]; rfl, HFw.out⟩
  obtain ⟨p', c', vs, rfl, hE⟩ := hye hz
  have HR2 : Hid ((match lnW K.ws (K.ws.length + 1) 0 with | none => (110, []) | some o => (0, headW K.args K.temps K.stack ++ K.ts.flatMap litW ++ o)) = R) := by
    have := HRR.out
    rw [if_neg (by simpa using hz)] at this
    exact this
  have hc1 := HH.out.idle hFw
  have HWh := mkHid (areWhole_ok K.ws pw cw w1 hc1.words (by omega) hc1.tb)
  have d0 : w1.cell? ⟨W.heap.size, 0, none⟩ = some (.int .i64 K.args) := cell_in hbox 0
  have d1 : w1.cell? ⟨W.heap.size, 1, none⟩ = some (.int .i64 K.temps) := cell_in hbox 1
  have d2 : w1.cell? ⟨W.heap.size, 2, none⟩ = some (.int .i64 K.stack) := cell_in hbox 2
  have d3 : w1.cell? ⟨W.heap.size, 3, none⟩ = some (.slice lp K.ts.length lc) := cell_in hbox 3
  have d4 : w1.cell? ⟨W.heap.size, 4, none⟩ = some (.slice pw K.ws.length cw) := cell_in hbox 4
  have HFw := mkHid hFw
  have HZ := mkHid hz
  rw [hz]
  have HCo := mkHid hc1
  have HE := mkHid hE
  have HBox := mkHid hbox
  clear f1 hx1 hno hye hbox hFw HRR HGa HB2 HF2 HW2 hz hc1 hE
  cases hq : lnW K.ws (K.ws.length + 1) 0 with
  | none =>
    rw [hq] at HWh HR2
    have HRe : Hid (R = (110, [])) := HR2.out.symm
    clear HR2 hq
    go_wp2_with fail
    refine HWh.out.mono ?_
    rintro e w2 ⟨rfl, hw2⟩
    rw [hw2]
    clear hw2 w2
    go_wp2_with fail
    go_ret2
    exact ⟨by rw [HRe.out]; rfl, HFw.out⟩
  | some out =>
    rw [hq] at HWh HR2
    have HRe : Hid (R = (0, headW K.args K.temps K.stack ++ K.ts.flatMap litW ++ out)) := HR2.out.symm
    have HQ := mkHid hq
    have hp0 : Pg w1 w1.heap.size (.slice none 0 0) [] := ⟨World.ownsRow_nil _ _ _ _, Nat.le_refl _, HCo.out.pw.tab (Nat.le_refl _)⟩
    obtain ⟨r1, r2, r3⟩ := HCo.out.hd
    have HHd := mkHid (writeHead_ok hp0 K.args K.temps K.stack (.slice lp K.ts.length lc) (.slice pw K.ws.length cw) rfl rfl r1 r2 r3 (by simp))
    have HHl := mkHid (headW_len K.args K.temps K.stack r1 r2 r3)
    have HOl := mkHid (lnW_len K.ws HCo.out.rng hn4.1 _ 0 out (by omega) hq)
    have HEl : Hid (∀ t ∈ K.ts, (wrT t).length ≤ 10000000) := fun t ht => each_len K.ts HCo.out.nums HZ.out t ht
    clear HR2 hq hp0 r1 r2 r3
    go_wp2_with fail
    refine HWh.out.mono ?_
    rintro e w2 ⟨rfl, hw2⟩
    rw [hw2]
    clear hw2 w2
    go_wp2_with fail
    refine HHd.out.mono ?_
    rintro e w2 ⟨v2, rfl, hp2, hf2⟩
    have H2 := mkHid (And.intro hp2 hf2)
    clear hp2 hf2 d0 d1 d2 d3 d4 HHd HWh
    obtain ⟨B, hBe⟩ : ∃ B, w1.heap.size = B := ⟨_, rfl⟩
    rw [hBe] at H2
    have HBe := mkHid hBe
    clear hBe
    go_wp2_with fail
    go_loopw [7, 38] (fun pg q wr => ∃ i : Nat, i ≤ K.ts.length ∧ q = .int .i64 (i : Int) ∧ Hid (Pg wr B pg ([] ++ headW K.args K.temps K.stack ++ (K.ts.take i).flatMap litW) ∧ Pf B w1 wr)) (fun _ q _ => K.ts.length - (intOf q).toNat)
    case atStart => exact ⟨0, Nat.zero_le _, rfl, by simpa using H2.out.1, H2.out.2⟩
    case round =>
      clear H2
      obtain ⟨i, hi, rfl, hst⟩ := hrel
      have i0 : (0 : Int) ≤ (i : Int) := by omega
      obtain ⟨hp, hf⟩ := hst.out
      have hbox : wr.heap[W.heap.size]? = some (.cells (K.v lp lc pw cw) 25 (0, 0)) := (hf.below.block _ (by rw [← HBe.out]; exact lt_of_heap HBox.out)).trans HBox.out
      have d3 : wr.cell? ⟨W.heap.size, 3, none⟩ = some (.slice lp K.ts.length lc) := cell_in hbox 3
      have d4 : wr.cell? ⟨W.heap.size, 4, none⟩ = some (.slice pw K.ws.length cw) := cell_in hbox 4
      have hll := lits_len (K.ts.take i) (fun t ht => HEl.out t (List.mem_of_mem_take ht))
      rw [List.length_take] at hll
      have hhl := HHl.out
      by_cases hlt : i < K.ts.length
      · have i1 : (i : Int) < (K.ts.length : Int) := by omega
        obtain ⟨t, ht⟩ : ∃ t, K.ts[i]? = some t := ⟨_, List.getElem?_eq_getElem hlt⟩
        have hmem := List.mem_of_getElem? ht
        have hvl : vs.length = K.ts.length := by have := HE.out.row.1; omega
        obtain ⟨v, hv⟩ : ∃ v, vs[i]? = some v := ⟨_, List.getElem?_eq_getElem (by omega)⟩
        have hEW := elem_ok w1 B _ (by rw [HBe.out]; exact Nat.le_refl _) v t (HE.out.els i t v ht hv) (fineU K.ts 0 HCo.out.nums HZ.out t hmem)
        obtain ⟨T, u, hvu⟩ := (HE.out.els i t v ht hv).shape
        subst hvu
        obtain ⟨go, rfl⟩ : ∃ g, p' = some ⟨g, 0, none⟩ := by
          rcases HE.out.row.2 with ⟨e, e0⟩ | ⟨g, cap, cur, e, q1, q2, q3, q4⟩
          · omega
          · injection e with e1 _ e3
            exact ⟨g, e1⟩
        have x0 : wr.cell? ⟨go, i, none⟩ = some (.iface T u) := by
          have hgl := (own_lt HE.out.row go rfl).2
          have h1 : wr.heap[go]? = w1.heap[go]? := hf.below.block go (by rw [← HBe.out]; exact hgl)
          rw [World.cell?_of_block (w := w1) (a := ⟨go, i, none⟩) h1, HE.out.row.cellAt i (by omega), hv]
        obtain ⟨gl, ol, rfl, hgl, hla⟩ : ∃ g off, lp = some ⟨g, off, none⟩ ∧ g < w1.heap.size ∧ ∀ i t, K.ts[i]? = some t → LitAt w1 g (off + i * 4) t := by
          cases HCo.out.lits with
          | mk _ _ _ nil at_ short txt kids => exact at_ (by omega)
        have y0 : wr.cell? ⟨gl, ol + i * 4, none⟩ = some (.int .i64 t.kind) := by
          have h1 : wr.heap[gl]? = w1.heap[gl]? := hf.below.block gl (by rw [← HBe.out]; exact hgl)
          rw [World.cell?_of_block (w := w1) (a := ⟨gl, ol + i * 4, none⟩) h1]
          exact (hla i t ht).c0
        have hwl := HEl.out t hmem
        have HOb := mkHid (writeObject_ok hp t hEW hf.below (by simp only [List.length_append, List.length_nil]; omega))
        have HX : Hid (∀ v' w', Pg w' B v' ([] ++ headW K.args K.temps K.stack ++ (K.ts.take i).flatMap litW ++ litW t) → Pf B wr w' → Pg w' B v' ([] ++ headW K.args K.temps K.stack ++ (K.ts.take (i + 1)).flatMap litW) ∧ Pf B w1 w') := fun v' w' h1 h2 => ⟨by rw [litW_take K.ts i t ht, ← List.append_assoc]; exact h1, hf.trans h2⟩
        clear hst hp hf hbox hll hhl hEW hv hla hgl hwl ht hvl
        generalize t.kind = kd at *
        go_wp2_with fail
        refine HOb.out.mono ?_
        rintro e w3 ⟨v3, rfl, h1, h2⟩
        have HY := mkHid (HX.out v3 w3 h1 h2)
        clear h1 h2
        go_wp2_with fail
        go_roundw
        case rel => exact ⟨i + 1, by omega, by go_num, HY.out⟩
        case measure => simp [intOf]; omega
      · have hie : i = K.ts.length := by omega
        subst hie
        rw [List.take_of_length_le (Nat.le_refl _)] at hp hll
        have hol := HOl.out
        have HWw := mkHid (writeWords_ok hp K.ws pw cw HCo.out.words HCo.out.cap (by rw [HBe.out]; exact Nat.le_refl _) hf.below HCo.out.tb hn4.1 HCo.out.rng out HQ.out (by simp only [List.length_append, List.length_nil]; omega))
        have HF := mkHid hf
        clear hst hp hf hbox hll hhl hol
        go_wp2_with fail
        refine HWw.out.mono ?_
        rintro e w3 ⟨v3, rfl, h1, h2⟩
        have HC3 := h1.conv
        have HFz : Hid (Fr [] W w3) := HFw.out.tr0 (below_fr (by rw [HBe.out]; exact (HF.out.trans h2).below))
        clear h1 h2
        go_wp2_with fail
        go_ret2
        exact ⟨by rw [HRe.out, List.append_assoc]; rfl, HFz.out⟩
end Go.Proofs.YtclkoffnjiiioaaDoor
