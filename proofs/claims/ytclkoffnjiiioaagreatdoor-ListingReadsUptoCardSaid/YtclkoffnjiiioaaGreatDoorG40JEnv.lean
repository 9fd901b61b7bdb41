import Derived.Test.YtclkoffnjiiioaaGreatDoorJSf
import Derived.Test.YtclkoffnjiiioaaGreatDoorJSg
import Derived.Test.YtclkoffnjiiioaaGreatDoorJRE
import Derived.Test.YtclkoffnjiiioaaGreatDoorJRdK
import Derived.Test.YtclkoffnjiiioaaGreatDoorRows
import Derived.Test.YtclkoffnjiiioaaGreatDoorG03JRd3
import Derived.WalkKit
import Derived.ProofKit
import Derived.OpenShut
import Derived.LaidMore
import Derived.Lay
import Derived.Lib.SmallJoins
import Derived.Stop.LaidErr
import Derived.ChangeMaps5
import Derived.SizedLaws
import Derived.JoinedCond
namespace Go.Proofs.YtclkoffnjiiioaaGreatDoor
open Go.RowKit
set_option linter.unusedVariables false
set_option linter.unusedSimpArgs false
theorem gaU_le : ∀ (ts : List LitT) (n : Nat), n ≤ 4096 → (gaU ts n).1 = 0 → (gaU ts n).2 ≤ 4096
  | [], n, hn, h => hn
  | t :: ts, n, hn, h => by
    rw [show gaU (t :: ts) n = (if topB t = false then (120, n) else if (gaT t n).1 ≠ 0 then gaT t n else gaU ts (gaT t n).2) from rfl] at h ⊢
    by_cases h1 : topB t = false
    · rw [if_pos h1] at h; cases h
    rw [if_neg h1] at h ⊢
    by_cases h3 : (gaT t n).1 ≠ 0
    · rw [if_pos h3] at h; exact absurd h h3
    rw [if_neg h3] at h ⊢
    exact gaU_le ts _ (gaT_le t n hn (by simpa using h3)) h
/-- a code of which a text is told is written as that text -/
theorem pr_back2 {t : Bs} {c : CoS} {K : Co} (hp : parP t = .inl c) (hhd : [K.args, K.temps, K.stack] = c.hd) (hls : stL K.ts = c.ls) (hws : K.ws = c.ws) : prP K = (0, t) := by
  obtain ⟨a, b, d, e, -, -, -, hpr, -, -⟩ := pr_par t c hp
  rw [e] at hhd
  simp only [List.cons.injEq, and_true] at hhd
  obtain ⟨rfl, rfl, rfl⟩ := hhd
  have := prP_st K (unL c.ls) (by rw [st_unL, hls])
  rw [← this, hws]
  exact hpr
/-- what a Parse tells, whichever it is -/
def hdR : CoS ⊕ Nat → List Int
  | .inl c => c.hd
  | .inr _ => [0, 0, 0]
def lsR : CoS ⊕ Nat → List LitS
  | .inl c => c.ls
  | .inr _ => []
def wsR : CoS ⊕ Nat → List Int
  | .inl c => c.ws
  | .inr _ => []
def aR : CoS ⊕ Nat → Int
  | .inl _ => 0
  | .inr n => (n : Int)
def eR : CoS ⊕ Nat → Int
  | .inl _ => 0
  | .inr _ => 120
/-- a code in blocks of its own -/
structure Cd (lim : Nat) (R : CoS ⊕ Nat) (K : Co) (lp : Option Addr) (lc : Nat) (pw : Option Addr) (cw : Nat) (w : World) : Prop where
  lx : LitsX w (fun g => lim ≤ g) lp lc K.ts
  row : w.ownsRow lim 3 1 (.slice pw K.ws.length cw) K.ws.length (K.ws.map (Value.int .i64))
  hd : [K.args, K.temps, K.stack] = hdR R
  ls : stL K.ts = lsR R
  ws : K.ws = wsR R
def PaU (W : World) (R : CoS ⊕ Nat) (e : Ending) (w' : World) : Prop :=
  Fr [] W w' ∧ ∃ (K : Co) (lp : Option Addr) (lc : Nat) (pw : Option Addr) (cw : Nat), e = .returned (.tuple #[.agg (K.v lp lc pw cw), .int .i64 (aR R), .int .i64 (eR R)]) ∧ Cd W.heap.size R K lp lc pw cw w'
theorem cd_nil (lim n : Nat) (w : World) : Cd lim (.inr n) co0 none 0 none 0 w := ⟨LitsX.empty _ _, ⟨rfl, .inl ⟨rfl, rfl⟩⟩, rfl, stL_nil, rfl⟩
theorem pax_u {W : World} {R : CoS ⊕ Nat} {e : Ending} {w' : World} (h : PaX W R e w') : PaU W R e w' := by
  obtain ⟨f, h⟩ := h
  refine ⟨f, ?_⟩
  cases R with
  | inl c =>
    obtain ⟨K, lp, lc, pw, cw, h1, h2, h3, h4, -, h6, h7⟩ := h
    exact ⟨K, lp, lc, pw, cw, h1, h6, h7, h2, h3, h4⟩
  | inr n => exact ⟨co0, none, 0, none, 0, h, cd_nil _ _ _⟩
theorem pad_u {W : World} {R : CoS ⊕ Nat} {e : Ending} {w' : World} (h : PaD W R e w') : PaU W R e w' := by
  obtain ⟨f, h⟩ := h
  refine ⟨f, ?_⟩
  cases R with
  | inl c =>
    obtain ⟨K, lp, lc, pw, cw, h1, h2, h3, h4, h6, h7⟩ := h
    exact ⟨K, lp, lc, pw, cw, h1, h6, h7, h2, h3, h4⟩
  | inr n => exact ⟨co0, none, 0, none, 0, h, cd_nil _ _ _⟩
section
variable {lim lim2 : Nat} {R : CoS ⊕ Nat} {K L : Co} {lp lp2 pw pw2 : Option Addr} {lc cw lc2 cw2 : Nat} {w w' : World}
theorem Cd.own (h : Cd lim R K lp lc pw cw w) : ∀ g ∈ blk pw ++ (blk lp ++ ftL K.ts), lim ≤ g ∧ g < w.heap.size := fun g hg => by
  rcases List.mem_append.1 hg with q | q
  · exact own_lt h.row g ((blk_own _ _ _ _).2 q)
  · exact h.lx.feet g q
theorem Cd.keep {S : List Nat} (h : Cd lim R K lp lc pw cw w) (f : Fr S w w') (hS : ∀ g ∈ S, g < lim) : Cd lim R K lp lc pw cw w' :=
  ⟨h.lx.keep f (fun g hg _ hm => by have := hS g hm; omega) (fun g hg _ => hg), own_fr h.row f (fun g hg hm => by have := hS g hm; have := (own_lt h.row g hg).1; omega), h.hd, h.ls, h.ws⟩
theorem Cd.idle (h : Cd lim R K lp lc pw cw w) (f : Fr [] w w') : Cd lim R K lp lc pw cw w' := h.keep f (by simp)
theorem Cd.same (h : Cd lim R K lp lc pw cw w) (h2 : Cd lim2 R L lp2 lc2 pw2 cw2 w') : SameC K L := by
  have e := h.hd.trans h2.hd.symm
  simp only [List.cons.injEq, and_true] at e
  exact ⟨e, h.ls.trans h2.ls.symm, h.ws.trans h2.ws.symm⟩
theorem Cd.call (h : Cd lim R K lp lc pw cw w) (h2 : Cd lim2 R L lp2 lc2 pw2 cw2 w) (hn : K.ws.length ≤ 4096) : Calls Tryz.prog 12 #[.agg (K.v lp lc pw cw), .agg (L.v lp2 lc2 pw2 cw2)] w fun e w' => e = .returned (.bool true) ∧ Fr [] w w' :=
  sameCode_ok K L lp pw lp2 pw2 lc cw lc2 cw2 w h.lx.plain (own_rc h.row) h2.lx.plain (own_rc h2.row) (by omega) (h.same h2)
theorem Cd.small {t : Bs} (h : Cd lim (parP t) K lp lc pw cw w) : K.ws.length ≤ 4096 ∧ (llL K.ts).length ≤ 100000 := by
  have h1 := h.hd
  have h2 := h.ls
  have h3 := h.ws
  cases hp : parP t with
  | inr n =>
    rw [hp] at h2 h3
    have e : K.ts = [] := by
      have := congrArg List.length h2
      rw [stL_len] at this
      exact List.eq_nil_of_length_eq_zero this
    rw [e, h3, llL_nil]
    exact ⟨Nat.zero_le _, Nat.zero_le _⟩
  | inl c =>
    rw [hp] at h1 h2 h3
    have hpr := pr_back2 hp h1 h2 h3
    unfold prP at hpr
    split at hpr
    · cases hpr
    · next q1 =>
      split at hpr
      · next q2 => injection hpr with q3 q4; exact absurd q3 q2
      · next q2 =>
        have q3 : (gaU K.ts 0).1 = 0 := by simpa using q2
        have a1 := ga_llU K.ts 0 q3
        have a2 := gaU_le K.ts 0 (by omega) q3
        omega
end
theorem keepF_in {M U : Nat} {w : World} {Ok : Nat → Prop} {b : Nat} {vW vL vC vM : Value} {Ws Ls Cs Ms : List Value} {K : Co} {lp pw : Option Addr} (h : Bk w Ok b vW vL vC vM Ws Ls Cs Ms) (hM : M ≤ b) (hU : w.heap.size ≤ U) (ho : ∀ g ∈ blk pw ++ (blk lp ++ ftL K.ts), M ≤ g ∧ g < U) : ∀ g ∈ keepF b vW vL vC vM K lp pw, M ≤ g ∧ g < U := by
  have hb := lt_of_heap h.top
  have hr : ∀ {e : TypeId} {v : Value} {n : Nat} {xs : List Value}, w.ownsRow b e 1 v n xs → ∀ g ∈ vb v, M ≤ g ∧ g < U := fun hr g hg => by
    have := own_lt hr g (vb_mem.1 hg)
    omega
  intro g hg
  unfold keepF at hg
  rcases List.mem_append.1 hg with q | q
  · rcases List.mem_cons.1 q with q | q
    · omega
    · rcases List.mem_append.1 q with q | q
      · exact hr h.ints.rA g q
      · exact hr h.ints.rB g q
  · rcases List.mem_append.1 q with q | q
    · rcases List.mem_append.1 q with q | q
      · exact hr h.lits.rA g q
      · exact hr h.lits.rB g q
    · exact ho g q
/-- the book on its way through the texts -/
def RdI (W : World) (wr : World) (i : Nat) : Prop :=
  Fr [] W wr ∧ ∃ vW vL vC vM Ws Ls Cs Ms, Bk wr (fun g => g < wr.heap.size) W.heap.size vW vL vC vM Ws Ls Cs Ms ∧ Ws.length = 2 * i ∧ Cs.length ≤ i * 300000
end Go.Proofs.YtclkoffnjiiioaaGreatDoor
namespace Go.Proofs.YtclkoffnjiiioaaGreatDoor
open Go.RowKit
set_option linter.unusedVariables false
set_option linter.unusedSimpArgs false
attribute [local go_sem ↓] Go.wp_at_zero Go.wp_at_succ
set_option maxRecDepth 100000 in
set_option maxHeartbeats 32000000 in
/-- the law over texts -/
theorem reads_ok (W : World) (hE : Ev W) (h9 : 9 ≤ W.heap.size) (p : Option Addr) (n c : Nat) (hn : n ≤ 2000000) (hr : ∀ i, i < n → ∃ g off t, p = some ⟨g, off, none⟩ ∧ W.cell? ⟨g, off + i, none⟩ = some (.string (bA t)) ∧ t.length ≤ 1100000) :
    Calls Tryz.prog 5 #[.slice p n c] W fun e w' => e = .returned (.bool true) ∧ Fr [] W w' := by
  have HPa : Hid (∀ V, Fr [] W V → ∀ t : Bs, t.length ≤ 1100000 → Calls Tryz.prog 10 #[.string (bA t)] V fun e w' => PaU V (parP t) e w') := fun V hV t ht => (parse_x V (hE.fr0 hV) (Nat.le_trans h9 hV.size) t (by omega)).mono fun e w' h => pax_u h
  have HPd : Hid (∀ V, Fr [] W V → ∀ t : Bs, t.length ≤ 1100000 → Calls Tryz.prog 13 #[.string (bA t)] V fun e w' => PaU V (parP t) e w') := fun V hV t ht => (rparse_ok V (hE.fr0 hV) (Nat.le_trans h9 hV.size) t (by omega)).mono fun e w' h => by rw [parQ_eq] at h; exact pad_u h
  have HNum := mkHid num_ok
  have HRr := mkHid hr
  obtain ⟨b, hb⟩ : ∃ b, b = W.heap.size := ⟨_, rfl⟩
  obtain ⟨W0, hW0⟩ : ∃ V, W.alloc (.cells #[.slice none 0 0, .slice none 0 0, .slice none 0 0, .slice none 0 0] 43) = V := ⟨_, rfl⟩
  have HI0 : Hid (RdI W W0 0) := by
    have f : Fr [] W W0 := by rw [← hW0]; exact Fr.alloc [] W _
    exact ⟨f, _, _, _, _, [], [], [], [], ⟨by rw [← hW0]; exact heap_alloc_new W _, Sh.nil _ _ _ _ _ _, Sh.nil _ _ _ _ _ _⟩, rfl, Nat.le_refl _⟩
  have HW0 := mkHid hW0
  have HB := mkHid hb
  clear hr hE h9 hW0
  go_enter Tryz.func5, Tryz.ntmps5
  go_wp2_with fail
  rw [HW0.out, ← hb]
  clear hb
  go_loopw [4] (fun q wr => ∃ i : Nat, i ≤ n ∧ q = .int .i64 (i : Int) ∧ Hid (RdI W wr i)) (fun q _ => n - (intOf q).toNat)
  case atStart => exact ⟨0, Nat.zero_le _, rfl, HI0.out⟩
  case round =>
    clear HI0 HW0
    obtain ⟨i, hi, rfl, hst⟩ := hrel
    obtain ⟨f0, vW, vL, vC, vM, Ws, Ls, Cs, Ms, hbk, hnW, hnC⟩ := hst.out
    clear hst
    rw [← HB.out] at hbk
    have i0 : (0 : Int) ≤ (i : Int) := by omega
    by_cases hlt : i < n
    · obtain ⟨g, off, t, rfl, hc, ht⟩ := HRr.out i hlt
      have i1 : (i : Int) < (n : Int) := by omega
      obtain ⟨i2, hi2⟩ : ∃ q, q = i + 1 := ⟨_, rfl⟩
      have hwi : IntKind.i64.wrap ((i : Int) + 1) = (i2 : Int) := by rw [iwrap_id (by omega) (by omega)]; omega
      have HI2 : Hid (i2 = i + 1 ∧ i < n ∧ Ws.length = 2 * i ∧ Cs.length ≤ i * 300000 ∧ n ≤ 2000000 ∧ b = W.heap.size) := ⟨hi2, hlt, hnW, hnC, hn, HB.out⟩
      have HF0 := mkHid f0
      have HBk := mkHid hbk
      have HC := mkHid hc
      have HT := mkHid ht
      have c0 : wr.cell? ⟨g, off + i, none⟩ = some (.string (bA t)) := f0.cl hc
      have HP1 := mkHid (HPa.out wr f0 t ht)
      clear f0 hbk hc ht hnW hnC hi2 hlt hi HRr
      generalize wr = U at *
      go_wp2_with fail
      refine HP1.out.mono ?_
      rintro e w1 ⟨f1, K1, lp1, lc1, pw1, cw1, rfl, hc1⟩
      obtain ⟨g1, hg1⟩ : ∃ q, q = w1.heap.size := ⟨_, rfl⟩
      obtain ⟨A1, hA1⟩ : ∃ V, w1.alloc (.cells #[.int .i64 K1.args, .int .i64 K1.temps, .int .i64 K1.stack, .slice lp1 K1.ts.length lc1, .slice pw1 K1.ws.length cw1] 25) = V := ⟨_, rfl⟩
      have fa1 : Fr [] w1 A1 := by rw [← hA1]; exact Fr.alloc [] w1 _
      have sa1 : A1.heap.size = g1 + 1 := by rw [← hA1, hg1]; simp
      have bb1 : A1.heap[g1]? = some (.cells #[.int .i64 K1.args, .int .i64 K1.temps, .int .i64 K1.stack, .slice lp1 K1.ts.length lc1, .slice pw1 K1.ws.length cw1] 25 (0, 0)) := by rw [← hA1, hg1]; exact heap_alloc_new w1 _
      have HF01 : Hid (Fr [] W A1) := (HF0.out.tr0 f1).tr0 fa1
      have HFp1 : Hid (Fr [] U A1) := f1.tr0 fa1
      have HC1 : Hid (Cd U.heap.size (parP t) K1 lp1 lc1 pw1 cw1 A1) := hc1.idle fa1
      have HBb1 := mkHid bb1
      have HSa1 : Hid (A1.heap.size = g1 + 1 ∧ U.heap.size ≤ g1) := ⟨sa1, by rw [hg1]; exact f1.size⟩
      have HA1 := mkHid hA1
      have HG1 := mkHid hg1
      have c1 : ∀ o, (w1.alloc o).cell? ⟨g, off + i, none⟩ = some (.string (bA t)) := fun o => ((HF0.out.tr0 f1).al o).cl HC.out
      have HP2 := mkHid (HPa.out A1 HF01.out t HT.out)
      unfold Co.v
      clear f1 hc1 hg1 hA1 fa1 sa1 bb1 HP1 c0
      go_wp2_with fail
      rw [HA1.out, ← HG1.out]
      refine HP2.out.mono ?_
      rintro e w2 ⟨f2, K2, lp2, lc2, pw2, cw2, rfl, hc2⟩
      obtain ⟨g2, hg2⟩ : ∃ q, q = w2.heap.size := ⟨_, rfl⟩
      obtain ⟨A2, hA2⟩ : ∃ V, w2.alloc (.cells #[.int .i64 K2.args, .int .i64 K2.temps, .int .i64 K2.stack, .slice lp2 K2.ts.length lc2, .slice pw2 K2.ws.length cw2] 25) = V := ⟨_, rfl⟩
      have fa2 : Fr [] w2 A2 := by rw [← hA2]; exact Fr.alloc [] w2 _
      have sa2 : A2.heap.size = g2 + 1 := by rw [← hA2, hg2]; simp
      have bb2 : A2.heap[g2]? = some (.cells #[.int .i64 K2.args, .int .i64 K2.temps, .int .i64 K2.stack, .slice lp2 K2.ts.length lc2, .slice pw2 K2.ws.length cw2] 25 (0, 0)) := by rw [← hA2, hg2]; exact heap_alloc_new w2 _
      have HF02 : Hid (Fr [] W A2) := (HF01.out.tr0 f2).tr0 fa2
      have HFp2 : Hid (Fr [] A1 A2) := f2.tr0 fa2
      have HC2 : Hid (Cd A1.heap.size (parP t) K2 lp2 lc2 pw2 cw2 A2) := hc2.idle fa2
      have HBb2 := mkHid bb2
      have HSa2 : Hid (A2.heap.size = g2 + 1 ∧ A1.heap.size ≤ g2) := ⟨sa2, by rw [hg2]; exact f2.size⟩
      have HA2 := mkHid hA2
      have HG2 := mkHid hg2
      have c2 : ∀ o, (w2.alloc o).cell? ⟨g, off + i, none⟩ = some (.string (bA t)) := fun o => ((HF01.out.tr0 f2).al o).cl HC.out
      have HP3 := mkHid (HPd.out A2 HF02.out t HT.out)
      unfold Co.v
      clear f2 hc2 hg2 hA2 fa2 sa2 bb2 HP2 c1
      go_wp2_with fail
      rw [HA2.out, ← HG2.out]
      refine HP3.out.mono ?_
      rintro e w3 ⟨f3, K3, lp3, lc3, pw3, cw3, rfl, hc3⟩
      obtain ⟨g3, hg3⟩ : ∃ q, q = w3.heap.size := ⟨_, rfl⟩
      obtain ⟨A3, hA3⟩ : ∃ V, w3.alloc (.cells #[.int .i64 K3.args, .int .i64 K3.temps, .int .i64 K3.stack, .slice lp3 K3.ts.length lc3, .slice pw3 K3.ws.length cw3] 25) = V := ⟨_, rfl⟩
      have fa3 : Fr [] w3 A3 := by rw [← hA3]; exact Fr.alloc [] w3 _
      have sa3 : A3.heap.size = g3 + 1 := by rw [← hA3, hg3]; simp
      have bb3 : A3.heap[g3]? = some (.cells #[.int .i64 K3.args, .int .i64 K3.temps, .int .i64 K3.stack, .slice lp3 K3.ts.length lc3, .slice pw3 K3.ws.length cw3] 25 (0, 0)) := by rw [← hA3, hg3]; exact heap_alloc_new w3 _
      have HF03 : Hid (Fr [] W A3) := (HF02.out.tr0 f3).tr0 fa3
      have HFp3 : Hid (Fr [] A2 A3) := f3.tr0 fa3
      have HC3 : Hid (Cd A2.heap.size (parP t) K3 lp3 lc3 pw3 cw3 A3) := hc3.idle fa3
      have HBb3 := mkHid bb3
      have HSa3 : Hid (A3.heap.size = g3 + 1 ∧ A2.heap.size ≤ g3) := ⟨sa3, by rw [hg3]; exact f3.size⟩
      have HA3 := mkHid hA3
      have HG3 := mkHid hg3
      have Hd2 : Hid (Cd U.heap.size (parP t) K1 lp1 lc1 pw1 cw1 A3) := (HC1.out.idle HFp2.out).idle HFp3.out
      have Hd3 : Hid (Cd A1.heap.size (parP t) K2 lp2 lc2 pw2 cw2 A3) := HC2.out.idle HFp3.out
      have HBs : Hid (∀ V, Fr [] A3 V → V.heap[g1]? = some (.cells #[.int .i64 K1.args, .int .i64 K1.temps, .int .i64 K1.stack, .slice lp1 K1.ts.length lc1, .slice pw1 K1.ws.length cw1] 25 (0, 0)) ∧ V.heap[g2]? = some (.cells #[.int .i64 K2.args, .int .i64 K2.temps, .int .i64 K2.stack, .slice lp2 K2.ts.length lc2, .slice pw2 K2.ws.length cw2] 25 (0, 0)) ∧ V.heap[g3]? = some (.cells #[.int .i64 K3.args, .int .i64 K3.temps, .int .i64 K3.stack, .slice lp3 K3.ts.length lc3, .slice pw3 K3.ws.length cw3] 25 (0, 0))) := fun V hV => ⟨hV.hb (HFp3.out.hb (HFp2.out.hb HBb1.out)), hV.hb (HFp3.out.hb HBb2.out), hV.hb HBb3.out⟩
      have HSm : Hid (K1.ws.length ≤ 4096 ∧ (llL K1.ts).length ≤ 100000 ∧ K2.ws.length ≤ 4096 ∧ (llL K2.ts).length ≤ 100000) := ⟨HC1.out.small.1, HC1.out.small.2, HC2.out.small.1, HC2.out.small.2⟩
      have hs1 := Hd2.out.call HC3.out HSm.out.1
      unfold Co.v at hs1
      have HS1 := mkHid hs1
      have hA3' := HA3.out
      have hx := HBs.out A3 (Fr.refl _ _)
      rw [← hA3'] at hx
      have x0 : (w3.alloc (.cells #[.int .i64 K3.args, .int .i64 K3.temps, .int .i64 K3.stack, .slice lp3 K3.ts.length lc3, .slice pw3 K3.ws.length cw3] 25)).cell? ⟨g1, 0, none⟩ = some (.int .i64 K1.args) := cell_in hx.1 0
      have x1 : (w3.alloc (.cells #[.int .i64 K3.args, .int .i64 K3.temps, .int .i64 K3.stack, .slice lp3 K3.ts.length lc3, .slice pw3 K3.ws.length cw3] 25)).cell? ⟨g1, 1, none⟩ = some (.int .i64 K1.temps) := cell_in hx.1 1
      have x2 : (w3.alloc (.cells #[.int .i64 K3.args, .int .i64 K3.temps, .int .i64 K3.stack, .slice lp3 K3.ts.length lc3, .slice pw3 K3.ws.length cw3] 25)).cell? ⟨g1, 2, none⟩ = some (.int .i64 K1.stack) := cell_in hx.1 2
      have x3 : (w3.alloc (.cells #[.int .i64 K3.args, .int .i64 K3.temps, .int .i64 K3.stack, .slice lp3 K3.ts.length lc3, .slice pw3 K3.ws.length cw3] 25)).cell? ⟨g1, 3, none⟩ = some (.slice lp1 K1.ts.length lc1) := cell_in hx.1 3
      have x4 : (w3.alloc (.cells #[.int .i64 K3.args, .int .i64 K3.temps, .int .i64 K3.stack, .slice lp3 K3.ts.length lc3, .slice pw3 K3.ws.length cw3] 25)).cell? ⟨g1, 4, none⟩ = some (.slice pw1 K1.ws.length cw1) := cell_in hx.1 4
      unfold Co.v
      clear hx hA3' hs1 f3 hc3 hA3 fa3 sa3 bb3 HP3 c2 hg3
      go_wp2_with (first
        | (go_at_call 8; refine (HNum.out _ _).mono ?_; rintro e wn ⟨rfl, hw⟩; subst wn))
      rw [HA3.out, ← HG3.out]
      refine HS1.out.mono ?_
      rintro e w4 ⟨rfl, f4⟩
      clear x0 x1 x2 x3 x4 HS1
      have hb4 := HBs.out w4 f4
      have y0 : w4.cell? ⟨g2, 0, none⟩ = some (.int .i64 K2.args) := cell_in hb4.2.1 0
      have y1 : w4.cell? ⟨g2, 1, none⟩ = some (.int .i64 K2.temps) := cell_in hb4.2.1 1
      have y2 : w4.cell? ⟨g2, 2, none⟩ = some (.int .i64 K2.stack) := cell_in hb4.2.1 2
      have y3 : w4.cell? ⟨g2, 3, none⟩ = some (.slice lp2 K2.ts.length lc2) := cell_in hb4.2.1 3
      have y4 : w4.cell? ⟨g2, 4, none⟩ = some (.slice pw2 K2.ws.length cw2) := cell_in hb4.2.1 4
      have z0 : w4.cell? ⟨g3, 0, none⟩ = some (.int .i64 K3.args) := cell_in hb4.2.2 0
      have z1 : w4.cell? ⟨g3, 1, none⟩ = some (.int .i64 K3.temps) := cell_in hb4.2.2 1
      have z2 : w4.cell? ⟨g3, 2, none⟩ = some (.int .i64 K3.stack) := cell_in hb4.2.2 2
      have z3 : w4.cell? ⟨g3, 3, none⟩ = some (.slice lp3 K3.ts.length lc3) := cell_in hb4.2.2 3
      have z4 : w4.cell? ⟨g3, 4, none⟩ = some (.slice pw3 K3.ws.length cw3) := cell_in hb4.2.2 4
      have hs2 := (Hd3.out.idle f4).call (HC3.out.idle f4) HSm.out.2.2.1
      unfold Co.v at hs2
      have HS2 := mkHid hs2
      have HF4 := mkHid f4
      clear hs2 hb4 f4
      go_wp2_with (first
        | (go_at_call 8; refine (HNum.out _ _).mono ?_; rintro e wn ⟨rfl, hw⟩; subst wn))
      refine HS2.out.mono ?_
      rintro e w5 ⟨rfl, f5⟩
      clear y0 y1 y2 y3 y4 z0 z1 z2 z3 z4 HS2
      have F5 : Fr [] A3 w5 := HF4.out.tr0 f5
      have hb5 := HBs.out w5 F5
      have x0 : w5.cell? ⟨g1, 0, none⟩ = some (.int .i64 K1.args) := cell_in hb5.1 0
      have x1 : w5.cell? ⟨g1, 1, none⟩ = some (.int .i64 K1.temps) := cell_in hb5.1 1
      have x2 : w5.cell? ⟨g1, 2, none⟩ = some (.int .i64 K1.stack) := cell_in hb5.1 2
      have x3 : w5.cell? ⟨g1, 3, none⟩ = some (.slice lp1 K1.ts.length lc1) := cell_in hb5.1 3
      have x4 : w5.cell? ⟨g1, 4, none⟩ = some (.slice pw1 K1.ws.length cw1) := cell_in hb5.1 4
      have FU5 : Fr [] U w5 := ((HFp1.out.tr0 HFp2.out).tr0 HFp3.out).tr0 F5
      have cd5 := Hd2.out.idle F5
      have hk1 := keeps_ok w5 b U.heap.size (fun g => g < U.heap.size) vW vL vC vM Ws Ls Cs Ms K1 lp1 lc1 pw1 cw1 ⟨FU5.size, HBk.out.idle FU5, cd5.lx, cd5.row, HSm.out.1, HSm.out.2.1, by have := HI2.out; omega, by have := HI2.out; omega, fun g hg => by have := (cd5.own g hg).1; omega⟩
      have hin1 : ∀ g ∈ keepF b vW vL vC vM K1 lp1 pw1, W.heap.size ≤ g ∧ g < A1.heap.size := keepF_in HBk.out (by have := HI2.out; omega) HFp1.out.size (fun g hg => by have h1 := HC1.out.own g hg; have h2 := HF0.out.size; omega)
      unfold Co.v at hk1
      have HK1 := mkHid hk1
      have HF5 := mkHid F5
      have HFU5 := mkHid FU5
      have HIn1 := mkHid hin1
      clear hk1 hin1 F5 FU5 cd5 hb5 f5
      go_wp2_with (first
        | (go_at_call 8; refine (HNum.out _ _).mono ?_; rintro e wn ⟨rfl, hw⟩; subst wn))
      refine HK1.out.mono ?_
      rintro e w6 ⟨rfl, f6, vW2, vL2, vC2, vM2, Ws2, Ls2, Cs2, Ms2, hbk6, hn6, hm6⟩
      clear x0 x1 x2 x3 x4 HK1
      have hb5 := HBs.out w5 HF5.out
      have q2 : w6.heap[g2]? = some (.cells #[.int .i64 K2.args, .int .i64 K2.temps, .int .i64 K2.stack, .slice lp2 K2.ts.length lc2, .slice pw2 K2.ws.length cw2] 25 (0, 0)) := (f6.block g2 (lt_of_heap hb5.2.1) (fun hm => by have := (HIn1.out g2 hm).2; have := HSa2.out; omega)).trans hb5.2.1
      have q3 : w6.heap[g3]? = some (.cells #[.int .i64 K3.args, .int .i64 K3.temps, .int .i64 K3.stack, .slice lp3 K3.ts.length lc3, .slice pw3 K3.ws.length cw3] 25 (0, 0)) := (f6.block g3 (lt_of_heap hb5.2.2) (fun hm => by have := (HIn1.out g3 hm).2; have := HSa2.out; have := HSa3.out; omega)).trans hb5.2.2
      have y0 : w6.cell? ⟨g2, 0, none⟩ = some (.int .i64 K2.args) := cell_in q2 0
      have y1 : w6.cell? ⟨g2, 1, none⟩ = some (.int .i64 K2.temps) := cell_in q2 1
      have y2 : w6.cell? ⟨g2, 2, none⟩ = some (.int .i64 K2.stack) := cell_in q2 2
      have y3 : w6.cell? ⟨g2, 3, none⟩ = some (.slice lp2 K2.ts.length lc2) := cell_in q2 3
      have y4 : w6.cell? ⟨g2, 4, none⟩ = some (.slice pw2 K2.ws.length cw2) := cell_in q2 4
      have z0 : w6.cell? ⟨g3, 0, none⟩ = some (.int .i64 K3.args) := cell_in q3 0
      have z1 : w6.cell? ⟨g3, 1, none⟩ = some (.int .i64 K3.temps) := cell_in q3 1
      have z2 : w6.cell? ⟨g3, 2, none⟩ = some (.int .i64 K3.stack) := cell_in q3 2
      have z3 : w6.cell? ⟨g3, 3, none⟩ = some (.slice lp3 K3.ts.length lc3) := cell_in q3 3
      have z4 : w6.cell? ⟨g3, 4, none⟩ = some (.slice pw3 K3.ws.length cw3) := cell_in q3 4
      have cd6 := (Hd3.out.idle HF5.out).keep f6 (fun g hg => (HIn1.out g hg).2)
      have ce6 := (HC3.out.idle HF5.out).keep f6 (fun g hg => by have := (HIn1.out g hg).2; have := HFp2.out.size; omega)
      have hs3 := cd6.call ce6 HSm.out.2.2.1
      unfold Co.v at hs3
      have HS3 := mkHid hs3
      have HCd6 := mkHid cd6
      have HQ2 := mkHid q2
      have HBk6 := mkHid hbk6
      have HL6 : Hid (Ws2.length = Ws.length + 1 ∧ Cs2.length ≤ Cs.length + 100001) := ⟨hn6, by rw [hm6]; unfold lls; rw [List.length_cons]; have := HSm.out; omega⟩
      have HFW6 : Hid (Fr [] W w6) := (HF0.out.tr0 HFU5.out).trans f6 (fun g hg => .inr (HIn1.out g hg).1)
      have HS56 : Hid (w5.heap.size ≤ w6.heap.size) := f6.size
      clear f6 hbk6 hn6 hm6 hb5 q2 q3 cd6 ce6 hs3
      go_wp2_with fail
      refine HS3.out.mono ?_
      rintro e w7 ⟨rfl, f7⟩
      clear y0 y1 y2 y3 y4 z0 z1 z2 z3 z4 HS3
      have q7 := f7.hb HQ2.out
      have y0 : w7.cell? ⟨g2, 0, none⟩ = some (.int .i64 K2.args) := cell_in q7 0
      have y1 : w7.cell? ⟨g2, 1, none⟩ = some (.int .i64 K2.temps) := cell_in q7 1
      have y2 : w7.cell? ⟨g2, 2, none⟩ = some (.int .i64 K2.stack) := cell_in q7 2
      have y3 : w7.cell? ⟨g2, 3, none⟩ = some (.slice lp2 K2.ts.length lc2) := cell_in q7 3
      have y4 : w7.cell? ⟨g2, 4, none⟩ = some (.slice pw2 K2.ws.length cw2) := cell_in q7 4
      have cd7 := HCd6.out.idle f7
      have hl7 : W.heap.size ≤ A1.heap.size := HF01.out.size
      have hbk7 := HBk6.out.idle f7
      have own2 : ∀ g ∈ blk pw2 ++ (blk lp2 ++ ftL K2.ts), A1.heap.size ≤ g ∧ g < w5.heap.size := (Hd3.out.idle HF5.out).own
      have hk2 := keeps_ok w7 b A1.heap.size _ vW2 vL2 vC2 vM2 Ws2 Ls2 Cs2 Ms2 K2 lp2 lc2 pw2 cw2 ⟨by have := HS56.out; have := f7.size; have := ((HFp2.out.tr0 HFp3.out).tr0 HF5.out).size; omega, hbk7, cd7.lx, cd7.row, HSm.out.2.2.1, HSm.out.2.2.2, by have := HI2.out; have := HL6.out; omega, by have := HI2.out; have := HL6.out; omega, fun g hg hq => by
        have h1 := own2 g hg
        rcases hq with q | q | q
        · have := HFp1.out.size; omega
        · have := (HC1.out.own g q).2; omega
        · omega⟩
      have hin2 : ∀ g ∈ keepF b vW2 vL2 vC2 vM2 K2 lp2 pw2, W.heap.size ≤ g ∧ g < w7.heap.size := keepF_in hbk7 (by have := HI2.out; omega) (Nat.le_refl _) (fun g hg => by have h1 := cd7.own g hg; omega)
      unfold Co.v at hk2
      have HK2 := mkHid hk2
      have HIn2 := mkHid hin2
      have HFW7 : Hid (Fr [] W w7) := HFW6.out.tr0 f7
      clear q7 cd7 hl7 hbk7 own2 hk2 hin2 f7
      go_wp2_with fail
      refine HK2.out.mono ?_
      rintro e w8 ⟨rfl, f8, vW3, vL3, vC3, vM3, Ws3, Ls3, Cs3, Ms3, hbk8, hn8, hm8⟩
      have HNx : Hid (RdI W w8 i2) := by
        refine ⟨HFW7.out.trans f8 (fun g hg => .inr (HIn2.out g hg).1), vW3, vL3, vC3, vM3, Ws3, Ls3, Cs3, Ms3, ?_, ?_, ?_⟩
        · rw [← HB.out]; exact hbk8.up (fun g hg _ => hg)
        · rw [hn8]; have := HL6.out; have := HI2.out; omega
        · rw [hm8]; unfold lls; rw [List.length_cons]; have := HL6.out; have := HI2.out; have := HSm.out; omega
      clear f8 hbk8 hn8 hm8 y0 y1 y2 y3 y4 HK2
      go_wp2_with fail
      go_roundw
      case rel => exact ⟨i2, by have := HI2.out; omega, rfl, HNx.out⟩
      case measure => have := HI2.out; simp [intOf]; omega
    · have hie : i = n := by omega
      have i1 : ¬ (i : Int) < (n : Int) := by omega
      have HH := mkHid (holds_ok wr _ b vW vL vC vM Ws Ls Cs Ms hbk (by omega) (by omega))
      have HF0 := mkHid f0
      clear hbk f0 hnW hnC hlt hi HRr hie
      generalize wr = U at *
      go_wp2_with fail
      refine HH.out.mono ?_
      rintro e w1 ⟨rfl, rfl⟩
      go_wp2_with fail
      go_ret
      exact ⟨rfl, HF0.out⟩
end Go.Proofs.YtclkoffnjiiioaaGreatDoor
namespace Go.Proofs.YtclkoffnjiiioaaGreatDoor
open Go.ChangeShapes Go.WideShapes Go.ChangeAt Go.RowKit
set_option linter.unusedVariables false
theorem eOwn : ownKnob Tryz.prog.godebug = none := by kernel_rfl
theorem egTab : Tryz.prog.globalNamed "kiln/listing.operations" = some 0 := by kernel_rfl
theorem etTab : (Tryz.prog.globals[0]?).map (·.type) = some 83 := by kernel_rfl
theorem egPow : Tryz.prog.globalNamed "internal/strconv.uint64pow10" = some 1 := by kernel_rfl
theorem etPow : (Tryz.prog.globals[1]?).map (·.type) = some 153 := by kernel_rfl
theorem egSyn : Tryz.prog.globalNamed "strconv.ErrSyntax" = some 3 := by kernel_rfl
theorem etSyn : (Tryz.prog.globals[3]?).map (·.type) = some 130 := by kernel_rfl
theorem egRng : Tryz.prog.globalNamed "strconv.ErrRange" = some 4 := by kernel_rfl
theorem etRng : (Tryz.prog.globals[4]?).map (·.type) = some 130 := by kernel_rfl
theorem egAcc : Tryz.prog.globalNamed "unicode/utf8.acceptRanges" = some 8 := by kernel_rfl
theorem ePowData : (Rows.laid_internal_strconv_uint64pow10 : DataW Unit) = Lib.tabData .u64 Lib.pow10Tab := by kernel_rfl
theorem ec189 : Tryz.prog.cellsOf 189 = 1 := by kernel_rfl
theorem eStar : "*" ++ "errors.errorString" = "*errors.errorString" := by decide
theorem eRow187 (u : TypeId) (h : Tryz.prog.typeName? 3 u = some "*errors.errorString") : u = 187 :=
  typeName_ptr_named (nm := "errors.errorString") (by rw [eStar]; kernel_rfl) (by kernel_rfl) (by decide) u (by rw [eStar]; exact h)
abbrev eLaid : List (String × DataW Unit) := [("math/bits.deBruijn32tab", Rows.laid_math_bits_deBruijn32tab), ("math/bits.deBruijn64tab", Rows.laid_math_bits_deBruijn64tab), ("internal/strconv.uint64pow10", Rows.laid_internal_strconv_uint64pow10), ("unicode/utf8.acceptRanges", Rows.laid_unicode_utf8_acceptRanges), ("strconv.ErrRange", Rows.laid_strconv_ErrRange), ("strconv.ErrSyntax", Rows.laid_strconv_ErrSyntax), ("kiln/listing.operations", Rows.laid_kiln_listing_operations), ("unicode/utf8.first", Rows.laid_unicode_utf8_first)]
def opVals : List (ByteArray × Int) := (List.range 29).map fun i => (nmB i, (opd i : Int))
theorem opData : (Rows.laid_kiln_listing_operations : DataW Unit) = .agg (opVals.map fun v => .agg [.lit (.string v.1.data.toList), .lit (.int .i64 v.2)]) := by kernel_rfl
theorem op_at (i : Nat) (hi : i < 29) : opVals[i]? = some (nmB i, (opd i : Int)) := by
  unfold opVals
  rw [List.getElem?_map, List.getElem?_range hi]
  rfl
theorem er_of {W : World} {g : Nat} {n : String} (hg : Tryz.prog.globalNamed n = some g) {a : Addr} (h : W.var? Tryz.prog n = some #[.iface 187 (.pointer (some a))]) : Er W g :=
  ⟨.iface 187 (.pointer (some a)), by have := World.var?_cell hg h 0; simpa using this, .inr ⟨187, _, rfl⟩⟩
theorem of_laid {W : World} (h : laidMetH Tryz.prog eLaid W) : Ev W ∧ 9 ≤ W.heap.size := by
  rw [MakeChecks.laidMetH_plain _ _ _ (by kernel_rfl)] at h
  have h2 := laidMet.tail (laidMet.tail h)
  have h3 := laidMet.tail h2
  have h4 := laidMet.tail h3
  have h5 := laidMet.tail h4
  have h6 := laidMet.tail h5
  obtain ⟨a4, -, hv4, -⟩ := laid_sentinel h4 egRng etRng Tryz.underlying130 eRow187 Tryz.underlying187 Tryz.underlying189 rfl rfl Tryz.underlying9 ec189 oc9
  obtain ⟨a5, -, hv5, -⟩ := laid_sentinel h5 egSyn etSyn Tryz.underlying130 eRow187 Tryz.underlying187 Tryz.underlying189 rfl rfl Tryz.underlying9 ec189 oc9
  have hP : Pw W := by
    obtain ⟨ps, ⟨g2, t2, cs2, f2, p2, q2, hg2, ht2, hv2, hd2, _, _⟩, _, _⟩ := h2
    obtain rfl := Option.some.inj (egPow.symm.trans hg2)
    obtain rfl := Option.some.inj (etPow.symm.trans ht2)
    rw [ePowData] at hd2
    have e := Lib.cells_of_tab Tryz.underlying153 Tryz.underlying121 (by kernel_rfl) (by kernel_rfl) hd2
    show W.var? Tryz.prog "internal/strconv.uint64pow10" = _
    rw [hv2, ← e]
  have h9 : 9 ≤ W.heap.size := by
    obtain ⟨ps, ⟨g3, t3, cs3, f3, p3, q3, hg3, ht3, hv3, hd3, _, _⟩, _, _⟩ := h3
    obtain rfl := Option.some.inj (egAcc.symm.trans hg3)
    unfold World.var? at hv3
    rw [egAcc] at hv3
    simp only [Option.bind_some] at hv3
    rcases Nat.lt_or_ge 8 W.heap.size with q | q
    · exact q
    · rw [Array.getElem?_eq_none q] at hv3
      cases hv3
  have hT : Tb W := by
    obtain ⟨ps, ⟨g0, t0, cs0, f0, p0, q0, hg0, ht0, hv0, hd0, _, _⟩, _, _⟩ := h6
    obtain rfl := Option.some.inj (egTab.symm.trans hg0)
    obtain rfl := Option.some.inj (etTab.symm.trans ht0)
    rw [opData] at hd0
    intro i hi
    obtain ⟨h1, h2⟩ := two_table (vals := opVals) hd0 i _ (op_at i hi)
    exact ⟨by rw [World.var?_cell hg0 hv0 (i * 2), ← Array.getElem?_toList]; exact h1, by rw [World.var?_cell hg0 hv0 (i * 2 + 1), ← Array.getElem?_toList]; exact h2⟩
  exact ⟨⟨hT, hP, er_of egSyn hv5, er_of egRng hv4⟩, h9⟩
theorem eLaidOut : laidOutB Tryz.prog = true := by kernel_rfl
theorem toBelow {w w' : World} (h : Fr [] w w') : Below w.heap.size w w' := h.below (Nat.le_refl _) (by simp)
abbrev arg0 : Value := .agg #[.int .i64 0, .int .i64 0, .int .i64 0, .slice none 0 0, .slice none 0 0]
abbrev dat0 {H : Type} : DataW H := .agg [.lit (.int .i64 0), .lit (.int .i64 0), .lit (.int .i64 0), .nil, .nil]
theorem laid_met (os : Os) (args : Array Value) : laidMetH Tryz.prog eLaid ((World.laidAll Tryz.prog os eLaid).forCall (fun _ _ => 0) ⟨#[], args, []⟩).memory := by
  rw [MakeChecks.laidMetH_plain _ _ _ (by kernel_rfl)]
  exact laidMet_laidAll _ (by kernel_rfl) (by kernel_rfl)
end Go.Proofs.YtclkoffnjiiioaaGreatDoor
