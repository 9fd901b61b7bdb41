import Derived.Test.YtheolmnjedbjmaaGreatDoorSEnv
import Derived.RangeFuncNested
import Derived.RangeFuncBound
import Derived.RangeFuncCalls
import Derived.RangeFuncLeaves
import Derived.Shelf.Abstract
import Derived.Shelf.RegionOpen
import Derived.WalkKit
import Derived.OwnWalkIn
import Derived.TacticsInMore
import Derived.LoopNIn
import Derived.LoopIn
import Derived.Shelf.Strings.Search2
import Derived.RegionIn
import Derived.Test.YtheolmnjedbjmaaGreatDoorSL6
namespace Go.Proofs.YtheolmnjedbjmaaGreatDoor
open Go.RowKit Go.Shelf
set_option linter.unusedVariables false
set_option linter.unusedSimpArgs false
theorem fr_put (W : World) (l : Nat) (o : Obj) : Fr [l] W (W.putObj l o) := ⟨rfl, rfl, rfl, by simp, fun k hk hn => World.putObj_heap_other (by simpa using hn)⟩
/-- what a loop over an iterator keeps for itself: blocks since B that are no cells -/
def Kn (B : Nat) (W W' : World) : Prop := ∀ b o, B ≤ b → W.heap[b]? = some o → o.isCells = false → W'.heap[b]? = some o
/-- whatever the iterator and the loop itself do, this stands -/
def Stays {β : Type} (B sB : Nat) (I : β → World → Prop) : Prop := ∀ s A C b, I s A → Fr [b] A C → ((b = sB ∧ ∃ x : Value, C.heap[sB]? = some (.cells #[x] 9 (0, 0))) ∨ B ≤ b ∧ ∃ o : Obj, A.heap[b]? = some o ∧ o.isCells = false) → I s C
/-- an iterator that writes one box of its own, sB: it gives the things of L in order -/
def SeqB {α : Type} (n : Nat) (P : Program) (gf : Nat) (lb : Array Value) (encs : α → Array Value) (sB : Nat) (Kp : World → World → Prop) (L : List α) (w : World) : Prop :=
  ∀ (l : Nat) (J Jx : List α → World → Prop) (W : World), Bl w W → (∀ s A C, J s A → Fr [sB] A C → (∃ x : Value, C.heap[sB]? = some (.cells #[x] 9 (0, 0))) → J s C) → (∀ s A C, Jx s A → Fr [sB] A C → (∃ x : Value, C.heap[sB]? = some (.cells #[x] 9 (0, 0))) → Jx s C) →
    (∀ pre x W1, J pre W1 → (pre ++ [x]) <+: L → YieldAt Fence.wide (n - 1) P l (encs x) W1 fun e W' => (e = .returned (.bool true) ∧ J (pre ++ [x]) W' ∧ Kp W1 W') ∨ (e = .returned (.bool false) ∧ Jx (pre ++ [x]) W')) →
    J [] W → CallsIn Fence.wide n P gf (#[.func (.yield l) #[] #[]] ++ lb) W fun e W' => (∃ v, e = .returned v) ∧ (J L W' ∨ ∃ pre, Jx pre W')
/-- how the body of a round is left -/
def LeftB {α : Type} (B : Nat) (Kp : World → World → Prop) (I Ix : List α → World → Prop) (xs : List α) (W : World) : Exit → Act → World → Prop
  | .normal, _, W' => Kn B W W' ∧ Kp W W' ∧ I xs W'
  | .ret, _, W' => Kn B W W' ∧ Ix xs W'
  | _, _, _ => False
set_option maxHeartbeats 1000000 in
/-- a range over such an iterator -/
theorem range_box {α : Type} {n : Nat} {P : Program} {g : Operand} {ps : Array Tmp} {assign body : Code} {Q : Exit → Act → World → Prop} {a : Act} {w : World} (h1 : 1 ≤ n) {gf : Nat} {lb : Array Value} (hg : a.eval g = .func (.func gf) #[] lb) (eg : Enters P gf)
    {encs : α → Array Value} {sB : Nat} {Kp : World → World → Prop} {L : List α} (hseq : SeqB (n - 1) P gf lb encs sB Kp L w) (hsB : sB < w.heap.size) (hKt : ∀ A B C, Kp A B → Kp B C → Kp A C) (hKb : ∀ A l o, w.heap.size ≤ l → Kp A (A.putObj l o)) (hps : ∀ x, (encs x).size = ps.size)
    (I Ix : List α → World → Prop) (hI : Stays w.heap.size sB I) (hIx : Stays w.heap.size sB Ix) (h0 : ∀ W, Bl w W → I [] W) (a1 : α → Act)
    (hassign : ∀ (l : Nat) (x : α) (W : World) (K : Act → World → Prop), K (a1 x) W → assign.wpIn (Fence.wide.inRound l) (n - 1 - 1) P (Exit.then K (fun _ _ _ => False)) { tmps := (ps.zip (encs x)).foldl (fun t (p, v) => t.setIfInBounds p v) a.tmps, defers := [] } W)
    (hbody : ∀ (l : Nat) (pre : List α) (x : α) (W : World), I pre W → (pre ++ [x]) <+: L → body.wpIn (Fence.wide.inRound l) (n - 1 - 1) P (LeftB w.heap.size Kp I Ix (pre ++ [x]) W) (a1 x) W)
    (hdone : ∀ (D : Nat) (W : World), w.heap.size ≤ D → I L W → W.heap[D]? = some (.deferred (some [])) → Q .normal { a with defers := { target := .collected D, args := #[] } :: a.defers } W)
    (hstop : ∀ (D : Nat) (pre : List α) (W : World), w.heap.size ≤ D → Ix pre W → W.heap[D]? = some (.deferred (some [])) → Code.ret.wpIn Fence.wide n P Q { a with defers := { target := .collected D, args := #[] } :: a.defers } W) :
    (Code.rangeFunc g ps assign body).wpIn Fence.wide n P Q a w := by
  refine wpIn_rangeFunc fun fn hfn => ?_
  obtain ⟨d, hd⟩ : ∃ d, w.heap.size = d := ⟨_, rfl⟩
  obtain ⟨lp, hlp⟩ : ∃ lp : LoopState → Option Code → Loop, lp = fun st pe => { state := st, pending := pe, fn := fn, tmps := a.tmps, params := ps, assign := assign, body := body, defers := d } := ⟨_, rfl⟩
  have ent := run_enterLoop_outer (P := P) (w := w) fn a.tmps ps assign body
  rw [hd] at ent
  obtain ⟨V, hV⟩ : ∃ V, (w.alloc (.deferred (some []))).alloc (.loop (lp .ready none)) = V := ⟨_, rfl⟩
  have entV : (Instr.enterLoop fn a.tmps ps assign body none).run P w = .ok (d + 1, [{ target := .collected d, args := #[] }]) V := by rw [ent, ← hV, hlp]
  have bV : Bl w V := hV ▸ (Bl.alloc _ _).trans (Bl.alloc _ _)
  have recV : V.heap[d + 1]? = some (.loop (lp .ready none)) := by
    have := heap_alloc_new (w.alloc (.deferred (some []))) (.loop (lp .ready none))
    rw [World.size_alloc, hd, hV] at this
    exact this
  have defV : V.heap[d]? = some (.deferred (some [])) := by
    rw [← hV, Below.heap_alloc _ _ _ (by rw [World.size_alloc]; omega), ← hd]
    exact heap_alloc_new w _
  rw [hd] at hsB hKb hI hIx hbody hdone hstop
  refine ⟨d + 1, _, V, { target := .fn (.func gf) lb, args := #[.func (.yield (d + 1)) #[] #[]] }, V, gf, #[.func (.yield (d + 1)) #[] #[]] ++ lb, V, entV, by simp only [resolve, hg]; simp [go_sem], fun _ _ => trivial, by have := eg; unfold Enters at this; simp [invoke, go_sem, this], fun _ => h1, ?_⟩
  refine (hseq (d + 1) (fun pre W => I pre W ∧ W.heap[d + 1]? = some (.loop (lp .ready none)) ∧ W.heap[d]? = some (.deferred (some [])))
    (fun pre W => Ix pre W ∧ W.heap[d + 1]? = some (.loop (lp .done (some .ret))) ∧ W.heap[d]? = some (.deferred (some []))) V bV
    (fun s A C h f hx => ⟨hI s A C sB h.1 f (Or.inl ⟨rfl, hx⟩), (f.block _ (lt_of_heap h.2.1) (by simp; omega)).trans h.2.1, (f.block _ (lt_of_heap h.2.2) (by simp; omega)).trans h.2.2⟩)
    (fun s A C h f hx => ⟨hIx s A C sB h.1 f (Or.inl ⟨rfl, hx⟩), (f.block _ (lt_of_heap h.2.1) (by simp; omega)).trans h.2.1, (f.block _ (lt_of_heap h.2.2) (by simp; omega)).trans h.2.2⟩)
    ?_ ⟨h0 V bV, recV, defV⟩).mono ?_
  · rintro pre x W ⟨hi, hl, hk⟩ hpre
    have hy := run_yield (P := P) (args := encs x) hl (by rw [hlp]; exact hps x)
    rw [hlp] at hy
    refine ⟨fn, _, assign, body, hy, roundIn_of_wpIn hfn (hassign (d + 1) x W _ ⟨_, run_beginRound hl (by rw [hlp]), ?_⟩)⟩
    obtain ⟨U, hU⟩ : ∃ U, W.putObj (d + 1) (.loop { lp .ready none with state := .busy }) = U := ⟨_, rfl⟩
    have fU : Fr [d + 1] W U := hU ▸ fr_put _ _ _
    have lU : U.heap[d + 1]? = some (.loop { lp .ready none with state := .busy }) := hU ▸ World.putObj_heap_same (lt_of_heap hl)
    have kU : U.heap[d]? = some (.deferred (some [])) := (fU.block _ (lt_of_heap hk) (by simp)).trans hk
    have pU : Kp W U := hU ▸ hKb W _ _ (by omega)
    rw [hU]
    refine wpIn_mono (hbody (d + 1) pre x U (hI _ _ _ _ hi fU (Or.inr ⟨by omega, _, hl, rfl⟩)) hpre) ?_
    intro e a3 W3 hp
    have fin : ∀ jump : Option Code, Kn d U W3 → ∃ X, (Instr.endRound (d + 1) jump).run P W3 = .ok (.bool jump.isNone) X ∧ Fr [d + 1] W3 X ∧ W3.heap[d + 1]? = some (.loop { lp .ready none with state := .busy }) ∧ X = W3.putObj (d + 1) (.loop (lp (if jump.isNone then .ready else .done) jump)) ∧ X.heap[d + 1]? = some (.loop (lp (if jump.isNone then .ready else .done) jump)) ∧ X.heap[d]? = some (.deferred (some [])) := fun jump kn => by
      have l3 := kn _ _ (by omega) lU rfl
      have k3 := kn _ _ (Nat.le_refl _) kU rfl
      have er := run_endRound (P := P) jump l3
      rw [hlp] at er
      refine ⟨_, ?_, fr_put _ _ _, l3, rfl, World.putObj_heap_same (lt_of_heap l3), (World.putObj_heap_other (by omega)).trans k3⟩
      rw [hlp]
      exact er
    cases e with
    | normal =>
      obtain ⟨kn, kp, hi3⟩ := hp
      obtain ⟨X, er, fX, l3, eX, lX, kX⟩ := fin none kn
      exact ⟨_, X, er, Or.inl ⟨rfl, ⟨hI _ _ _ _ hi3 fX (Or.inr ⟨by omega, _, l3, rfl⟩), lX, kX⟩, hKt _ _ _ (hKt _ _ _ pU kp) (eX ▸ hKb _ _ _ (by omega))⟩⟩
    | ret =>
      obtain ⟨kn, hi3⟩ := hp
      obtain ⟨X, er, fX, l3, eX, lX, kX⟩ := fin (some .ret) kn
      exact ⟨_, X, er, Or.inr ⟨rfl, hIx _ _ _ _ hi3 fX (Or.inr ⟨by omega, _, l3, rfl⟩), lX, kX⟩⟩
    | exit id => exact hp.elim
    | goto t => exact hp.elim
    | panic ch => exact hp.elim
    | outgrown => exact hp.elim
  · rintro e W2 ⟨⟨v, rfl⟩, (⟨hi, hl, hk⟩ | ⟨pre, hi, hl, hk⟩)⟩
    · refine ⟨none, _, by have := run_endLoop (P := P) hl (by rw [hlp]; simp); rw [hlp] at this; exact this, ?_⟩
      exact hdone d _ (Nat.le_refl _) (hI _ _ _ _ hi (fr_put _ _ _) (Or.inr ⟨by omega, _, hl, rfl⟩)) ((World.putObj_heap_other (by omega)).trans hk)
    · refine ⟨some .ret, _, by have := run_endLoop (P := P) hl (by rw [hlp]; simp); rw [hlp] at this; exact this, ?_⟩
      exact hstop d pre _ (Nat.le_refl _) (hIx _ _ _ _ hi (fr_put _ _ _) (Or.inr ⟨by omega, _, hl, rfl⟩)) ((World.putObj_heap_other (by omega)).trans hk)
end Go.Proofs.YtheolmnjedbjmaaGreatDoor

namespace Go.Proofs.YtheolmnjedbjmaaGreatDoor
open Go.RowKit Go.Shelf
set_option linter.unusedVariables false
set_option linter.unusedSimpArgs false
attribute [local go_sem] Oper.semAt_some
theorem ba_ext (l : Bs) (a b : Nat) : (ba l).extract a b = ba ((l.drop a).take (b - a)) := by
  apply ByteArray.ext
  rw [ByteArray.data_extract]
  show (l.toArray).extract a b = ((l.drop a).take (b - a)).toArray
  simp [List.extract_toArray]
def Bx (sB : Nat) (t : Bs) (W : World) : Prop := W.heap[sB]? = some (.cells #[.string (ba t)] 9 (0, 0))
def Kb (sB : Nat) (A C : World) : Prop := C.heap[sB]? = A.heap[sB]?
def leftIn (sB : Nat) (W : World) : Nat := match W.cell? ⟨sB, 0, none⟩ with | some (.string s) => s.size | _ => 0
set_option maxRecDepth 100000 in
set_option maxHeartbeats 8000000 in
theorem lines_in (n : Nat) (hn : 1 ≤ n) (lp sB : Nat) (t : Bs) (ht : t.length ≤ 70368744177664) (J Jx : List Bs → World → Prop)
    (hJ : ∀ s A C, J s A → Fr [sB] A C → (∃ x : Value, C.heap[sB]? = some (.cells #[x] 9 (0, 0))) → J s C)
    (hY : ∀ pre x W1, J pre W1 → (pre ++ [x]) <+: linesT t → YieldAt Fence.wide (n - 1) Tryz.prog lp #[.string (ba x)] W1 fun e W' => (e = .returned (.bool true) ∧ J (pre ++ [x]) W' ∧ Kb sB W1 W') ∨ (e = .returned (.bool false) ∧ Jx (pre ++ [x]) W'))
    (W : World) (h : Bx sB t W) (h0 : J [] W) :
    CallsIn Fence.wide n Tryz.prog 49 #[.func (.yield lp) #[] #[], .pointer (some ⟨sB, 0, none⟩)] W fun e W' => (∃ v, e = .returned v) ∧ (J (linesT t) W' ∨ ∃ pre, Jx pre W') := by
  have HX := mkHid h
  clear h
  refine callsIn_of_wp Tryz.func49 rfl trivial ?_ rfl
  simp only [Tryz.ntmps49, List.size_toArray, List.length_cons, List.length_nil, Nat.reduceAdd, Nat.reduceSub, Array.replicate_succ, Array.replicate_zero, List.push_toArray, List.append_toArray, List.nil_append, List.cons_append]
  gi_wp2
  gi_loopw [3] (fun _ wr => ∃ pre rest, Hid (pre ++ linesT rest = linesT t) ∧ Hid (rest.length ≤ t.length) ∧ J pre wr ∧ Hid (Bx sB rest wr)) (fun _ wr => leftIn sB wr)
  case atStart => exact ⟨[], t, rfl, Nat.le_refl _, h0, HX⟩
  case round =>
    obtain ⟨pre, rest, hP, hL, hj, hB⟩ := hrel
    have e1 : wr.cell? ⟨sB, 0, none⟩ = some (.string (ba rest)) := by rw [cell_in hB.out]; rfl
    have e2 : wr.frozen? ⟨sB, 0, none⟩ = false := frozen_in hB.out 0
    have hsz : (ba rest).size = rest.length := ba_size rest
    by_cases hre : rest = []
    · subst hre
      have hd : Hid (J (linesT t) wr) := mkHid (by rw [← hP.out]; simpa [linesT] using hj)
      clear hP hL hB
      gi_wp2
      go_end0
      exact ⟨⟨_, rfl⟩, .inl hd.out⟩
    · have hpos : (0 : Int) < (rest.length : Int) := by have : 0 < rest.length := List.length_pos_iff.2 hre; omega
      have HI := mkHid (Tryz.strings_IndexByte (ba rest) 10 wr)
      rw [ba_data] at HI
      have h10 : (10 : Int).toNat.toUInt8 = (10 : UInt8) := rfl
      rw [h10] at HI
      have hl := hL.out
      rcases lines_at rest hre with ⟨q1, q2, q3⟩ | ⟨k, q1, q2, q3⟩
      · rw [q1] at HI
        have hlast : Hid (pre ++ [rest] = linesT t) := mkHid (by rw [← hP.out, q2])
        have fS : Fr [sB] wr (wr.setCell ⟨sB, 0, none⟩ (.string ⟨#[]⟩)) := Fr.setCell _ _ _ (by simp)
        have sS : (wr.setCell ⟨sB, 0, none⟩ (.string ⟨#[]⟩)).heap[sB]? = some (.cells #[.string ⟨#[]⟩] 9 (0, 0)) := set_in hB.out 0 _
        obtain ⟨fn, tmps, assign, body, hy, hR⟩ := hY pre rest (wr.setCell ⟨sB, 0, none⟩ (.string ⟨#[]⟩)) (hJ _ _ _ hj fS ⟨_, sS⟩) (by rw [hlast.out]; exact List.prefix_rfl)
        have hM : Hid (leftIn sB wr = rest.length) := mkHid (by unfold leftIn; rw [e1]; exact hsz)
        have hp0 : 0 < rest.length := List.length_pos_iff.2 hre
        clear q1 q2 q3 hP hB fS hre
        gi_wp2
        refine ⟨trivial, ?_⟩
        refine (callsIn_wide.2 HI.out).mono ?_
        rintro e W5 ⟨rfl, hw5⟩
        have hw6 := hw5.symm
        subst hw6
        clear hw5
        gi_wp2
        refine hR.mono ?_
        clear hy hR
        rintro e W6 (⟨rfl, hJ6, hk6⟩ | ⟨rfl, hJx6⟩)
        · have g1 : W6.heap[sB]? = some (.cells #[.string ⟨#[]⟩] 9 (0, 0)) := hk6.trans sS
          have c1 : W6.cell? ⟨sB, 0, none⟩ = some (.string ⟨#[]⟩) := by rw [cell_in g1]; rfl
          gi_wp2
          refine ⟨⟨_, [], mkHid (by simpa [linesT] using hlast.out), mkHid (by simp), hJ6, g1⟩, ?_⟩
          rw [hM.out]
          unfold leftIn
          rw [c1]
          exact hp0
        · gi_wp2
          refine bodyPost_ret (results_none rfl _ _ _) rfl ?_
          exact ⟨⟨_, rfl⟩, .inr ⟨_, hJx6⟩⟩
      · rw [q1] at HI
        have hnext : Hid ((pre ++ [rest.take (k + 1)]) ++ linesT (rest.drop (k + 1)) = linesT t) := mkHid (by rw [← hP.out, q3]; simp)
        have x1 : (ba rest).extract 0 (k + 1) = ba (rest.take (k + 1)) := by rw [ba_ext]; simp
        have x2 : (ba rest).extract (k + 1) rest.length = ba (rest.drop (k + 1)) := by
          rw [ba_ext, List.take_of_length_le (by simp)]
        have fS : Fr [sB] wr (wr.setCell ⟨sB, 0, none⟩ (.string (ba (rest.drop (k + 1))))) := Fr.setCell _ _ _ (by simp)
        have sS : (wr.setCell ⟨sB, 0, none⟩ (.string (ba (rest.drop (k + 1))))).drew.heap[sB]? = some (.cells #[.string (ba (rest.drop (k + 1)))] 9 (0, 0)) := set_in hB.out 0 _
        obtain ⟨fn, tmps, assign, body, hy, hR⟩ := hY pre (rest.take (k + 1)) ((wr.setCell ⟨sB, 0, none⟩ (.string (ba (rest.drop (k + 1))))).drew) (hJ _ _ _ hj (fS.trans (Fr.drew [sB] _) (fun b hb => Or.inl hb)) ⟨_, sS⟩) ⟨linesT (rest.drop (k + 1)), hnext.out⟩
        have k0 : (0 : Int) ≤ (k : Int) := by omega
        have k1 : (0 : Int) ≤ (k : Int) + 1 := by omega
        have k3 : (k : Int) + 1 ≤ rest.length := by omega
        have k4 : (k : Int) + 1 ≤ (ba rest).size := by rw [hsz]; omega
        have kw : IntKind.i64.wrap ((k : Int) + 1) = (k : Int) + 1 := wrap_id _ (by omega) (by omega)
        have hL2 : Hid ((rest.drop (k + 1)).length ≤ t.length) := mkHid (by simp; omega)
        have hM : Hid ((rest.drop (k + 1)).length < rest.length) := mkHid (by simp; omega)
        have hM2 : Hid (leftIn sB wr = rest.length) := mkHid (by unfold leftIn; rw [e1]; exact hsz)
        clear q1 q3 hP hB fS hre
        gi_wp2
        refine ⟨trivial, ?_⟩
        refine (callsIn_wide.2 HI.out).mono ?_
        rintro e W5 ⟨rfl, hw5⟩
        have hw6 := hw5.symm
        subst hw6
        clear hw5
        gi_wp2
        gi_region
        gi_wp2
        refine hR.mono ?_
        clear hy hR
        rintro e W6 (⟨rfl, hJ6, hk6⟩ | ⟨rfl, hJx6⟩)
        · have g1 : W6.heap[sB]? = some (.cells #[.string (ba (rest.drop (k + 1)))] 9 (0, 0)) := hk6.trans sS
          have c1 : W6.cell? ⟨sB, 0, none⟩ = some (.string (ba (rest.drop (k + 1)))) := by rw [cell_in g1]; rfl
          gi_wp2
          refine ⟨⟨_, rest.drop (k + 1), hnext, hL2, hJ6, g1⟩, ?_⟩
          rw [hM2.out]
          unfold leftIn
          rw [c1]
          show (ba (rest.drop (k + 1))).size < _
          rw [ba_size]
          exact hM.out
        · gi_wp2
          refine bodyPost_ret (results_none rfl _ _ _) rfl ?_
          exact ⟨⟨_, rfl⟩, .inr ⟨_, hJx6⟩⟩
/-- the iterator's contract -/
theorem lines_seq (n : Nat) (hn : 1 ≤ n) (sB : Nat) (t : Bs) (ht : t.length ≤ 70368744177664) (w : World) (h : Bx sB t w) :
    SeqB n Tryz.prog 49 #[.pointer (some ⟨sB, 0, none⟩)] (fun x : Bs => #[Value.string (ba x)]) sB (Kb sB) (linesT t) w := by
  intro l J Jx W hW hJ hJx hY h0
  exact lines_in n hn l sB t ht J Jx hJ hY W ((hW.block _ (lt_of_heap h)).trans h) h0
set_option maxHeartbeats 1000000 in
theorem lines_ok (t : Bs) (w : World) : Calls Tryz.prog 30 #[.string (ba t)] w fun e w' => e = .returned (.func (.func 49) #[] #[.pointer (some ⟨w.heap.size, 0, none⟩)]) ∧ Bl w w' ∧ w'.heap.size = w.heap.size + 1 ∧ Bx w.heap.size t w' := by
  have hmf : ∀ (fn : Fn) (first cap : Array Value) (w : World), (Instr.makeFunc fn first cap).run Tryz.prog w = .ok (.func fn first cap) w := fun _ _ _ _ => rfl
  have hX : Hid (Bl w (w.alloc (.cells #[.string (ba t)] 9)) ∧ (w.alloc (.cells #[.string (ba t)] 9)).heap.size = w.heap.size + 1 ∧ Bx w.heap.size t (w.alloc (.cells #[.string (ba t)] 9))) := ⟨Bl.alloc _ _, by simp, heap_alloc_new w _⟩
  go_enter Tryz.func30, Tryz.ntmps30
  go_wp2_with fail
  go_ret
  exact ⟨rfl, hX.out⟩
set_option maxHeartbeats 1000000 in
theorem trim_ok (l : Bs) (w : World) (hl : l.length ≤ 70368744177664) : Calls Tryz.prog 32 #[.string (ba l), .string ⟨#[10]⟩] w fun e w' => e = .returned (.string (ba (cutNl l))) ∧ w' = w := by
  have := Tryz.strings_TrimSuffix (ba l) ⟨#[10]⟩ w (by rw [ba_size]; omega)
  rw [ba_data] at this
  exact this
end Go.Proofs.YtheolmnjedbjmaaGreatDoor

namespace Go.Proofs.YtheolmnjedbjmaaGreatDoor
open Go.RowKit
set_option linter.unusedVariables false
set_option linter.unusedSimpArgs false
attribute [local go_sem ↓] Go.wp_at_zero Go.wp_at_succ
theorem ext_list (s : ByteArray) (a b : Nat) : (s.extract a b).data.toList = (s.data.toList.drop a).take (b - a) := by
  rw [ByteArray.data_extract, Array.toList_extract]
theorem drop_cut (s : ByteArray) (a i : Nat) (ha : a ≤ i) (hi : i < s.size) : s.data.toList.drop a = (s.extract a i).data.toList ++ s[i] :: s.data.toList.drop (i + 1) := by
  have hl : s.data.toList.length = s.size := Array.length_toList
  rw [ext_list]
  have e : s.data.toList.drop a = (s.data.toList.drop a).take (i - a) ++ (s.data.toList.drop a).drop (i - a) := (List.take_append_drop _ _).symm
  have e2 : (s.data.toList.drop a).drop (i - a) = s[i] :: s.data.toList.drop (i + 1) := by
    rw [List.drop_drop]
    have : a + (i - a) = i := by omega
    rw [this, List.drop_eq_getElem_cons (by rw [hl]; exact hi)]
    congr 1
  rw [← e2]
  exact e
theorem ext_ten (s : ByteArray) (a b : Nat) (h : ∀ (j : Nat) (hj : j < s.size), a ≤ j → j < b → s[j]'hj ≠ 10) : (10 : UInt8) ∉ (s.extract a b).data.toList := fun hm => ext_mem s a b (fun c => c ≠ 10) h 10 hm rfl
theorem u8_ten (b : UInt8) : ((b.toNat : Int) == 10) = decide (b = 10) := by
  by_cases h : b = 10
  · subst h; rfl
  · rw [decide_eq_false h, beq_eq_false_iff_ne]
    intro e
    apply h
    have : b.toNat = 10 := by omega
    rw [← UInt8.ofNat_toNat (x := b), this]
    rfl
set_option maxRecDepth 100000 in
set_option maxHeartbeats 8000000 in
theorem rlines_ok' (s : ByteArray) (hs : s.size ≤ 4398046511104) (w : World) : Calls Tryz.prog 33 #[.string s] w fun e w' => ∃ p c, e = .returned (.slice p (linesB s.data.toList).length c) ∧ Mine w w' p c ((linesB s.data.toList).map ba) := by
  have H0 := mkHid (mine_nil w)
  go_enter Tryz.func33, Tryz.ntmps33
  go_wp2_with fail
  go_loopw [3, 4, 5] (fun o a q wr => ∃ (i at_ : Nat) (acc : List Bs) (p : Option Addr) (c : Nat), o = .slice p acc.length c ∧ a = .int .i64 (at_ : Int) ∧ q = .int .i64 (i : Int) ∧ Hid (at_ ≤ i ∧ i ≤ s.size ∧ acc.length ≤ at_ ∧ (∀ (j : Nat) (hj : j < s.size), at_ ≤ j → j < i → s[j]'hj ≠ 10) ∧ acc ++ linesB (s.data.toList.drop at_) = linesB s.data.toList ∧ Mine w wr p c (acc.map ba))) (fun _ _ q _ => s.size - (intOf q).toNat)
  case atStart => exact ⟨0, 0, [], none, 0, rfl, rfl, rfl, Nat.le_refl _, Nat.zero_le _, Nat.le_refl _, fun j _ _ h => by omega, by simp, H0.out⟩
  case round =>
    clear H0
    obtain ⟨i, at_, acc, p, c, rfl, rfl, rfl, hst⟩ := hrel
    obtain ⟨h1, h2, h3, h4, h5, h6⟩ := hst.out
    have i0 : (0 : Int) ≤ (i : Int) := by omega
    have a0 : (0 : Int) ≤ (at_ : Int) := by omega
    by_cases hlt : i < s.size
    · have i1 : (i : Int) < (s.size : Int) := by omega
      have i2 : (i : Int) ≤ (s.size : Int) := by omega
      have i3 : (at_ : Int) ≤ (i : Int) := by omega
      obtain ⟨b, hb⟩ : ∃ b, s[i] = b := ⟨_, rfl⟩
      have hbi : s[i] = b := hb
      have ht := u8_ten b
      by_cases hb10 : b = 10
      · have ht1 : ((b.toNat : Int) == 10) = true := by rw [ht]; simp [hb10]
        have hcut := drop_cut s at_ i h1 hlt
        rw [hb, hb10] at hcut
        have hno := ext_ten s at_ i h4
        obtain ⟨p', c', w', r1, r2⟩ := mine_push h6 (s.extract at_ i) (by simp; omega)
        rw [List.length_map] at r1
        have HR := mkHid r1
        have HX : Hid ((acc ++ [(s.extract at_ i).data.toList]) ++ linesB (s.data.toList.drop (i + 1)) = linesB s.data.toList ∧ Mine w w' p' c' ((acc ++ [(s.extract at_ i).data.toList]).map ba)) := mkHid (by
          refine ⟨by rw [← h5, hcut, linesB_nl _ _ hno]; simp, ?_⟩
          have : (acc ++ [(s.extract at_ i).data.toList]).map ba = acc.map ba ++ [s.extract at_ i] := by rw [List.map_append, List.map_cons, List.map_nil, ba_of]
          rw [this]
          exact r2)
        have hal : Hid (acc.length ≤ at_) := mkHid h3
        clear hst h2 h3 h4 h5 h6 ht hb10 hcut hno r1 r2 hb
        go_wp2_with (at_builtin; refine Lib.wpList_append_run _ rfl (.tmp 16) (.tmp 21) 38 38 rfl _ _ rfl rfl _ _ HR.out ?_)
        go_roundw
        case rel => exact ⟨i + 1, i + 1, _, p', c', by rw [List.length_append]; rfl, by go_num, by go_num, Nat.le_refl _, by omega, by have := hal.out; simp; omega, fun j _ _ h => by omega, HX.out.1, HX.out.2⟩
        case measure => simp [intOf]; omega
      · have ht1 : ((b.toNat : Int) == 10) = false := by rw [ht]; simp [hb10]
        have HX : Hid (acc.length ≤ at_ ∧ (∀ (j : Nat) (hj : j < s.size), at_ ≤ j → j < i + 1 → s[j]'hj ≠ 10) ∧ acc ++ linesB (s.data.toList.drop at_) = linesB s.data.toList ∧ Mine w wr p c (acc.map ba)) := mkHid ⟨h3, fun j hj q1 q2 => by
          by_cases e : j = i
          · subst e; rw [hb]; exact hb10
          · exact h4 j hj q1 (by omega), h5, h6⟩
        clear hst h2 h3 h4 h5 h6 ht hb10 hb
        go_wp2_with fail
        go_roundw
        case rel => exact ⟨i + 1, at_, acc, p, c, rfl, rfl, by go_num, by omega, by omega, HX.out⟩
        case measure => simp [intOf]; omega
    · have hie : i = s.size := by omega
      subst hie
      by_cases hat : at_ < s.size
      · have i1 : (at_ : Int) < (s.size : Int) := by omega
        have i2 : (at_ : Int) ≤ (s.size : Int) := by omega
        have hno := ext_ten s at_ s.size h4
        have hall : s.data.toList.drop at_ = (s.extract at_ s.size).data.toList := by
          rw [ext_list, List.take_of_length_le]
          rw [List.length_drop, Array.length_toList]
          exact Nat.le_refl _
        have hne : (s.extract at_ s.size).data.toList ≠ [] := by
          rw [← hall]
          intro e
          have := congrArg List.length e
          rw [List.length_drop, Array.length_toList] at this
          have hs2 : s.data.size = s.size := rfl
          simp at this
          omega
        obtain ⟨p', c', w', r1, r2⟩ := mine_push h6 (s.extract at_ s.size) (by simp; omega)
        rw [List.length_map] at r1
        have HR := mkHid r1
        have HX : Hid (acc.length + 1 = (linesB s.data.toList).length ∧ Mine w w' p' c' ((linesB s.data.toList).map ba)) := mkHid (by
          have e : linesB s.data.toList = acc ++ [(s.extract at_ s.size).data.toList] := by rw [← h5, hall, linesB_last _ hno hne]
          have e2 : (acc ++ [(s.extract at_ s.size).data.toList]).map ba = acc.map ba ++ [s.extract at_ s.size] := by rw [List.map_append, List.map_cons, List.map_nil, ba_of]
          rw [e, e2]
          exact ⟨by simp, r2⟩)
        clear hst h1 h2 h3 h4 h5 h6 hno hall hne r1 r2
        go_wp2_with (at_builtin; refine Lib.wpList_append_run _ rfl (.tmp 29) (.tmp 33) 38 38 rfl _ _ rfl rfl _ _ HR.out ?_)
        go_ret
        exact ⟨p', c', by rw [HX.out.1]; rfl, HX.out.2⟩
      · have hae : at_ = s.size := by omega
        have HX : Hid (acc.length = (linesB s.data.toList).length ∧ Mine w wr p c ((linesB s.data.toList).map ba)) := mkHid (by
          have e : s.data.toList.drop at_ = [] := List.drop_eq_nil_of_le (by rw [Array.length_toList]; have hs2 : s.data.size = s.size := rfl; omega)
          rw [e] at h5
          have e2 : linesB s.data.toList = acc := by rw [← h5]; simp [linesB, linesT]
          rw [e2]
          exact ⟨rfl, h6⟩)
        clear hst h1 h2 h3 h4 h5 h6
        subst hae
        have i1 : ¬ ((s.size : Int) < (s.size : Int)) := by omega
        go_wp2_with fail
        go_ret
        exact ⟨p, c, by rw [HX.out.1]; rfl, HX.out.2⟩
theorem rlines_ok (t : Bs) (hs : t.length ≤ 4398046511104) (w : World) : Calls Tryz.prog 33 #[.string (ba t)] w fun e w' => ∃ p c, e = .returned (.slice p (linesB t).length c) ∧ Mine w w' p c ((linesB t).map ba) := by
  have := rlines_ok' (ba t) (by rw [ba_size]; exact hs) w
  rwa [ba_data] at this
end Go.Proofs.YtheolmnjedbjmaaGreatDoor

