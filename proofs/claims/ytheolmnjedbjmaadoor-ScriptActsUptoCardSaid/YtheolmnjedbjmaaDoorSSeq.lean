import Derived.Test.YtheolmnjedbjmaaDoorSEnv
import Derived.RangeFuncNested
import Derived.RangeFuncBound
import Derived.RangeFuncCalls
import Derived.RangeFuncLeaves
import Derived.Shelf.Abstract
import Derived.Shelf.RegionOpen
import Derived.WalkKit
import Derived.OwnWalkIn
import Derived.TacticsInMore
import Derived.LoopNIn
import Derived.LoopIn
namespace Go.Proofs.YtheolmnjedbjmaaDoor
open Go.RowKit Go.Shelf
set_option linter.unusedVariables false
set_option linter.unusedSimpArgs false
theorem fr_put (W : World) (l : Nat) (o : Obj) : Fr [l] W (W.putObj l o) := ⟨rfl, rfl, rfl, by simp, fun k hk hn => World.putObj_heap_other (by simpa using hn)⟩
/-- what a loop over an iterator keeps for itself: blocks since B that are no cells -/
def Kn (B : Nat) (W W' : World) : Prop := ∀ b o, B ≤ b → W.heap[b]? = some o → o.isCells = false → W'.heap[b]? = some o
/-- whatever the iterator and the loop itself do, this stands -/
def Stays {β : Type} (B sB : Nat) (I : β → World → Prop) : Prop := ∀ s A C b, I s A → Fr [b] A C → ((b = sB ∧ ∃ x : Value, C.heap[sB]? = some (.cells #[x] 9 (0, 0))) ∨ B ≤ b ∧ ∃ o : Obj, A.heap[b]? = some o ∧ o.isCells = false) → I s C
/-- an iterator that writes one box of its own, sB: it gives the things of L in order -/
def SeqB {α : Type} (n : Nat) (P : Program) (gf : Nat) (lb : Array Value) (encs : α → Array Value) (sB : Nat) (Kp : World → World → Prop) (L : List α) (w : World) : Prop :=
  ∀ (l : Nat) (J Jx : List α → World → Prop) (W : World), Bl w W → (∀ s A C, J s A → Fr [sB] A C → (∃ x : Value, C.heap[sB]? = some (.cells #[x] 9 (0, 0))) → J s C) → (∀ s A C, Jx s A → Fr [sB] A C → (∃ x : Value, C.heap[sB]? = some (.cells #[x] 9 (0, 0))) → Jx s C) →
    (∀ pre x W1, J pre W1 → (pre ++ [x]) <+: L → YieldAt Fence.wide (n - 1) P l (encs x) W1 fun e W' => (e = .returned (.bool true) ∧ J (pre ++ [x]) W' ∧ Kp W1 W') ∨ (e = .returned (.bool false) ∧ Jx (pre ++ [x]) W')) →
    J [] W → CallsIn Fence.wide n P gf (#[.func (.yield l) #[] #[]] ++ lb) W fun e W' => (∃ v, e = .returned v) ∧ (J L W' ∨ ∃ pre, Jx pre W')
/-- how the body of a round is left -/
def LeftB {α : Type} (B : Nat) (Kp : World → World → Prop) (I Ix : List α → World → Prop) (xs : List α) (W : World) : Exit → Act → World → Prop
  | .normal, _, W' => Kn B W W' ∧ Kp W W' ∧ I xs W'
  | .ret, _, W' => Kn B W W' ∧ Ix xs W'
  | _, _, _ => False
set_option maxHeartbeats 1000000 in
/-- a range over such an iterator -/
theorem range_box {α : Type} {n : Nat} {P : Program} {g : Operand} {ps : Array Tmp} {assign body : Code} {Q : Exit → Act → World → Prop} {a : Act} {w : World} (h1 : 1 ≤ n) {gf : Nat} {lb : Array Value} (hg : a.eval g = .func (.func gf) #[] lb) (eg : Enters P gf)
    {encs : α → Array Value} {sB : Nat} {Kp : World → World → Prop} {L : List α} (hseq : SeqB (n - 1) P gf lb encs sB Kp L w) (hsB : sB < w.heap.size) (hKt : ∀ A B C, Kp A B → Kp B C → Kp A C) (hKb : ∀ A l o, w.heap.size ≤ l → Kp A (A.putObj l o)) (hps : ∀ x, (encs x).size = ps.size)
    (I Ix : List α → World → Prop) (hI : Stays w.heap.size sB I) (hIx : Stays w.heap.size sB Ix) (h0 : ∀ W, Bl w W → I [] W) (a1 : α → Act)
    (hassign : ∀ (l : Nat) (x : α) (W : World) (K : Act → World → Prop), K (a1 x) W → assign.wpIn (Fence.wide.inRound l) (n - 1 - 1) P (Exit.then K (fun _ _ _ => False)) { tmps := (ps.zip (encs x)).foldl (fun t (p, v) => t.setIfInBounds p v) a.tmps, defers := [] } W)
    (hbody : ∀ (l : Nat) (pre : List α) (x : α) (W : World), I pre W → (pre ++ [x]) <+: L → body.wpIn (Fence.wide.inRound l) (n - 1 - 1) P (LeftB w.heap.size Kp I Ix (pre ++ [x]) W) (a1 x) W)
    (hdone : ∀ (D : Nat) (W : World), w.heap.size ≤ D → I L W → W.heap[D]? = some (.deferred (some [])) → Q .normal { a with defers := { target := .collected D, args := #[] } :: a.defers } W)
    (hstop : ∀ (D : Nat) (pre : List α) (W : World), w.heap.size ≤ D → Ix pre W → W.heap[D]? = some (.deferred (some [])) → Code.ret.wpIn Fence.wide n P Q { a with defers := { target := .collected D, args := #[] } :: a.defers } W) :
    (Code.rangeFunc g ps assign body).wpIn Fence.wide n P Q a w := by
  refine wpIn_rangeFunc fun fn hfn => ?_
  obtain ⟨d, hd⟩ : ∃ d, w.heap.size = d := ⟨_, rfl⟩
  obtain ⟨lp, hlp⟩ : ∃ lp : LoopState → Option Code → Loop, lp = fun st pe => { state := st, pending := pe, fn := fn, tmps := a.tmps, params := ps, assign := assign, body := body, defers := d } := ⟨_, rfl⟩
  have ent := run_enterLoop_outer (P := P) (w := w) fn a.tmps ps assign body
  rw [hd] at ent
  obtain ⟨V, hV⟩ : ∃ V, (w.alloc (.deferred (some []))).alloc (.loop (lp .ready none)) = V := ⟨_, rfl⟩
  have entV : (Instr.enterLoop fn a.tmps ps assign body none).run P w = .ok (d + 1, [{ target := .collected d, args := #[] }]) V := by rw [ent, ← hV, hlp]
  have bV : Bl w V := hV ▸ (Bl.alloc _ _).trans (Bl.alloc _ _)
  have recV : V.heap[d + 1]? = some (.loop (lp .ready none)) := by
    have := heap_alloc_new (w.alloc (.deferred (some []))) (.loop (lp .ready none))
    rw [World.size_alloc, hd, hV] at this
    exact this
  have defV : V.heap[d]? = some (.deferred (some [])) := by
    rw [← hV, Below.heap_alloc _ _ _ (by rw [World.size_alloc]; omega), ← hd]
    exact heap_alloc_new w _
  rw [hd] at hsB hKb hI hIx hbody hdone hstop
  refine ⟨d + 1, _, V, { target := .fn (.func gf) lb, args := #[.func (.yield (d + 1)) #[] #[]] }, V, gf, #[.func (.yield (d + 1)) #[] #[]] ++ lb, V, entV, by simp only [resolve, hg]; simp [go_sem], fun _ _ => trivial, by have := eg; unfold Enters at this; simp [invoke, go_sem, this], fun _ => h1, ?_⟩
  refine (hseq (d + 1) (fun pre W => I pre W ∧ W.heap[d + 1]? = some (.loop (lp .ready none)) ∧ W.heap[d]? = some (.deferred (some [])))
    (fun pre W => Ix pre W ∧ W.heap[d + 1]? = some (.loop (lp .done (some .ret))) ∧ W.heap[d]? = some (.deferred (some []))) V bV
    (fun s A C h f hx => ⟨hI s A C sB h.1 f (Or.inl ⟨rfl, hx⟩), (f.block _ (lt_of_heap h.2.1) (by simp; omega)).trans h.2.1, (f.block _ (lt_of_heap h.2.2) (by simp; omega)).trans h.2.2⟩)
    (fun s A C h f hx => ⟨hIx s A C sB h.1 f (Or.inl ⟨rfl, hx⟩), (f.block _ (lt_of_heap h.2.1) (by simp; omega)).trans h.2.1, (f.block _ (lt_of_heap h.2.2) (by simp; omega)).trans h.2.2⟩)
    ?_ ⟨h0 V bV, recV, defV⟩).mono ?_
  · rintro pre x W ⟨hi, hl, hk⟩ hpre
    have hy := run_yield (P := P) (args := encs x) hl (by rw [hlp]; exact hps x)
    rw [hlp] at hy
    refine ⟨fn, _, assign, body, hy, roundIn_of_wpIn hfn (hassign (d + 1) x W _ ⟨_, run_beginRound hl (by rw [hlp]), ?_⟩)⟩
    obtain ⟨U, hU⟩ : ∃ U, W.putObj (d + 1) (.loop { lp .ready none with state := .busy }) = U := ⟨_, rfl⟩
    have fU : Fr [d + 1] W U := hU ▸ fr_put _ _ _
    have lU : U.heap[d + 1]? = some (.loop { lp .ready none with state := .busy }) := hU ▸ World.putObj_heap_same (lt_of_heap hl)
    have kU : U.heap[d]? = some (.deferred (some [])) := (fU.block _ (lt_of_heap hk) (by simp)).trans hk
    have pU : Kp W U := hU ▸ hKb W _ _ (by omega)
    rw [hU]
    refine wpIn_mono (hbody (d + 1) pre x U (hI _ _ _ _ hi fU (Or.inr ⟨by omega, _, hl, rfl⟩)) hpre) ?_
    intro e a3 W3 hp
    have fin : ∀ jump : Option Code, Kn d U W3 → ∃ X, (Instr.endRound (d + 1) jump).run P W3 = .ok (.bool jump.isNone) X ∧ Fr [d + 1] W3 X ∧ W3.heap[d + 1]? = some (.loop { lp .ready none with state := .busy }) ∧ X = W3.putObj (d + 1) (.loop (lp (if jump.isNone then .ready else .done) jump)) ∧ X.heap[d + 1]? = some (.loop (lp (if jump.isNone then .ready else .done) jump)) ∧ X.heap[d]? = some (.deferred (some [])) := fun jump kn => by
      have l3 := kn _ _ (by omega) lU rfl
      have k3 := kn _ _ (Nat.le_refl _) kU rfl
      have er := run_endRound (P := P) jump l3
      rw [hlp] at er
      refine ⟨_, ?_, fr_put _ _ _, l3, rfl, World.putObj_heap_same (lt_of_heap l3), (World.putObj_heap_other (by omega)).trans k3⟩
      rw [hlp]
      exact er
    cases e with
    | normal =>
      obtain ⟨kn, kp, hi3⟩ := hp
      obtain ⟨X, er, fX, l3, eX, lX, kX⟩ := fin none kn
      exact ⟨_, X, er, Or.inl ⟨rfl, ⟨hI _ _ _ _ hi3 fX (Or.inr ⟨by omega, _, l3, rfl⟩), lX, kX⟩, hKt _ _ _ (hKt _ _ _ pU kp) (eX ▸ hKb _ _ _ (by omega))⟩⟩
    | ret =>
      obtain ⟨kn, hi3⟩ := hp
      obtain ⟨X, er, fX, l3, eX, lX, kX⟩ := fin (some .ret) kn
      exact ⟨_, X, er, Or.inr ⟨rfl, hIx _ _ _ _ hi3 fX (Or.inr ⟨by omega, _, l3, rfl⟩), lX, kX⟩⟩
    | exit id => exact hp.elim
    | goto t => exact hp.elim
    | panic ch => exact hp.elim
    | outgrown => exact hp.elim
  · rintro e W2 ⟨⟨v, rfl⟩, (⟨hi, hl, hk⟩ | ⟨pre, hi, hl, hk⟩)⟩
    · refine ⟨none, _, by have := run_endLoop (P := P) hl (by rw [hlp]; simp); rw [hlp] at this; exact this, ?_⟩
      exact hdone d _ (Nat.le_refl _) (hI _ _ _ _ hi (fr_put _ _ _) (Or.inr ⟨by omega, _, hl, rfl⟩)) ((World.putObj_heap_other (by omega)).trans hk)
    · refine ⟨some .ret, _, by have := run_endLoop (P := P) hl (by rw [hlp]; simp); rw [hlp] at this; exact this, ?_⟩
      exact hstop d pre _ (Nat.le_refl _) (hIx _ _ _ _ hi (fr_put _ _ _) (Or.inr ⟨by omega, _, hl, rfl⟩)) ((World.putObj_heap_other (by omega)).trans hk)
end Go.Proofs.YtheolmnjedbjmaaDoor
