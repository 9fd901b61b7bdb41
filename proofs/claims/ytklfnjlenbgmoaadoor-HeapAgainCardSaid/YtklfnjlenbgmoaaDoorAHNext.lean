import Derived.Test.YtklfnjlenbgmoaaDoorAG25HBoth
namespace Go.Proofs.YtklfnjlenbgmoaaDoor
open Go.RowKit
set_option linter.unusedVariables false
/-- what the model is behind an allocation -/
def allocN (M : MS) (X A B : Int) : MS :=
  if isW X = false ∨ A < 0 ∨ B < 0 ∨ 1 < B then M
  else if 8192 < A then M
  else if M.oops = thereTo M.things M.things.length ∨ M.words < endTo M.things M.things.length + lenN A.toNat B.toNat then M
  else if M.mark = 1 then { M with mark := 0 }
  else { M with mark := M.mark - 1, things := putTh M.things (lowTo M.things - 1) ⟨true, X, B.toNat, endTo M.things M.things.length, List.replicate A.toNat (newX B.toNat), none, 0⟩ }
theorem allocN_bad {M : MS} {X A B : Int} (h : isW X = false ∨ A < 0 ∨ B < 0 ∨ 1 < B) : allocN M X A B = M := if_pos h
theorem allocN_big {M : MS} {X A B : Int} (h : ¬ (isW X = false ∨ A < 0 ∨ B < 0 ∨ 1 < B)) (h2 : 8192 < A) : allocN M X A B = M := by
  unfold allocN; rw [if_neg h, if_pos h2]
theorem allocN_full {M : MS} {X A B : Int} (h : ¬ (isW X = false ∨ A < 0 ∨ B < 0 ∨ 1 < B)) (h2 : ¬ 8192 < A) (h3 : M.oops = thereTo M.things M.things.length ∨ M.words < endTo M.things M.things.length + lenN A.toNat B.toNat) : allocN M X A B = M := by
  unfold allocN; rw [if_neg h, if_neg h2, if_pos h3]
theorem allocN_mark {M : MS} {X A B : Int} (h : ¬ (isW X = false ∨ A < 0 ∨ B < 0 ∨ 1 < B)) (h2 : ¬ 8192 < A) (h3 : ¬ (M.oops = thereTo M.things M.things.length ∨ M.words < endTo M.things M.things.length + lenN A.toNat B.toNat)) (h4 : M.mark = 1) : allocN M X A B = { M with mark := 0 } := by
  unfold allocN; rw [if_neg h, if_neg h2, if_neg h3, if_pos h4]
theorem allocN_made {M : MS} {X A B : Int} (h : ¬ (isW X = false ∨ A < 0 ∨ B < 0 ∨ 1 < B)) (h2 : ¬ 8192 < A) (h3 : ¬ (M.oops = thereTo M.things M.things.length ∨ M.words < endTo M.things M.things.length + lenN A.toNat B.toNat)) (h4 : M.mark ≠ 1) : allocN M X A B = { M with mark := M.mark - 1, things := putTh M.things (lowTo M.things - 1) ⟨true, X, B.toNat, endTo M.things M.things.length, List.replicate A.toNat (newX B.toNat), none, 0⟩ } := by
  unfold allocN; rw [if_neg h, if_neg h2, if_neg h3, if_neg h4]
theorem putTh_bare (S : List Th) (k : Nat) (t : Th) : (putTh S k t).map bare = putTh (S.map bare) k (bare t) := by
  unfold putTh
  rw [List.length_map]
  split
  · rw [List.map_set]
  · simp
/-- what the model is behind a Keep -/
def keepN (M : MS) (zs : List Int) : MS := if zs.all (mhas M) = true then { M with things := keptTh M.things (zs.map Int.toNat) } else M
def exchN (M : MS) (A B : Int) : MS := if mhas M A = true ∧ mhas M B = true then { M with things := (M.things.set (A.toNat - 1) (M.things.getD (B.toNat - 1) noTh)).set (B.toNat - 1) (M.things.getD (A.toNat - 1) noTh) } else M
def putN (M : MS) (A B X : Int) : MS := if mhas M A = true ∧ 0 ≤ B ∧ B < ((M.things.getD (A.toNat - 1) noTh).slots.length : Int) ∧ mayB X ((M.things.getD (A.toNat - 1) noTh).fmt : Int) = true then { M with things := M.things.set (A.toNat - 1) (withSlot (M.things.getD (A.toNat - 1) noTh) B.toNat X) } else M
def clsN (M : MS) (A X : Int) : MS := if mhas M A = true ∧ isW X = true then { M with things := M.things.set (A.toNat - 1) (withCls (M.things.getD (A.toNat - 1) noTh) X) } else M
def freeN (M : MS) (A : Int) : MS := if mhas M A = true then { M with things := M.things.set (A.toNat - 1) (gone (M.things.getD (A.toNat - 1) noTh)) } else M
def markN (M : MS) (A : Int) : MS := if isM A = true then { M with mark := A.toNat } else M
/-- what the model is behind a step -/
def nextM (M : MS) (K A B X : Int) (zs : List Int) : MS :=
  if K = 1 then allocN M X A B
  else if K = 2 then markN M A
  else if K = 3 then freeN M A
  else if K = 5 then clsN M A X
  else if K = 7 then putN M A B X
  else if K = 8 then exchN M A B
  else if K = 11 then keepN M zs
  else M
theorem sub1 (k : Nat) : ((k : Int) + 1).toNat - 1 = k := by omega
theorem map_nat_back (ks : List Nat) : (ks.map (fun n : Nat => (n : Int))).map Int.toNat = ks := by
  rw [List.map_map]
  conv => rhs; rw [← List.map_id ks]
  exact List.map_congr_left fun x _ => rfl
end Go.Proofs.YtklfnjlenbgmoaaDoor
