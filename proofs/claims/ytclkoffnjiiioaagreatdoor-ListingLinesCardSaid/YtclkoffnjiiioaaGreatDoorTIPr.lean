import Derived.Test.YtclkoffnjiiioaaGreatDoorTCSy5
import Derived.Lib.ItoaNum
import Derived.Lib.UnsafeStr
namespace Go.Proofs.YtclkoffnjiiioaaGreatDoor
open Go.RowKit
set_option linter.unusedVariables false
set_option linter.unusedSimpArgs false
/-- may a literal be one, its elements left aside -/
def mayB (t : LitT) : Bool :=
  if t.kind = 1 ∨ t.kind = 3 then t.text.toList.isEmpty && ((t.kids.length : Int) == 0)
  else if t.kind = 2 then decide ((t.text.size : Int) ≤ 256) && (t.num == 0) && ((t.kids.length : Int) == 0)
  else if t.kind = 4 then decide ((t.kids.length : Int) ≤ 32) && (t.num == 0) && t.text.toList.isEmpty
  else if t.kind = 5 ∨ t.kind = 6 ∨ t.kind = 7 then (t.num == 0) && t.text.toList.isEmpty && ((t.kids.length : Int) == 0)
  else false
def topB (t : LitT) : Bool := (decide (t.kind = 2) || decide (t.kind = 4)) && mayB t
mutual
/-- the elements of a literal are counted and looked at -/
def gaT : LitT → Nat → Int × Nat
  | .mk k _ _ _ _ kids, n => if k = 4 then gaL kids n else (0, n)
def gaL : List LitT → Nat → Int × Nat
  | [], n => (0, n)
  | t :: ts, n => if mayB t = false then (120, n) else if 4096 < n + 1 then (73, n + 1) else if (gaT t (n + 1)).1 ≠ 0 then gaT t (n + 1) else gaL ts (gaT t (n + 1)).2
end
/-- the literals of a code -/
def gaU : List LitT → Nat → Int × Nat
  | [], n => (0, n)
  | t :: ts, n => if topB t = false then (120, n) else if (gaT t n).1 ≠ 0 then gaT t n else gaU ts (gaT t n).2
theorem gaT_at (t : LitT) (n : Nat) : gaT t n = if t.kind = 4 then gaL t.kids n else (0, n) := by cases t; rw [gaT]; rfl
theorem gaL_nil (n : Nat) : gaL [] n = (0, n) := by rw [gaL]
theorem gaL_cons (t : LitT) (ts : List LitT) (n : Nat) : gaL (t :: ts) n = if mayB t = false then (120, n) else if 4096 < n + 1 then (73, n + 1) else if (gaT t (n + 1)).1 ≠ 0 then gaT t (n + 1) else gaL ts (gaT t (n + 1)).2 := by rw [gaL]
/-- a byte of a text, written -/
def hexD (n : Nat) : UInt8 := [48, 49, 50, 51, 52, 53, 54, 55, 56, 57, 97, 98, 99, 100, 101, 102].getD n 0
def escB (c : UInt8) : List UInt8 := if c = 39 ∨ c = 92 then [92, c] else if 32 ≤ c ∧ c ≤ 126 then [c] else [92, 120, hexD (c.toNat / 16), hexD (c.toNat % 16)]
def textW (s : ByteArray) : List UInt8 := 39 :: (s.data.toList.flatMap escB ++ [39])
mutual
/-- a literal, written -/
def wrT : LitT → List UInt8
  | .mk k tx n _ _ kids => if k = 1 then Lib.itoa n else if k = 2 then textW tx else if k = 3 then 35 :: Lib.itoa n else if k = 5 then [110, 105, 108] else if k = 6 then [116, 114, 117, 101] else if k = 7 then [102, 97, 108, 115, 101] else 40 :: (wrL kids true ++ [41])
def wrL : List LitT → Bool → List UInt8
  | [], _ => []
  | t :: ts, f => (if f then [] else [32]) ++ wrT t ++ wrL ts false
end
theorem wrT_at (t : LitT) : wrT t = if t.kind = 1 then Lib.itoa t.num else if t.kind = 2 then textW t.text else if t.kind = 3 then 35 :: Lib.itoa t.num else if t.kind = 5 then [110, 105, 108] else if t.kind = 6 then [116, 114, 117, 101] else if t.kind = 7 then [102, 97, 108, 115, 101] else 40 :: (wrL t.kids true ++ [41]) := by cases t; rw [wrT]; rfl
theorem wrL_nil (f : Bool) : wrL [] f = [] := by rw [wrL]
theorem wrL_cons (t : LitT) (ts : List LitT) (f : Bool) : wrL (t :: ts) f = (if f then [] else [32]) ++ wrT t ++ wrL ts false := by rw [wrL]
end Go.Proofs.YtclkoffnjiiioaaGreatDoor

