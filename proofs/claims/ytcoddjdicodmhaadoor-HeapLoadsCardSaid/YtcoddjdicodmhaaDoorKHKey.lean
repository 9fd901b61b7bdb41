import Derived.Test.YtcoddjdicodmhaaDoorKHSlotM
namespace Go.Proofs.YtcoddjdicodmhaaDoor
open Go.RowKit
set_option linter.unusedVariables false
abbrev Key := Int × Int × Int × List Int
/-- the words that objects take -/
def endK : List Key → Int
  | [] => 0
  | k :: t => lenOf (k.2.2.2.length : Int) k.2.2.1 + endK t
theorem endK_append (a b : List Key) : endK (a ++ b) = endK a + endK b := by
  induction a with
  | nil => simp [endK]
  | cons k t ih => simp [endK, ih]; omega
/-- whether an object may lie beside those of a list -/
def takesK (words oops : Nat) (ks : List Key) (k : Key) : Bool :=
  decide (1 ≤ k.1) && decide (k.1 ≤ (oops : Int)) && !(ks.any fun x => x.1 == k.1) && isW k.2.1 && isF k.2.2.1 && decide ((k.2.2.2.length : Int) ≤ 8192) && (k.2.2.2.all fun x => mayB x k.2.2.1) && decide (endK ks + lenOf (k.2.2.2.length : Int) k.2.2.1 ≤ (words : Int))
end Go.Proofs.YtcoddjdicodmhaaDoor
