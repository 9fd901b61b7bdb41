import Derived.Test.YtkmjimdaimbdfaaDoorSHLast
import Derived.BigQuiet
namespace Go.Proofs.YtkmjimdaimbdfaaDoor
set_option linter.unusedSimpArgs false
open Go.RowKit
set_option linter.unusedVariables false
attribute [local go_sem ↓] Go.wp_at_zero Go.wp_at_succ
def roNat (o : RO) : Nat × Int × Nat × List Int := (o.oop, o.cls, o.fmt, o.slots)
end Go.Proofs.YtkmjimdaimbdfaaDoor



