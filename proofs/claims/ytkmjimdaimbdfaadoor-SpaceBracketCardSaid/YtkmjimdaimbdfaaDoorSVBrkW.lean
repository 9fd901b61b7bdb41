import Derived.Test.YtkmjimdaimbdfaaDoorSVBkat
import Derived.Test.YtkmjimdaimbdfaaDoorSVBkaf
import Derived.Test.YtkmjimdaimbdfaaDoorSVBkbt
import Derived.Test.YtkmjimdaimbdfaaDoorSVBkbf
namespace Go.Proofs.YtkmjimdaimbdfaaDoor
open Go.RowKit Go.Maps
set_option linter.unusedVariables false
theorem bracket_any (n1 n2 : Int) (ao : Option Addr) (b off sz c : Nat) (ao2 : Option Addr) (b2 off2 sz2 c2 : Nat) (mk : Int) (commit : Bool) (w : World) (hT : Tab w) (hT2 : Tab64 w) (h2 : 2 ≤ w.heap.size) (hao : 0 < sz → ao = some ⟨b, off, none⟩)
    (hb : 0 < sz → b < w.heap.size) (hsz : (sz : Int) ≤ 9223372036854775807) (hst : ∀ i, i < sz → StepAt w b off i) (hao2 : 0 < sz2 → ao2 = some ⟨b2, off2, none⟩)
    (hb2 : 0 < sz2 → b2 < w.heap.size) (hsz2 : (sz2 : Int) ≤ 9223372036854775807) (hst2 : ∀ i, i < sz2 → StepAt w b2 off2 i) :
    Calls Tryd.prog 4 #[.int .i64 n1, .int .i64 n2, .slice ao sz c, .slice ao2 sz2 c2, .int .i64 mk, .bool commit] w fun e w' => e = .returned (.bool true) ∧ Fr [] w w' := by
  by_cases hx : sz ≤ 100
  · cases commit
    · exact brk_af n1 n2 ao b off sz c ao2 b2 off2 sz2 c2 mk w hT hT2 h2 hao hb hsz hst hao2 hb2 hsz2 hst2 hx
    · exact brk_at n1 n2 ao b off sz c ao2 b2 off2 sz2 c2 mk w hT hT2 h2 hao hb hsz hst hao2 hb2 hsz2 hst2 hx
  · cases commit
    · exact brk_bf n1 n2 ao b off sz c ao2 b2 off2 sz2 c2 mk w hT hT2 h2 hao hb hsz hst hao2 hb2 hsz2 hst2 hx
    · exact brk_bt n1 n2 ao b off sz c ao2 b2 off2 sz2 c2 mk w hT hT2 h2 hao hb hsz hst hao2 hb2 hsz2 hst2 hx
end Go.Proofs.YtkmjimdaimbdfaaDoor
