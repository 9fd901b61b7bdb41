import Derived.Test.YtblbjgifhgfifaaPNTurnsP
import Derived.Test.YtblbjgifhgfifaaPQPrg
namespace Go.Proofs.Ytblbjgifhgfifaa
theorem planTurns_holds : Rows.PlanTurnsSaid := planTurns.proved prog
end Go.Proofs.Ytblbjgifhgfifaa
