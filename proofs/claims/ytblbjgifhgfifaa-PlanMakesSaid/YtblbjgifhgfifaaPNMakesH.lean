import Derived.Test.YtblbjgifhgfifaaPNMakesP
import Derived.Test.YtblbjgifhgfifaaPQPrg
namespace Go.Proofs.Ytblbjgifhgfifaa
theorem planMakes_holds : Rows.PlanMakesSaid := planMakes.proved prog
end Go.Proofs.Ytblbjgifhgfifaa
