/- The parts of the walk through a term: what each function comes to. -/
import Derived.Test.YtgeedoeaepcmcaaDoorMOf1M
import Derived.Test.YtgeedoeaepcmcaaDoorIOkM
import Derived.Test.YtgeedoeaepcmcaaDoorGetTM
import Derived.Deep.RegionWith
namespace Go.Proofs.YtgeedoeaepcmcaaDoor
open Go.RowKit
set_option linter.unusedVariables false

theorem eqInt3 (w : World) (n m : Int) (d : Nat) : (Op.equalIn (d + 1) 3 (.int .i64 n) (.int .i64 m)).run Tryd.prog w = .ok (n == m) w := by
  simp [Op.equalIn, run_underlying Tryd.underlying3]

end Go.Proofs.YtgeedoeaepcmcaaDoor

/- A measure is put to another one. -/
namespace Go.Proofs.YtgeedoeaepcmcaaDoor
open Go.RowKit
set_option linter.unusedVariables false

end Go.Proofs.YtgeedoeaepcmcaaDoor

/- What is known of a list. -/
namespace Go.Proofs.YtgeedoeaepcmcaaDoor
open Go.RowKit
set_option linter.unusedVariables false

end Go.Proofs.YtgeedoeaepcmcaaDoor
