/- The parts of the walk through a term: what each function comes to. -/
import Derived.Test.YtgeedoeaepcmcaaGreatDoorMOf1M
import Derived.Test.YtgeedoeaepcmcaaGreatDoorIOkM
import Derived.Test.YtgeedoeaepcmcaaGreatDoorGetTM
import Derived.Deep.RegionWith
namespace Go.Proofs.YtgeedoeaepcmcaaGreatDoor
open Go.RowKit
set_option linter.unusedVariables false

theorem eqInt3 (w : World) (n m : Int) (d : Nat) : (Op.equalIn (d + 1) 3 (.int .i64 n) (.int .i64 m)).run Tryz.prog w = .ok (n == m) w := by
  simp [Op.equalIn, run_underlying Tryz.underlying3]

end Go.Proofs.YtgeedoeaepcmcaaGreatDoor

/- A measure is put to another one. -/
namespace Go.Proofs.YtgeedoeaepcmcaaGreatDoor
open Go.RowKit
set_option linter.unusedVariables false

end Go.Proofs.YtgeedoeaepcmcaaGreatDoor

/- What is known of a list. -/
namespace Go.Proofs.YtgeedoeaepcmcaaGreatDoor
open Go.RowKit
set_option linter.unusedVariables false

end Go.Proofs.YtgeedoeaepcmcaaGreatDoor
