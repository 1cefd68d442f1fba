/- The parts of the walk through a term: what each function comes to. -/
import Derived.Test.YtpokheklplcamaaMOf1M
import Derived.Test.YtpokheklplcamaaIOkM
import Derived.Test.YtpokheklplcamaaGetTM
import Derived.Deep.RegionWith
namespace Go.Proofs.Ytpokheklplcamaa
open Go.RowKit
set_option linter.unusedVariables false

theorem eqInt3 (w : World) (n m : Int) (d : Nat) : (Op.equalIn (d + 1) 3 (.int .i64 n) (.int .i64 m)).run Try.prog w = .ok (n == m) w := by
  simp [Op.equalIn, run_underlying Try.underlying3]

end Go.Proofs.Ytpokheklplcamaa

/- A measure is put to another one. -/
namespace Go.Proofs.Ytpokheklplcamaa
open Go.RowKit
set_option linter.unusedVariables false

end Go.Proofs.Ytpokheklplcamaa

/- What is known of a list. -/
namespace Go.Proofs.Ytpokheklplcamaa
open Go.RowKit
set_option linter.unusedVariables false

end Go.Proofs.Ytpokheklplcamaa
