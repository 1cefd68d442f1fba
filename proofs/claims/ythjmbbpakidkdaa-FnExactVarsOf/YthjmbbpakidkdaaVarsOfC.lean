/- The closed facts of the statement, in a text of their own (they want some 10 GB by themselves). -/
import Derived.Test.YthjmbbpakidkdaaRows
import Derived.WalkKit
import Derived.ProofKit
namespace Go.Proofs.Ythjmbbpakidkdaa.fnExactVarsOf
theorem closed : joinedFacts Try.pinned.checked.prog 15 Try.f15 Rows.fnExactVarsOfSpec Rows.fnExactVarsOfRow = true := by kernel_rfl
end Go.Proofs.Ythjmbbpakidkdaa.fnExactVarsOf
