/- The closed facts of the statement, in a text of their own (they want some 10 GB by themselves). -/
import Derived.Test.YthjmbbpakidkdaaRows
import Derived.WalkKit
import Derived.ProofKit
namespace Go.Proofs.Ythjmbbpakidkdaa.fnExactDepthOf
theorem closed : joinedFacts Try.pinned.checked.prog 12 Try.f12 Rows.fnExactDepthOfSpec Rows.fnExactDepthOfRow = true := by kernel_rfl
end Go.Proofs.Ythjmbbpakidkdaa.fnExactDepthOf
