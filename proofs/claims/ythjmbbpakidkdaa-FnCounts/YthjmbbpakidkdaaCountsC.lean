/- The closed facts of the statement, in a text of their own (they want some 10 GB by themselves). -/
import Derived.Test.YthjmbbpakidkdaaRows
import Derived.WalkKit
import Derived.ProofKit
namespace Go.Proofs.Ythjmbbpakidkdaa.fnCounts
theorem closed : joinedFacts Try.pinned.checked.prog 7 Try.f7 Rows.fnCountsSpec Rows.fnCountsRow = true := by kernel_rfl
end Go.Proofs.Ythjmbbpakidkdaa.fnCounts
