/- The closed facts of the statement, in a text of their own (they want some 10 GB by themselves). -/
import Derived.Test.YthjmbbpakidkdaaRows
import Derived.WalkKit
import Derived.ProofKit
namespace Go.Proofs.Ythjmbbpakidkdaa.fnOrder
theorem closed : joinedFacts Try.pinned.checked.prog 5 Try.f5 Rows.fnOrderSpec Rows.fnOrderRow = true := by kernel_rfl
end Go.Proofs.Ythjmbbpakidkdaa.fnOrder
