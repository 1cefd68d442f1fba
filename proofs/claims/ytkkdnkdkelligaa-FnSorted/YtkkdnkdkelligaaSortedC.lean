/- The closed facts of the statement, in a text of their own (they want some 10 GB by themselves). -/
import Derived.Test.YtkkdnkdkelligaaRows
import Derived.WalkKit
import Derived.ProofKit
namespace Go.Proofs.Ytkkdnkdkelligaa.fnSorted
theorem closed : joinedFacts Try.pinned.checked.prog 3 Try.f3 Rows.fnSortedSpec Rows.fnSortedRow = true := by kernel_rfl
end Go.Proofs.Ytkkdnkdkelligaa.fnSorted
