/- The closed facts of the statement, in a text of their own (they want some 10 GB by themselves). -/
import Derived.Test.YtbaegjfmpccmfaaRows
import Derived.WalkKit
import Derived.ProofKit
namespace Go.Proofs.Ytbaegjfmpccmfaa.fnSorted
theorem closed : joinedFacts Try.pinned.checked.prog 3 Try.f3 Rows.fnSortedSpec Rows.fnSortedRow = true := by kernel_rfl
end Go.Proofs.Ytbaegjfmpccmfaa.fnSorted
