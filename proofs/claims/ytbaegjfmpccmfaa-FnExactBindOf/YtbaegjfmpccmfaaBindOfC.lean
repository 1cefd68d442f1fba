/- The closed facts of the statement, in a text of their own (they want some 10 GB by themselves). -/
import Derived.Test.YtbaegjfmpccmfaaRows
import Derived.WalkKit
import Derived.ProofKit
namespace Go.Proofs.Ytbaegjfmpccmfaa.fnExactBindOf
theorem closed : joinedFacts Try.pinned.checked.prog 5 Try.f5 Rows.fnExactBindOfSpec Rows.fnExactBindOfRow = true := by kernel_rfl
end Go.Proofs.Ytbaegjfmpccmfaa.fnExactBindOf
