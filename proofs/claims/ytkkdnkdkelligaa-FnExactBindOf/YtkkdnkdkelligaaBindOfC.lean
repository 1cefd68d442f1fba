/- The closed facts of the statement, in a text of their own (they want some 10 GB by themselves). -/
import Derived.Test.YtkkdnkdkelligaaRows
import Derived.WalkKit
import Derived.ProofKit
namespace Go.Proofs.Ytkkdnkdkelligaa.fnExactBindOf
theorem closed : joinedFacts Try.pinned.checked.prog 4 Try.f4 Rows.fnExactBindOfSpec Rows.fnExactBindOfRow = true := by kernel_rfl
end Go.Proofs.Ytkkdnkdkelligaa.fnExactBindOf
