/- The closed facts of the statement, in a text of their own (they want some 10 GB by themselves). -/
import Derived.Test.YtocglhjmnmmhgaaRows
import Derived.WalkKit
import Derived.ProofKit
namespace Go.Proofs.Ytocglhjmnmmhgaa.fnExactExprOk
theorem closed : joinedFacts Try.pinned.checked.prog 6 Try.f6 Rows.fnExactExprOkSpec Rows.fnExactExprOkRow = true := by kernel_rfl
end Go.Proofs.Ytocglhjmnmmhgaa.fnExactExprOk
