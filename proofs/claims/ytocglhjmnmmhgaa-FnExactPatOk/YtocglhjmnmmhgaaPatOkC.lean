/- The closed facts of the statement, in a text of their own (they want some 10 GB by themselves). -/
import Derived.Test.YtocglhjmnmmhgaaRows
import Derived.WalkKit
import Derived.ProofKit
namespace Go.Proofs.Ytocglhjmnmmhgaa.fnExactPatOk
theorem closed : joinedFacts Try.pinned.checked.prog 7 Try.f7 Rows.fnExactPatOkSpec Rows.fnExactPatOkRow = true := by kernel_rfl
end Go.Proofs.Ytocglhjmnmmhgaa.fnExactPatOk
