/- The closed facts of the statement, in a text of their own (they want some 10 GB by themselves). -/
import Derived.Test.YthjmbbpakidkdaaRows
import Derived.WalkKit
import Derived.ProofKit
namespace Go.Proofs.Ythjmbbpakidkdaa.fnTerms
theorem closed : joinedFacts Try.pinned.checked.prog 3 Try.f3 Rows.fnTermsSpec Rows.fnTermsRow = true := by kernel_rfl
end Go.Proofs.Ythjmbbpakidkdaa.fnTerms
