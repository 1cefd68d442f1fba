/- The closed facts of the statement, in a text of their own (they want some 10 GB by themselves). -/
import Derived.Test.YthjmbbpakidkdaaRows
import Derived.WalkKit
import Derived.ProofKit
namespace Go.Proofs.Ythjmbbpakidkdaa.fnReadTerms
theorem closed : joinedFacts Try.pinned.checked.prog 4 Try.f4 Rows.fnReadTermsSpec Rows.fnReadTermsRow = true := by kernel_rfl
end Go.Proofs.Ythjmbbpakidkdaa.fnReadTerms
