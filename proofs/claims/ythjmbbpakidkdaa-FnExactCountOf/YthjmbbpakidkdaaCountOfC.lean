/- The closed facts of the statement, in a text of their own (they want some 10 GB by themselves). -/
import Derived.Test.YthjmbbpakidkdaaRows
import Derived.WalkKit
import Derived.ProofKit
namespace Go.Proofs.Ythjmbbpakidkdaa.fnExactCountOf
theorem closed : joinedFacts Try.pinned.checked.prog 11 Try.f11 Rows.fnExactCountOfSpec Rows.fnExactCountOfRow = true := by kernel_rfl
end Go.Proofs.Ythjmbbpakidkdaa.fnExactCountOf
