/- The closed facts of the statement, in a text of their own (they want some 10 GB by themselves). -/
import Derived.Test.YthjmbbpakidkdaaRows
import Derived.WalkKit
import Derived.ProofKit
namespace Go.Proofs.Ythjmbbpakidkdaa.fnAtoms
theorem closed : joinedFacts Try.pinned.checked.prog 10 Try.f10 Rows.fnAtomsSpec Rows.fnAtomsRow = true := by kernel_rfl
end Go.Proofs.Ythjmbbpakidkdaa.fnAtoms
