/- What a type switch over what a term is within comes to, at each of its types. -/
import Derived.Test.YtpokheklplcamaaRows
import Derived.WalkKit
import Derived.KernelRfl
namespace Go.Proofs.Ytpokheklplcamaa
open Go.RowKit

end Go.Proofs.Ytpokheklplcamaa
