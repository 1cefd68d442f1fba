/- What a type switch over what a term is within comes to, at each of its types. -/
import Derived.Test.YtfachfimdenapaaDoorRows
import Derived.WalkKit
import Derived.KernelRfl
namespace Go.Proofs.YtfachfimdenapaaDoor
open Go.RowKit

end Go.Proofs.YtfachfimdenapaaDoor
