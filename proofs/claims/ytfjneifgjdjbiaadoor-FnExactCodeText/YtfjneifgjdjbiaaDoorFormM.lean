/- What a type switch over what a term is within comes to, at each of its types. -/
import Derived.Test.YtfjneifgjdjbiaaDoorRows
import Derived.WalkKit
import Derived.KernelRfl
namespace Go.Proofs.YtfjneifgjdjbiaaDoor
open Go.RowKit

end Go.Proofs.YtfjneifgjdjbiaaDoor
