/- What a type switch over what a term is within comes to, at each of its types. -/
import Derived.Test.YtfcdmmmihiojoaaDoorRows
import Derived.WalkKit
import Derived.KernelRfl
namespace Go.Proofs.YtfcdmmmihiojoaaDoor
open Go.RowKit

end Go.Proofs.YtfcdmmmihiojoaaDoor
