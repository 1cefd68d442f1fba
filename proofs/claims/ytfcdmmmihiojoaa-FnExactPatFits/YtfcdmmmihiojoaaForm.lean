/- What a type switch over what a term is within comes to, at each of its types. -/
import Derived.Test.YtfcdmmmihiojoaaRows
import Derived.WalkKit
import Derived.KernelRfl
namespace Go.Proofs.Ytfcdmmmihiojoaa
open Go.RowKit

end Go.Proofs.Ytfcdmmmihiojoaa
