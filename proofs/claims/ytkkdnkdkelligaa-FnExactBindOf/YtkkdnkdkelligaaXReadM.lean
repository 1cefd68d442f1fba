/- How lists of structs, and expressions, that came in are read: to whatever depth. -/
import Derived.Test.YtkkdnkdkelligaaLookM
import Derived.Test.YtkkdnkdkelligaaTReadM
namespace Go.Proofs.Ytkkdnkdkelligaa
open Go.RowKit Go.ChangeShapes Go.WideShapes Go.Joins Go.Deep
set_option linter.unusedVariables false

section
variable {H : Type} {enc : TypeId × Value → H} {W : World} {base : Nat} {spare : Nat → Bool} {held : Bool}

end
end Go.Proofs.Ytkkdnkdkelligaa
