/- The law's own measure, copy and comparison of lists of structs. -/
import Derived.Test.YtgmddookohkhlaaTmM
import Derived.Test.YtgmddookohkhlaaOkM
import Derived.BigQuiet
namespace Go.Proofs.Ytgmddookohkhlaa
open Go.RowKit
set_option linter.unusedVariables false

/-- The cells of Frame. -/
def ShFrame (vs : List Value) : Prop := ∃ (i0 : Int) (i1 : Int) (a2 : Option Addr) (l2 c2 : Nat), vs = [.int .i64 i0, .int .i64 i1, .slice a2 l2 c2]

end Go.Proofs.Ytgmddookohkhlaa
