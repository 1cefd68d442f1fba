/- The law's own measure, copy and comparison of lists of structs. -/
import Derived.Test.YtgmddookohkhlaaTmM
import Derived.Test.YtgmddookohkhlaaOkM
import Derived.BigQuiet
namespace Go.Proofs.Ytgmddookohkhlaa
open Go.RowKit
set_option linter.unusedVariables false

/-- The cells of Fn. -/
def ShFn (vs : List Value) : Prop := ∃ (s0 : ByteArray) (i1 : Int) (i2 : Int) (a3 : Option Addr) (l3 c3 : Nat), vs = [.string s0, .int .i64 i1, .int .i64 i2, .slice a3 l3 c3]

end Go.Proofs.Ytgmddookohkhlaa
