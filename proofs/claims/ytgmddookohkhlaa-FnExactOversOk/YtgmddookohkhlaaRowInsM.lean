/- The law's own measure, copy and comparison of lists of structs. -/
import Derived.Test.YtgmddookohkhlaaTmM
import Derived.Test.YtgmddookohkhlaaOkM
import Derived.BigQuiet
namespace Go.Proofs.Ytgmddookohkhlaa
open Go.RowKit
set_option linter.unusedVariables false

/-- The cells of Ins. -/
def ShIns (vs : List Value) : Prop := ∃ (i0 : Int) (i1 : Int) (s2 : ByteArray) (i3 : Int), vs = [.int .i64 i0, .int .i64 i1, .string s2, .int .i64 i3]

end Go.Proofs.Ytgmddookohkhlaa
