/- The law's own measure, copy and comparison of lists of structs. -/
import Derived.Test.YtkfpfijblflcfaaRowC
import Derived.Test.YtkfpfijblflcfaaAft
import Derived.BigQuiet
namespace Go.Proofs.Ytkfpfijblflcfaa
open Go.RowKit
set_option linter.unusedVariables false

/-- The cells of Expr. -/
def ShExpr (vs : List Value) : Prop := ∃ (i0 : Int) (i1 : Int) (s2 : ByteArray) (a3 : Option Addr) (l3 c3 : Nat) (a4 : Option Addr) (l4 c4 : Nat), vs = [.int .i64 i0, .int .i64 i1, .string s2, .slice a3 l3 c3, .slice a4 l4 c4]

end Go.Proofs.Ytkfpfijblflcfaa
