/- The law's own measure, copy and comparison of lists of structs. -/
import Derived.Test.YtkfpfijblflcfaaRowC
import Derived.Test.YtkfpfijblflcfaaAft
import Derived.BigQuiet
namespace Go.Proofs.Ytkfpfijblflcfaa
open Go.RowKit
set_option linter.unusedVariables false

/-- The cells of Clause. -/
def ShClause (vs : List Value) : Prop := ∃ (i0 : Int) (i1 : Int) (s2 : ByteArray) (a3 : Option Addr) (l3 c3 : Nat) (a4 : Option Addr) (l4 c4 : Nat) (i5 : Int) (i6 : Int) (s7 : ByteArray) (a8 : Option Addr) (l8 c8 : Nat) (a9 : Option Addr) (l9 c9 : Nat), vs = [.int .i64 i0, .int .i64 i1, .string s2, .slice a3 l3 c3, .slice a4 l4 c4, .int .i64 i5, .int .i64 i6, .string s7, .slice a8 l8 c8, .slice a9 l9 c9]

end Go.Proofs.Ytkfpfijblflcfaa
