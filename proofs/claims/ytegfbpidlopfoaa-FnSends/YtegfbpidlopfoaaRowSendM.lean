/- The law's own measure, copy and comparison of lists of structs. -/
import Derived.Test.YtegfbpidlopfoaaTmM
import Derived.BigQuiet
namespace Go.Proofs.Ytegfbpidlopfoaa
open Go.RowKit
set_option linter.unusedVariables false

/-- The cells of Send. -/
def ShSend (vs : List Value) : Prop := ∃ (i0 : Int) (i1 : Int) (s2 : ByteArray) (a3 : Option Addr) (l3 c3 : Nat) (i4 : Int) (i5 : Int) (s6 : ByteArray) (a7 : Option Addr) (l7 c7 : Nat), vs = [.int .i64 i0, .int .i64 i1, .string s2, .slice a3 l3 c3, .int .i64 i4, .int .i64 i5, .string s6, .slice a7 l7 c7]

theorem Try.infoSend : (Try.prog.info? 33).map (fun i => (i.zero, i.size, i.bytes)) = some (some (.agg #[.int .i64 0, .int .i64 0, .string ⟨#[]⟩, .slice none 0 0, .int .i64 0, .int .i64 0, .string ⟨#[]⟩, .slice none 0 0]), 8, 112) := by kernel_rfl

end Go.Proofs.Ytegfbpidlopfoaa
