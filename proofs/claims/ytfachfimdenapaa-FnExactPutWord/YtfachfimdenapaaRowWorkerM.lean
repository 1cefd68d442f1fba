/- The law's own measure, copy and comparison of lists of structs. -/
import Derived.Test.YtfachfimdenapaaTmM
import Derived.Test.YtfachfimdenapaaOkM
import Derived.BigQuiet
namespace Go.Proofs.Ytfachfimdenapaa
open Go.RowKit
set_option linter.unusedVariables false

/-- The cells of Worker. -/
def ShWorker (vs : List Value) : Prop := ∃ (i0 : Int) (s1 : ByteArray) (s2 : ByteArray) (i3 : Int) (i4 : Int) (i5 : Int) (s6 : ByteArray) (a7 : Option Addr) (l7 c7 : Nat) (a8 : Option Addr) (l8 c8 : Nat), vs = [.int .i64 i0, .string s1, .string s2, .int .i64 i3, .int .i64 i4, .int .i64 i5, .string s6, .slice a7 l7 c7, .slice a8 l8 c8]

theorem Try.infoWorker : (Try.prog.info? 33).map (fun i => (i.zero, i.size, i.bytes)) = some (some (.agg #[.int .i64 0, .string ⟨#[]⟩, .string ⟨#[]⟩, .int .i64 0, .int .i64 0, .int .i64 0, .string ⟨#[]⟩, .slice none 0 0, .slice none 0 0]), 9, 128) := by kernel_rfl

end Go.Proofs.Ytfachfimdenapaa
