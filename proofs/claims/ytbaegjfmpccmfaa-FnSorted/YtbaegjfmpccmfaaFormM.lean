/- What a type switch over what a term is within comes to, at each of its types. -/
import Derived.Test.YtbaegjfmpccmfaaRows
import Derived.WalkKit
import Derived.KernelRfl
namespace Go.Proofs.Ytbaegjfmpccmfaa
open Go.RowKit

@[go_sem] theorem as_intForm_intForm (v : Value) (w : World) : (Instr.typeAssert (.iface 145 v) 143 145 true).run Try.prog w = .ok (.tuple #[v, .bool true]) w := by kernel_rfl
@[go_sem] theorem as_intForm_atomForm (v : Value) (w : World) : (Instr.typeAssert (.iface 145 v) 143 147 true).run Try.prog w = .ok (.tuple #[.string ByteArray.empty, .bool false]) w := by kernel_rfl
@[go_sem] theorem as_intForm_pidForm (v : Value) (w : World) : (Instr.typeAssert (.iface 145 v) 143 146 true).run Try.prog w = .ok (.tuple #[.int .i64 0, .bool false]) w := by kernel_rfl
@[go_sem] theorem as_intForm_tupleForm (v : Value) (w : World) : (Instr.typeAssert (.iface 145 v) 143 149 true).run Try.prog w = .ok (.tuple #[.slice none 0 0, .bool false]) w := by kernel_rfl
@[go_sem] theorem as_intForm_listForm (v : Value) (w : World) : (Instr.typeAssert (.iface 145 v) 143 150 true).run Try.prog w = .ok (.tuple #[.slice none 0 0, .bool false]) w := by kernel_rfl
@[go_sem] theorem as_atomForm_intForm (v : Value) (w : World) : (Instr.typeAssert (.iface 147 v) 143 145 true).run Try.prog w = .ok (.tuple #[.int .i64 0, .bool false]) w := by kernel_rfl
@[go_sem] theorem as_atomForm_atomForm (v : Value) (w : World) : (Instr.typeAssert (.iface 147 v) 143 147 true).run Try.prog w = .ok (.tuple #[v, .bool true]) w := by kernel_rfl
@[go_sem] theorem as_atomForm_pidForm (v : Value) (w : World) : (Instr.typeAssert (.iface 147 v) 143 146 true).run Try.prog w = .ok (.tuple #[.int .i64 0, .bool false]) w := by kernel_rfl
@[go_sem] theorem as_atomForm_tupleForm (v : Value) (w : World) : (Instr.typeAssert (.iface 147 v) 143 149 true).run Try.prog w = .ok (.tuple #[.slice none 0 0, .bool false]) w := by kernel_rfl
@[go_sem] theorem as_atomForm_listForm (v : Value) (w : World) : (Instr.typeAssert (.iface 147 v) 143 150 true).run Try.prog w = .ok (.tuple #[.slice none 0 0, .bool false]) w := by kernel_rfl
@[go_sem] theorem as_pidForm_intForm (v : Value) (w : World) : (Instr.typeAssert (.iface 146 v) 143 145 true).run Try.prog w = .ok (.tuple #[.int .i64 0, .bool false]) w := by kernel_rfl
@[go_sem] theorem as_pidForm_atomForm (v : Value) (w : World) : (Instr.typeAssert (.iface 146 v) 143 147 true).run Try.prog w = .ok (.tuple #[.string ByteArray.empty, .bool false]) w := by kernel_rfl
@[go_sem] theorem as_pidForm_pidForm (v : Value) (w : World) : (Instr.typeAssert (.iface 146 v) 143 146 true).run Try.prog w = .ok (.tuple #[v, .bool true]) w := by kernel_rfl
@[go_sem] theorem as_pidForm_tupleForm (v : Value) (w : World) : (Instr.typeAssert (.iface 146 v) 143 149 true).run Try.prog w = .ok (.tuple #[.slice none 0 0, .bool false]) w := by kernel_rfl
@[go_sem] theorem as_pidForm_listForm (v : Value) (w : World) : (Instr.typeAssert (.iface 146 v) 143 150 true).run Try.prog w = .ok (.tuple #[.slice none 0 0, .bool false]) w := by kernel_rfl
@[go_sem] theorem as_tupleForm_intForm (v : Value) (w : World) : (Instr.typeAssert (.iface 149 v) 143 145 true).run Try.prog w = .ok (.tuple #[.int .i64 0, .bool false]) w := by kernel_rfl
@[go_sem] theorem as_tupleForm_atomForm (v : Value) (w : World) : (Instr.typeAssert (.iface 149 v) 143 147 true).run Try.prog w = .ok (.tuple #[.string ByteArray.empty, .bool false]) w := by kernel_rfl
@[go_sem] theorem as_tupleForm_pidForm (v : Value) (w : World) : (Instr.typeAssert (.iface 149 v) 143 146 true).run Try.prog w = .ok (.tuple #[.int .i64 0, .bool false]) w := by kernel_rfl
@[go_sem] theorem as_tupleForm_tupleForm (v : Value) (w : World) : (Instr.typeAssert (.iface 149 v) 143 149 true).run Try.prog w = .ok (.tuple #[v, .bool true]) w := by kernel_rfl
@[go_sem] theorem as_tupleForm_listForm (v : Value) (w : World) : (Instr.typeAssert (.iface 149 v) 143 150 true).run Try.prog w = .ok (.tuple #[.slice none 0 0, .bool false]) w := by kernel_rfl
@[go_sem] theorem as_listForm_intForm (v : Value) (w : World) : (Instr.typeAssert (.iface 150 v) 143 145 true).run Try.prog w = .ok (.tuple #[.int .i64 0, .bool false]) w := by kernel_rfl
@[go_sem] theorem as_listForm_atomForm (v : Value) (w : World) : (Instr.typeAssert (.iface 150 v) 143 147 true).run Try.prog w = .ok (.tuple #[.string ByteArray.empty, .bool false]) w := by kernel_rfl
@[go_sem] theorem as_listForm_pidForm (v : Value) (w : World) : (Instr.typeAssert (.iface 150 v) 143 146 true).run Try.prog w = .ok (.tuple #[.int .i64 0, .bool false]) w := by kernel_rfl
@[go_sem] theorem as_listForm_tupleForm (v : Value) (w : World) : (Instr.typeAssert (.iface 150 v) 143 149 true).run Try.prog w = .ok (.tuple #[.slice none 0 0, .bool false]) w := by kernel_rfl
@[go_sem] theorem as_listForm_listForm (v : Value) (w : World) : (Instr.typeAssert (.iface 150 v) 143 150 true).run Try.prog w = .ok (.tuple #[v, .bool true]) w := by kernel_rfl
@[go_sem] theorem as_nil_intForm (w : World) : (Instr.typeAssert .nilIface 143 145 true).run Try.prog w = .ok (.tuple #[.int .i64 0, .bool false]) w := by kernel_rfl
@[go_sem] theorem as_nil_atomForm (w : World) : (Instr.typeAssert .nilIface 143 147 true).run Try.prog w = .ok (.tuple #[.string ByteArray.empty, .bool false]) w := by kernel_rfl
@[go_sem] theorem as_nil_pidForm (w : World) : (Instr.typeAssert .nilIface 143 146 true).run Try.prog w = .ok (.tuple #[.int .i64 0, .bool false]) w := by kernel_rfl
@[go_sem] theorem as_nil_tupleForm (w : World) : (Instr.typeAssert .nilIface 143 149 true).run Try.prog w = .ok (.tuple #[.slice none 0 0, .bool false]) w := by kernel_rfl
@[go_sem] theorem as_nil_listForm (w : World) : (Instr.typeAssert .nilIface 143 150 true).run Try.prog w = .ok (.tuple #[.slice none 0 0, .bool false]) w := by kernel_rfl

end Go.Proofs.Ytbaegjfmpccmfaa
