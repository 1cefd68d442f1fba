/- What a type switch over what a term is within comes to, at each of its types. -/
import Derived.Test.YtgmddookohkhlaaRows
import Derived.WalkKit
import Derived.KernelRfl
namespace Go.Proofs.Ytgmddookohkhlaa
open Go.RowKit

@[go_sem] theorem as_intForm_intForm (v : Value) (w : World) : (Instr.typeAssert (.iface 163 v) 161 163 true).run Try.prog w = .ok (.tuple #[v, .bool true]) w := by kernel_rfl
@[go_sem] theorem as_intForm_atomForm (v : Value) (w : World) : (Instr.typeAssert (.iface 163 v) 161 164 true).run Try.prog w = .ok (.tuple #[.string ByteArray.empty, .bool false]) w := by kernel_rfl
@[go_sem] theorem as_intForm_pidForm (v : Value) (w : World) : (Instr.typeAssert (.iface 163 v) 161 165 true).run Try.prog w = .ok (.tuple #[.int .i64 0, .bool false]) w := by kernel_rfl
@[go_sem] theorem as_intForm_tupleForm (v : Value) (w : World) : (Instr.typeAssert (.iface 163 v) 161 166 true).run Try.prog w = .ok (.tuple #[.slice none 0 0, .bool false]) w := by kernel_rfl
@[go_sem] theorem as_intForm_listForm (v : Value) (w : World) : (Instr.typeAssert (.iface 163 v) 161 167 true).run Try.prog w = .ok (.tuple #[.slice none 0 0, .bool false]) w := by kernel_rfl
@[go_sem] theorem as_atomForm_intForm (v : Value) (w : World) : (Instr.typeAssert (.iface 164 v) 161 163 true).run Try.prog w = .ok (.tuple #[.int .i64 0, .bool false]) w := by kernel_rfl
@[go_sem] theorem as_atomForm_atomForm (v : Value) (w : World) : (Instr.typeAssert (.iface 164 v) 161 164 true).run Try.prog w = .ok (.tuple #[v, .bool true]) w := by kernel_rfl
@[go_sem] theorem as_atomForm_pidForm (v : Value) (w : World) : (Instr.typeAssert (.iface 164 v) 161 165 true).run Try.prog w = .ok (.tuple #[.int .i64 0, .bool false]) w := by kernel_rfl
@[go_sem] theorem as_atomForm_tupleForm (v : Value) (w : World) : (Instr.typeAssert (.iface 164 v) 161 166 true).run Try.prog w = .ok (.tuple #[.slice none 0 0, .bool false]) w := by kernel_rfl
@[go_sem] theorem as_atomForm_listForm (v : Value) (w : World) : (Instr.typeAssert (.iface 164 v) 161 167 true).run Try.prog w = .ok (.tuple #[.slice none 0 0, .bool false]) w := by kernel_rfl
@[go_sem] theorem as_pidForm_intForm (v : Value) (w : World) : (Instr.typeAssert (.iface 165 v) 161 163 true).run Try.prog w = .ok (.tuple #[.int .i64 0, .bool false]) w := by kernel_rfl
@[go_sem] theorem as_pidForm_atomForm (v : Value) (w : World) : (Instr.typeAssert (.iface 165 v) 161 164 true).run Try.prog w = .ok (.tuple #[.string ByteArray.empty, .bool false]) w := by kernel_rfl
@[go_sem] theorem as_pidForm_pidForm (v : Value) (w : World) : (Instr.typeAssert (.iface 165 v) 161 165 true).run Try.prog w = .ok (.tuple #[v, .bool true]) w := by kernel_rfl
@[go_sem] theorem as_pidForm_tupleForm (v : Value) (w : World) : (Instr.typeAssert (.iface 165 v) 161 166 true).run Try.prog w = .ok (.tuple #[.slice none 0 0, .bool false]) w := by kernel_rfl
@[go_sem] theorem as_pidForm_listForm (v : Value) (w : World) : (Instr.typeAssert (.iface 165 v) 161 167 true).run Try.prog w = .ok (.tuple #[.slice none 0 0, .bool false]) w := by kernel_rfl
@[go_sem] theorem as_tupleForm_intForm (v : Value) (w : World) : (Instr.typeAssert (.iface 166 v) 161 163 true).run Try.prog w = .ok (.tuple #[.int .i64 0, .bool false]) w := by kernel_rfl
@[go_sem] theorem as_tupleForm_atomForm (v : Value) (w : World) : (Instr.typeAssert (.iface 166 v) 161 164 true).run Try.prog w = .ok (.tuple #[.string ByteArray.empty, .bool false]) w := by kernel_rfl
@[go_sem] theorem as_tupleForm_pidForm (v : Value) (w : World) : (Instr.typeAssert (.iface 166 v) 161 165 true).run Try.prog w = .ok (.tuple #[.int .i64 0, .bool false]) w := by kernel_rfl
@[go_sem] theorem as_tupleForm_tupleForm (v : Value) (w : World) : (Instr.typeAssert (.iface 166 v) 161 166 true).run Try.prog w = .ok (.tuple #[v, .bool true]) w := by kernel_rfl
@[go_sem] theorem as_tupleForm_listForm (v : Value) (w : World) : (Instr.typeAssert (.iface 166 v) 161 167 true).run Try.prog w = .ok (.tuple #[.slice none 0 0, .bool false]) w := by kernel_rfl
@[go_sem] theorem as_listForm_intForm (v : Value) (w : World) : (Instr.typeAssert (.iface 167 v) 161 163 true).run Try.prog w = .ok (.tuple #[.int .i64 0, .bool false]) w := by kernel_rfl
@[go_sem] theorem as_listForm_atomForm (v : Value) (w : World) : (Instr.typeAssert (.iface 167 v) 161 164 true).run Try.prog w = .ok (.tuple #[.string ByteArray.empty, .bool false]) w := by kernel_rfl
@[go_sem] theorem as_listForm_pidForm (v : Value) (w : World) : (Instr.typeAssert (.iface 167 v) 161 165 true).run Try.prog w = .ok (.tuple #[.int .i64 0, .bool false]) w := by kernel_rfl
@[go_sem] theorem as_listForm_tupleForm (v : Value) (w : World) : (Instr.typeAssert (.iface 167 v) 161 166 true).run Try.prog w = .ok (.tuple #[.slice none 0 0, .bool false]) w := by kernel_rfl
@[go_sem] theorem as_listForm_listForm (v : Value) (w : World) : (Instr.typeAssert (.iface 167 v) 161 167 true).run Try.prog w = .ok (.tuple #[v, .bool true]) w := by kernel_rfl
@[go_sem] theorem as_nil_intForm (w : World) : (Instr.typeAssert .nilIface 161 163 true).run Try.prog w = .ok (.tuple #[.int .i64 0, .bool false]) w := by kernel_rfl
@[go_sem] theorem as_nil_atomForm (w : World) : (Instr.typeAssert .nilIface 161 164 true).run Try.prog w = .ok (.tuple #[.string ByteArray.empty, .bool false]) w := by kernel_rfl
@[go_sem] theorem as_nil_pidForm (w : World) : (Instr.typeAssert .nilIface 161 165 true).run Try.prog w = .ok (.tuple #[.int .i64 0, .bool false]) w := by kernel_rfl
@[go_sem] theorem as_nil_tupleForm (w : World) : (Instr.typeAssert .nilIface 161 166 true).run Try.prog w = .ok (.tuple #[.slice none 0 0, .bool false]) w := by kernel_rfl
@[go_sem] theorem as_nil_listForm (w : World) : (Instr.typeAssert .nilIface 161 167 true).run Try.prog w = .ok (.tuple #[.slice none 0 0, .bool false]) w := by kernel_rfl

end Go.Proofs.Ytgmddookohkhlaa
