/- What a type switch over what a term is within comes to, at each of its types. -/
import Derived.Test.YtbllnmafilabpaaRows
import Derived.WalkKit
import Derived.KernelRfl
namespace Go.Proofs.Ytbllnmafilabpaa
open Go.RowKit

@[go_sem] theorem as_intForm_intForm (v : Value) (w : World) : (Instr.typeAssert (.iface 59 v) 40 59 true).run Try.prog w = .ok (.tuple #[v, .bool true]) w := by kernel_rfl
@[go_sem] theorem as_intForm_atomForm (v : Value) (w : World) : (Instr.typeAssert (.iface 59 v) 40 60 true).run Try.prog w = .ok (.tuple #[.string ByteArray.empty, .bool false]) w := by kernel_rfl
@[go_sem] theorem as_intForm_pidForm (v : Value) (w : World) : (Instr.typeAssert (.iface 59 v) 40 62 true).run Try.prog w = .ok (.tuple #[.int .i64 0, .bool false]) w := by kernel_rfl
@[go_sem] theorem as_intForm_tupleForm (v : Value) (w : World) : (Instr.typeAssert (.iface 59 v) 40 63 true).run Try.prog w = .ok (.tuple #[.slice none 0 0, .bool false]) w := by kernel_rfl
@[go_sem] theorem as_intForm_listForm (v : Value) (w : World) : (Instr.typeAssert (.iface 59 v) 40 65 true).run Try.prog w = .ok (.tuple #[.slice none 0 0, .bool false]) w := by kernel_rfl
@[go_sem] theorem as_atomForm_intForm (v : Value) (w : World) : (Instr.typeAssert (.iface 60 v) 40 59 true).run Try.prog w = .ok (.tuple #[.int .i64 0, .bool false]) w := by kernel_rfl
@[go_sem] theorem as_atomForm_atomForm (v : Value) (w : World) : (Instr.typeAssert (.iface 60 v) 40 60 true).run Try.prog w = .ok (.tuple #[v, .bool true]) w := by kernel_rfl
@[go_sem] theorem as_atomForm_pidForm (v : Value) (w : World) : (Instr.typeAssert (.iface 60 v) 40 62 true).run Try.prog w = .ok (.tuple #[.int .i64 0, .bool false]) w := by kernel_rfl
@[go_sem] theorem as_atomForm_tupleForm (v : Value) (w : World) : (Instr.typeAssert (.iface 60 v) 40 63 true).run Try.prog w = .ok (.tuple #[.slice none 0 0, .bool false]) w := by kernel_rfl
@[go_sem] theorem as_atomForm_listForm (v : Value) (w : World) : (Instr.typeAssert (.iface 60 v) 40 65 true).run Try.prog w = .ok (.tuple #[.slice none 0 0, .bool false]) w := by kernel_rfl
@[go_sem] theorem as_pidForm_intForm (v : Value) (w : World) : (Instr.typeAssert (.iface 62 v) 40 59 true).run Try.prog w = .ok (.tuple #[.int .i64 0, .bool false]) w := by kernel_rfl
@[go_sem] theorem as_pidForm_atomForm (v : Value) (w : World) : (Instr.typeAssert (.iface 62 v) 40 60 true).run Try.prog w = .ok (.tuple #[.string ByteArray.empty, .bool false]) w := by kernel_rfl
@[go_sem] theorem as_pidForm_pidForm (v : Value) (w : World) : (Instr.typeAssert (.iface 62 v) 40 62 true).run Try.prog w = .ok (.tuple #[v, .bool true]) w := by kernel_rfl
@[go_sem] theorem as_pidForm_tupleForm (v : Value) (w : World) : (Instr.typeAssert (.iface 62 v) 40 63 true).run Try.prog w = .ok (.tuple #[.slice none 0 0, .bool false]) w := by kernel_rfl
@[go_sem] theorem as_pidForm_listForm (v : Value) (w : World) : (Instr.typeAssert (.iface 62 v) 40 65 true).run Try.prog w = .ok (.tuple #[.slice none 0 0, .bool false]) w := by kernel_rfl
@[go_sem] theorem as_tupleForm_intForm (v : Value) (w : World) : (Instr.typeAssert (.iface 63 v) 40 59 true).run Try.prog w = .ok (.tuple #[.int .i64 0, .bool false]) w := by kernel_rfl
@[go_sem] theorem as_tupleForm_atomForm (v : Value) (w : World) : (Instr.typeAssert (.iface 63 v) 40 60 true).run Try.prog w = .ok (.tuple #[.string ByteArray.empty, .bool false]) w := by kernel_rfl
@[go_sem] theorem as_tupleForm_pidForm (v : Value) (w : World) : (Instr.typeAssert (.iface 63 v) 40 62 true).run Try.prog w = .ok (.tuple #[.int .i64 0, .bool false]) w := by kernel_rfl
@[go_sem] theorem as_tupleForm_tupleForm (v : Value) (w : World) : (Instr.typeAssert (.iface 63 v) 40 63 true).run Try.prog w = .ok (.tuple #[v, .bool true]) w := by kernel_rfl
@[go_sem] theorem as_tupleForm_listForm (v : Value) (w : World) : (Instr.typeAssert (.iface 63 v) 40 65 true).run Try.prog w = .ok (.tuple #[.slice none 0 0, .bool false]) w := by kernel_rfl
@[go_sem] theorem as_listForm_intForm (v : Value) (w : World) : (Instr.typeAssert (.iface 65 v) 40 59 true).run Try.prog w = .ok (.tuple #[.int .i64 0, .bool false]) w := by kernel_rfl
@[go_sem] theorem as_listForm_atomForm (v : Value) (w : World) : (Instr.typeAssert (.iface 65 v) 40 60 true).run Try.prog w = .ok (.tuple #[.string ByteArray.empty, .bool false]) w := by kernel_rfl
@[go_sem] theorem as_listForm_pidForm (v : Value) (w : World) : (Instr.typeAssert (.iface 65 v) 40 62 true).run Try.prog w = .ok (.tuple #[.int .i64 0, .bool false]) w := by kernel_rfl
@[go_sem] theorem as_listForm_tupleForm (v : Value) (w : World) : (Instr.typeAssert (.iface 65 v) 40 63 true).run Try.prog w = .ok (.tuple #[.slice none 0 0, .bool false]) w := by kernel_rfl
@[go_sem] theorem as_listForm_listForm (v : Value) (w : World) : (Instr.typeAssert (.iface 65 v) 40 65 true).run Try.prog w = .ok (.tuple #[v, .bool true]) w := by kernel_rfl
@[go_sem] theorem as_nil_intForm (w : World) : (Instr.typeAssert .nilIface 40 59 true).run Try.prog w = .ok (.tuple #[.int .i64 0, .bool false]) w := by kernel_rfl
@[go_sem] theorem as_nil_atomForm (w : World) : (Instr.typeAssert .nilIface 40 60 true).run Try.prog w = .ok (.tuple #[.string ByteArray.empty, .bool false]) w := by kernel_rfl
@[go_sem] theorem as_nil_pidForm (w : World) : (Instr.typeAssert .nilIface 40 62 true).run Try.prog w = .ok (.tuple #[.int .i64 0, .bool false]) w := by kernel_rfl
@[go_sem] theorem as_nil_tupleForm (w : World) : (Instr.typeAssert .nilIface 40 63 true).run Try.prog w = .ok (.tuple #[.slice none 0 0, .bool false]) w := by kernel_rfl
@[go_sem] theorem as_nil_listForm (w : World) : (Instr.typeAssert .nilIface 40 65 true).run Try.prog w = .ok (.tuple #[.slice none 0 0, .bool false]) w := by kernel_rfl

end Go.Proofs.Ytbllnmafilabpaa
