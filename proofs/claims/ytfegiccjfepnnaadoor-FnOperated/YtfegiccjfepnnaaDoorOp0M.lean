/- An operation, as data: what two terms that are right come to. -/
import Derived.Test.YtfegiccjfepnnaaDoorTmM
import Derived.Test.YtfegiccjfepnnaaDoorLessM
import Derived.Test.YtfegiccjfepnnaaDoorFxM
namespace Go.Proofs.YtfegiccjfepnnaaDoor
open Go.RowKit
set_option linter.unusedVariables false

def bTrue : ByteArray := ⟨#[116, 114, 117, 101]⟩
def bFalse : ByteArray := ⟨#[102, 97, 108, 115, 101]⟩
/-- The number that an operation comes to. -/
def numD (op : ByteArray) (a b : Int) : Int := if op.toList = [43] then a + b else if op.toList = [45] then a - b else a * b
open Classical in
/-- What two right terms come to: the term's fields (it has no parts), and the code. -/
noncomputable def opG (op : ByteArray) {d : Nat} (a b : Tm (d + 1)) : Int × Int × ByteArray × Int :=
  if op.toList = [61, 61] then (2, 0, if a = b then bTrue else bFalse, 0)
  else if op.toList = [60] then (2, 0, if Lt (d + 1) a b then bTrue else bFalse, 0)
  else if a.K = 1 ∧ b.K = 1 ∧ -1000000000000 ≤ numD op a.N b.N ∧ numD op a.N b.N ≤ 1000000000000 then (1, numD op a.N b.N, ⟨#[]⟩, 0)
  else (0, 0, ⟨#[]⟩, 3)
def RightM (d : Nat) (t : Tm (d + 1)) : Prop := Right d t.K t.N t.S t.L 8 300
open Classical in
noncomputable def opD (op : ByteArray) {d : Nat} (a b : Tm (d + 1)) : Int × Int × ByteArray × Int := if OpP op ∧ RightM d a ∧ RightM d b then opG op a b else (0, 0, ⟨#[]⟩, 1)

/-- An answer that is a term without parts, and a code. -/
def OpRes (r : Int × Int × ByteArray × Int) (w : World) (e : Ending) (w' : World) : Prop := e = .returned (.tuple #[.agg #[.int .i64 r.1, .int .i64 r.2.1, .string r.2.2.1, .slice none 0 0], .int .i64 r.2.2.2]) ∧ Below w.heap.size w w'

theorem right_num {d : Nat} {t : Tm (d + 1)} (h : RightM d t) (hk : t.K = 1) : -1000000000000 ≤ t.N ∧ t.N ≤ 1000000000000 := by
  have h1 := h.1
  rw [hk] at h1
  exact ((shape1 _ _ _).1 h1).1

end Go.Proofs.YtfegiccjfepnnaaDoor
