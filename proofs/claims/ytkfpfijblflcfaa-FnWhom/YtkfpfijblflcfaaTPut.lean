/- What putting a text comes to, in the program and in the model: its size's groups, then its bytes. -/
import Derived.Test.YtkfpfijblflcfaaSPut
import Derived.Lib.AppendStr
namespace Go.Proofs.Ytkfpfijblflcfaa
open Go.RowKit

/-- A text's bytes as numbers. -/
def nums (s : ByteArray) : List Int := s.data.toList.map fun b => (b.toNat : Int)

theorem nums_cells (s : ByteArray) : Lib.strCells s = (nums s).map (Value.int .u8) := by simp [Lib.strCells, nums]
theorem nums_length (s : ByteArray) : (nums s).length = s.size := by rw [nums, List.length_map, Array.length_toList]; rfl

/-- The bytes of a text behind its size. -/
def put (s : ByteArray) : List Int := enc (code s.size) ++ nums s

end Go.Proofs.Ytkfpfijblflcfaa
