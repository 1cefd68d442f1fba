/- What the program's appending of one number comes to: its groups behind the bytes, in place or in new memory. -/
import Derived.Test.YtkfpfijblflcfaaPut
namespace Go.Proofs.Ytkfpfijblflcfaa
open Go.RowKit

theorem one_new (w : World) (x : Value) (t : TypeId) : ∀ j u, [x][j]? = some u → (w.alloc (.cells #[x] t)).cell? ((⟨w.heap.size, 0, none⟩ : Addr).add j) = some u := by
  intro j u hj
  match j, hj with
  | 0, hj => simp at hj; subst hj; simp [Addr.add]

theorem snoc_map (xs : List Int) (x : Int) : xs.map (Value.int .u8) ++ [Value.int .u8 x] = (xs ++ [x]).map (Value.int .u8) := by simp

end Go.Proofs.Ytkfpfijblflcfaa
