/- What a draw of a number or of a text comes to: bytes in new memory, and a number or a text of few bytes; nothing old is written. -/
import Derived.Test.YtkfpfijblflcfaaDrw
import Derived.Test.YtkfpfijblflcfaaMark
import Derived.Deep.RegionWith
namespace Go.Proofs.Ytkfpfijblflcfaa
open Go.RowKit

theorem own_weaken {w : World} {B B' n : Nat} {v : Value} {xs : List Value} (h : w.ownsRow B 5 1 v n xs) (hb : B' ≤ B) : w.ownsRow B' 5 1 v n xs := by
  refine ⟨h.1, ?_⟩
  rcases h.2 with h2 | ⟨g, cap, cur, h1, h2, r⟩
  · exact .inl h2
  · exact .inr ⟨g, cap, cur, h1, Nat.le_trans hb h2, r⟩

/-- The numbers of which one is drawn. -/
def nums14 (y : Int) : List Int := [0, 1, -1, 63, 64, -64, -65, 8192, 1000000000000, -1000000000000, 1000000000001, -9223372036854775808, 9223372036854775807, y]
theorem nums14_bd (y : Int) (h0 : 0 ≤ y) (h1 : y < 100000) : ∀ N ∈ nums14 y, -9223372036854775808 ≤ N ∧ N ≤ 9223372036854775807 := by
  intro N hN
  simp only [nums14, List.mem_cons, List.not_mem_nil, or_false] at hN
  omega

end Go.Proofs.Ytkfpfijblflcfaa
