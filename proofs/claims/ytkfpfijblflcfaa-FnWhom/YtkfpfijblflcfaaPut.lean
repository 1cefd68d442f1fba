/- What the program's putting of a number comes to: a copy of the bytes in new memory, and the groups behind it. -/
import Derived.Test.YtkfpfijblflcfaaEq
import Derived.Test.YtkfpfijblflcfaaPutNum0
import Derived.Laws.CopyOwn
namespace Go.Proofs.Ytkfpfijblflcfaa
open Go.RowKit

theorem ret1p {a b : Int} (h : a = b) : Ending.returned (.int .i64 a) = .returned (.int .i64 b) := by rw [h]

theorem u8_size : (Try.prog.info? 5).map (·.size) = some 1 := by kernel_rfl

/-- From a block's whole row to what is owned. -/
theorem own_of_row {w : World} {g n base : Nat} {xs : List Value} (h : w.heap[g]? = some (.cells xs.toArray 5 (0, 0))) (hx : xs.length = n) (hb : base ≤ g) (hm : n ≤ maxLen) :
    w.ownsRow base 5 1 (.slice (some ⟨g, 0, none⟩) n n) n xs :=
  ⟨by omega, .inr ⟨g, n, xs.toArray, rfl, hb, h, Nat.le_refl _, hm, by simp; omega, by rw [List.take_of_length_le (by simp; omega)]⟩⟩

end Go.Proofs.Ytkfpfijblflcfaa
