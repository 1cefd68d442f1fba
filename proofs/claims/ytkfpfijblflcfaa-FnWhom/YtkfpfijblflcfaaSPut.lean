/- What the model's putting of a number comes to: the same bytes as the program's. -/
import Derived.Test.YtkfpfijblflcfaaMark
namespace Go.Proofs.Ytkfpfijblflcfaa
open Go.RowKit

theorem code_hi {n : Int} (h : 1000000000000 < n) : code n = 2000000000000 := by
  have : clamp n = 1000000000000 := by unfold clamp; rw [if_pos h]
  unfold code; rw [this]; rfl
theorem code_lo {n : Int} (h : n < -1000000000000) : code n = 1999999999999 := by
  have : clamp n = -1000000000000 := by unfold clamp; rw [if_neg (by omega), if_pos h]
  unfold code; rw [this]; rfl
theorem code_neg {n : Int} (h1 : -1000000000000 ≤ n) (h : n < 0) : code n = -2 * n - 1 := by
  have : clamp n = n := by unfold clamp; rw [if_neg (by omega), if_neg (by omega)]
  unfold code; rw [this, if_pos h]
theorem code_pos {n : Int} (h1 : n ≤ 1000000000000) (h : 0 ≤ n) : code n = 2 * n := by
  have : clamp n = n := by unfold clamp; rw [if_neg (by omega), if_neg (by omega)]
  unfold code; rw [this, if_neg (by omega)]

end Go.Proofs.Ytkfpfijblflcfaa
