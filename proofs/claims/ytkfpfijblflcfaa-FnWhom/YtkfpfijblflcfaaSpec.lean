/- What the model's reading of a number comes to: the same as the program's. -/
import Derived.Test.YtkfpfijblflcfaaRead
namespace Go.Proofs.Ytkfpfijblflcfaa
open Go.RowKit

set_option maxHeartbeats 400000 in
theorem l1In_any (x : Int) (w : World) :
    Calls Try.prog 26 #[.int .i64 x, .int .i64 (-1000000000000), .int .i64 1000000000000] w fun e w' => e = .returned (.bool (decide (-1000000000000 ≤ x ∧ x ≤ 1000000000000))) ∧ w' = w := by
  by_cases h1 : -1000000000000 ≤ x
  · by_cases h2 : x ≤ 1000000000000
    · have hd : decide (-1000000000000 ≤ x ∧ x ≤ 1000000000000) = true := by simp; omega
      rw [hd]
      go_enter Try.func26, Try.ntmps26
      go_wp2
      go_ret
      exact ⟨rfl, rfl⟩
    · have hd : decide (-1000000000000 ≤ x ∧ x ≤ 1000000000000) = false := by simp; omega
      rw [hd]
      go_enter Try.func26, Try.ntmps26
      go_wp2
      go_ret
      exact ⟨rfl, rfl⟩
  · have hd : decide (-1000000000000 ≤ x ∧ x ≤ 1000000000000) = false := by simp; omega
    rw [hd]
    go_enter Try.func26, Try.ntmps26
    go_wp2
    go_ret
    exact ⟨rfl, rfl⟩

end Go.Proofs.Ytkfpfijblflcfaa
