/- What the program's reading of a number comes to: its groups, its code, its number. -/
import Derived.Test.YtkfpfijblflcfaaBytes
namespace Go.Proofs.Ytkfpfijblflcfaa
open Go.RowKit

theorem ret3 {a b a' b' : Int} {c c' : Bool} (h1 : a = a') (h2 : b = b') (h3 : c = c') : Ending.returned (.tuple #[.int .i64 a, .int .i64 b, .bool c]) = .returned (.tuple #[.int .i64 a', .int .i64 b', .bool c']) := by rw [h1, h2, h3]

theorem ret1 {a b : Int} (h : a = b) : Ending.returned (.int .i64 a) = .returned (.int .i64 b) := by rw [h]

theorem coded_odd (c : Int) (h0 : 0 ≤ c) (h1 : c ≤ 4398046511104) (h : c % 2 = 1) : wrap64 (-(c + 1).tdiv 2) = dec c := by
  have e : -(c + 1).tdiv 2 = dec c := by
    unfold dec
    rw [if_pos h, Int.tdiv_eq_ediv_of_nonneg (by omega)]
    omega
  rw [e, IntWalk.wrap64_in _ (by unfold dec; rw [if_pos h]; omega)]

/-- The three results of a reading, as the call hands them back. -/
def three (r : Int × Int × Bool) : Value := .tuple #[.int .i64 r.1, .int .i64 r.2.1, .bool r.2.2]

theorem ret3' {a b : Int} {c : Bool} {r : Int × Int × Bool} (h : r = (a, b, c)) : Ending.returned (.tuple #[.int .i64 a, .int .i64 b, .bool c]) = .returned (three r) := by subst h; rfl

end Go.Proofs.Ytkfpfijblflcfaa
