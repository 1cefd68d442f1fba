/- What the program's putting of a number comes to: a copy of the bytes in new memory, and the groups behind it. -/
import Derived.Test.YthjmbbpakidkdaaEq
import Derived.Test.YthjmbbpakidkdaaPutNum0
import Derived.Laws.CopyOwn
namespace Go.Proofs.Ythjmbbpakidkdaa
open Go.RowKit

theorem ret1p {a b : Int} (h : a = b) : Ending.returned (.int .i64 a) = .returned (.int .i64 b) := by rw [h]

set_option maxHeartbeats 400000 in
theorem numCode_any (n : Int) (w : World) (h0 : -9223372036854775808 ≤ n) (h1 : n ≤ 9223372036854775807) :
    Calls Try.prog 166 #[.int .i64 n] w fun e w' => e = .returned (.int .i64 (code n)) ∧ w' = w := by
  by_cases c1 : 1000000000000 < n
  · have hc : Hid (2000000000000 = code n) := by have : clamp n = 1000000000000 := by unfold clamp; rw [if_pos c1]
                                                 unfold code; rw [this]; exact rfl
    go_enter Try.func166, Try.ntmps166
    go_wp2
    go_ret
    exact ⟨ret1p hc.out, rfl⟩
  · by_cases c2 : n ≤ -1000000000000
    · have hc : Hid (1999999999999 = code n) := by have : clamp n = -1000000000000 := by unfold clamp; rw [if_neg c1]; split <;> omega
                                                   unfold code; rw [this]; exact rfl
      go_enter Try.func166, Try.ntmps166
      go_wp2
      go_ret
      exact ⟨ret1p hc.out, rfl⟩
    · have hcl : clamp n = n := by unfold clamp; rw [if_neg c1, if_neg (by omega)]
      by_cases c3 : n < 0
      · have hc : Hid (-2 * n - 1 = code n) := by unfold code; rw [hcl, if_pos c3]; exact rfl
        clear hcl
        go_enter Try.func166, Try.ntmps166
        go_wp2
        go_ret
        exact ⟨ret1p hc.out, rfl⟩
      · have hc : Hid (2 * n = code n) := by unfold code; rw [hcl, if_neg c3]; exact rfl
        clear hcl
        go_enter Try.func166, Try.ntmps166
        go_wp2
        go_ret
        exact ⟨ret1p hc.out, rfl⟩

theorem u8_size : (Try.prog.info? 5).map (·.size) = some 1 := by kernel_rfl

/-- From a block's whole row to what is owned. -/
theorem own_of_row {w : World} {g n base : Nat} {xs : List Value} (h : w.heap[g]? = some (.cells xs.toArray 5 (0, 0))) (hx : xs.length = n) (hb : base ≤ g) (hm : n ≤ maxLen) :
    w.ownsRow base 5 1 (.slice (some ⟨g, 0, none⟩) n n) n xs :=
  ⟨by omega, .inr ⟨g, n, xs.toArray, rfl, hb, h, Nat.le_refl _, hm, by simp; omega, by rw [List.take_of_length_le (by simp; omega)]⟩⟩

end Go.Proofs.Ythjmbbpakidkdaa
