/- An operation, the program's: what it does with numbers. -/
import Derived.Test.YtfegiccjfepnnaaDoorOp1M
import Derived.Test.YtfegiccjfepnnaaDoorIGet2M
namespace Go.Proofs.YtfegiccjfepnnaaDoor
open Go.RowKit
set_option linter.unusedVariables false

set_option maxRecDepth 100000 in
theorem opPlus_any (a b : Int) (w : World) (ha : -1000000000000 ≤ a ∧ a ≤ 1000000000000) (hb : -1000000000000 ≤ b ∧ b ≤ 1000000000000) : Calls Tryd.prog 52 #[.int .i64 a, .int .i64 b] w fun e w' => e = .returned (.int .i64 (a + b)) ∧ w = w' := by
  obtain ⟨a0, a1⟩ := ha
  obtain ⟨b0, b1⟩ := hb
  go_enter Tryd.func52, Tryd.ntmps52
  go_wp2
  go_ret
  exact ⟨rfl, rfl⟩
set_option maxRecDepth 100000 in
theorem opMinus_any (a b : Int) (w : World) (ha : -1000000000000 ≤ a ∧ a ≤ 1000000000000) (hb : -1000000000000 ≤ b ∧ b ≤ 1000000000000) : Calls Tryd.prog 53 #[.int .i64 a, .int .i64 b] w fun e w' => e = .returned (.int .i64 (a - b)) ∧ w = w' := by
  obtain ⟨a0, a1⟩ := ha
  obtain ⟨b0, b1⟩ := hb
  go_enter Tryd.func53, Tryd.ntmps53
  go_wp2
  go_ret
  exact ⟨rfl, rfl⟩

def boolT (b : Bool) : ByteArray := if b then bTrue else bFalse
def fitsN (n : Int) : Prop := -1000000000000 ≤ n ∧ n ≤ 1000000000000
open Classical in
noncomputable def prodD (a b : Int) : Int := if fitsN (a * b) then a * b else 1000000000001
theorem absD_pos {a : Int} (ha : a ≠ 0) : 0 < absD a := by unfold absD; split <;> omega
theorem quo_within {a : Int} (ha : a ≠ 0) : 0 ≤ (1000000000000 : Int).tdiv (absD a) ∧ (1000000000000 : Int).tdiv (absD a) ≤ 1000000000000 := by
  have pa := absD_pos ha
  rw [Int.tdiv_eq_ediv_of_nonneg (by omega)]
  exact ⟨Int.ediv_nonneg (by omega) (by omega), Int.ediv_le_self _ (by omega)⟩
theorem mul_big' {a b : Int} (ha : a ≠ 0) : (1000000000000 : Int).tdiv (absD a) < absD b ↔ ¬ fitsN (a * b) := by
  by_cases hb : b = 0
  · subst hb
    have := (quo_within ha).1
    simp only [Int.mul_zero, fitsN]
    constructor
    · intro h; have h2 : absD 0 = 0 := rfl; omega
    · intro h; omega
  · rw [mul_big hb ha, Int.mul_comm]; rfl

theorem absD_alt (a : Int) : absD a = if a < -a then -a else a := by unfold absD; split <;> split <;> omega
theorem quo_alt (a : Int) : (1000000000000 : Int).tdiv (absD a) = 1000000000000 / (if a < -a then -a else a) := by
  rw [Int.tdiv_eq_ediv_of_nonneg (by omega), absD_alt]
theorem prod_big {a b : Int} (ha : a ≠ 0) (h : 1000000000000 / (if a < -a then -a else a) < if b < -b then -b else b) : 1000000000001 = prodD a b := by
  unfold prodD
  rw [← quo_alt, ← absD_alt] at h
  rw [if_neg ((mul_big' ha).1 h)]
theorem prod_fit {a b : Int} (ha : a ≠ 0) (h : ¬ 1000000000000 / (if a < -a then -a else a) < if b < -b then -b else b) : wrap64 (a * b) = prodD a b := by
  unfold prodD
  rw [← quo_alt, ← absD_alt, mul_big' ha] at h
  have h2 : fitsN (a * b) := Classical.not_not.1 h
  rw [if_pos h2]
  unfold fitsN at h2
  unfold wrap64
  omega

set_option maxRecDepth 100000 in
theorem product_any (a b : Int) (w : World) (ha : fitsN a) (hb : fitsN b) : Calls Tryd.prog 54 #[.int .i64 a, .int .i64 b] w fun e w' => e = .returned (.int .i64 (prodD a b)) ∧ w = w' := by
  obtain ⟨a0, a1⟩ := ha
  obtain ⟨b0, b1⟩ := hb
  by_cases hz : a = 0
  · subst hz
    have HF : Hid (0 * b = prodD 0 b) := by show _ = _; unfold prodD; rw [Int.zero_mul, if_pos (by unfold fitsN; omega)]
    go_enter Tryd.func54, Tryd.ntmps54
    go_wp2
    go_ret
    exact ⟨tret1 (by simpa using HF.out), rfl⟩
  · have hb0 : (a != 0) = true := by simpa using hz
    have HZ : Hid (a ≠ 0) := hz
    go_enter Tryd.func54, Tryd.ntmps54
    go_wp2
    all_goals go_ret
    all_goals first
      | exact ⟨tret1 (prod_big HZ.out (by first | assumption | omega)), rfl⟩
      | exact ⟨tret1 (prod_fit HZ.out (by first | assumption | omega)), rfl⟩

set_option maxRecDepth 100000 in
theorem formatBool_any (b : Bool) (w : World) : Calls Tryd.prog 75 #[.bool b] w fun e w' => e = .returned (.string (boolT b)) ∧ w = w' := by
  have hI : Calls Tryd.prog 91 #[.bool b] w fun e w' => e = .returned (.string (boolT b)) ∧ w = w' := by
    cases b
    · go_enter Tryd.func91, Tryd.ntmps91
      go_wp2
      go_ret
      exact ⟨rfl, rfl⟩
    · go_enter Tryd.func91, Tryd.ntmps91
      go_wp2
      go_ret
      exact ⟨rfl, rfl⟩
  go_enter Tryd.func75, Tryd.ntmps75
  go_wp2_with fail
  refine hI.mono ?_
  clear hI
  rintro e V ⟨rfl, rfl⟩
  go_wp2_with fail
  go_ret
  exact ⟨rfl, rfl⟩

end Go.Proofs.YtfegiccjfepnnaaDoor
