/- The program's and the model's tests of a byte of a token. -/
import Derived.Test.YthjmbbpakidkdaaIOk
namespace Go.Proofs.Ythjmbbpakidkdaa
open Go.RowKit
set_option linter.unusedVariables false

/-- A byte that a name may begin with. -/
def lgB (x : Int) : Bool := decide (65 ≤ x ∧ x ≤ 90) || x == 95
/-- A small letter. -/
def smB (x : Int) : Bool := decide (97 ≤ x ∧ x ≤ 122)
/-- A digit. -/
def dgB (x : Int) : Bool := decide (48 ≤ x ∧ x ≤ 57)
/-- A byte that a name may have. -/
def nmB (x : Int) : Bool := atB x || lgB x

theorem beginsName_any (x : Int) (w : World) : Calls Try.prog 157 #[.int .u8 x] w fun e w' => e = .returned (.bool (lgB x)) ∧ w = w' := by
  by_cases h1 : 65 ≤ x
  · by_cases h2 : x ≤ 90
    · rw [show lgB x = true from by simp [lgB, h1, h2]]
      go_enter Try.func157, Try.ntmps157
      go_wp2
      go_ret
      exact ⟨rfl, rfl⟩
    · rw [show lgB x = (x == 95) from by simp [lgB, h2]]
      go_enter Try.func157, Try.ntmps157
      go_wp2
      go_ret
      exact ⟨rfl, rfl⟩
  · rw [show lgB x = (x == 95) from by simp [lgB, h1]]
    go_enter Try.func157, Try.ntmps157
    go_wp2
    go_ret
    exact ⟨rfl, rfl⟩

theorem isNameByte_any (x : Int) (w : World) : Calls Try.prog 159 #[.int .u8 x] w fun e w' => e = .returned (.bool (nmB x)) ∧ w = w' := by
  have hL := isAtomByte_any x w
  have hL2 := beginsName_any x w
  unfold nmB
  cases h : atB x
  · rw [h] at hL
    rw [Bool.false_or]
    clear h
    generalize lgB x = b at hL2 ⊢
    go_enter Try.func159, Try.ntmps159
    go_wp2_with fail
    refine hL.mono ?_
    clear hL
    rintro e w' ⟨rfl, rfl⟩
    go_wp2_with fail
    refine hL2.mono ?_
    clear hL2
    rintro e w' ⟨rfl, rfl⟩
    go_wp2_with fail
    go_ret
    exact ⟨rfl, rfl⟩
  · rw [h] at hL
    rw [Bool.true_or]
    clear h hL2
    go_enter Try.func159, Try.ntmps159
    go_wp2_with fail
    refine hL.mono ?_
    clear hL
    rintro e w' ⟨rfl, rfl⟩
    go_wp2_with fail
    go_ret
    exact ⟨rfl, rfl⟩

theorem specSmall_any (x : Int) (w : World) (h0 : 0 ≤ x) (h1 : x ≤ 255) : Calls Try.prog 207 #[.int .u8 x] w fun e w' => e = .returned (.bool (smB x)) ∧ w = w' := by
  have hL := specIn_any x 97 122 w
  unfold smB
  generalize decide (97 ≤ x ∧ x ≤ 122) = b at hL ⊢
  go_enter Try.func207, Try.ntmps207
  go_wp2_with fail
  refine hL.mono ?_
  clear hL
  rintro e w' ⟨rfl, rfl⟩
  go_wp2_with fail
  go_ret
  exact ⟨rfl, rfl⟩

theorem specDigit_any (x : Int) (w : World) (h0 : 0 ≤ x) (h1 : x ≤ 255) : Calls Try.prog 208 #[.int .u8 x] w fun e w' => e = .returned (.bool (dgB x)) ∧ w = w' := by
  have hL := specIn_any x 48 57 w
  unfold dgB
  generalize decide (48 ≤ x ∧ x ≤ 57) = b at hL ⊢
  go_enter Try.func208, Try.ntmps208
  go_wp2_with fail
  refine hL.mono ?_
  clear hL
  rintro e w' ⟨rfl, rfl⟩
  go_wp2_with fail
  go_ret
  exact ⟨rfl, rfl⟩

theorem specLarge_any (x : Int) (w : World) (h0 : 0 ≤ x) (h1 : x ≤ 255) : Calls Try.prog 206 #[.int .u8 x] w fun e w' => e = .returned (.bool (lgB x)) ∧ w = w' := by
  have hL := specIn_any x 65 90 w
  unfold lgB
  generalize hb : decide (65 ≤ x ∧ x ≤ 90) = b at hL ⊢
  clear hb
  cases b
  · rw [Bool.false_or]
    go_enter Try.func206, Try.ntmps206
    go_wp2_with fail
    refine hL.mono ?_
    clear hL
    rintro e w' ⟨rfl, rfl⟩
    go_wp2_with fail
    go_ret
    exact ⟨rfl, rfl⟩
  · rw [Bool.true_or]
    go_enter Try.func206, Try.ntmps206
    go_wp2_with fail
    refine hL.mono ?_
    clear hL
    rintro e w' ⟨rfl, rfl⟩
    go_wp2_with fail
    go_ret
    exact ⟨rfl, rfl⟩

end Go.Proofs.Ythjmbbpakidkdaa
