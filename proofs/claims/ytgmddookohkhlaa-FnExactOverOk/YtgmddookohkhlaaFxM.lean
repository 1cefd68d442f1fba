/- What an expression's own fields must be. -/
import Derived.Test.YtgmddookohkhlaaOkM
import Derived.Test.YtgmddookohkhlaaIOkM
import Derived.Test.YtgmddookohkhlaaGetTM
namespace Go.Proofs.Ytgmddookohkhlaa
open Go.RowKit
set_option linter.unusedVariables false

def OpP (s : ByteArray) : Prop := s.toList = [43] ∨ s.toList = [45] ∨ s.toList = [42] ∨ s.toList = [61, 61] ∨ s.toList = [60]

/-- What goes for each kind. -/
def FitK (k n : Int) (s : ByteArray) (e c : Nat) : Prop :=
  (k = 1 ∧ 0 ≤ n ∧ n ≤ 1000000000000 ∧ s.size = 0 ∧ e = 0) ∨ (k = 2 ∧ (AtomP s ∧ ¬ Wrd s) ∧ e = 0) ∨ (k = 3 ∧ NameP s ∧ e = 0) ∨ ((k = 4 ∨ k = 5) ∧ s.size = 0 ∧ e ≤ 20) ∨ (k = 6 ∧ s.size = 0 ∧ 2 ≤ e ∧ e ≤ 6) ∨ (k = 7 ∧ OpP s ∧ e = 2) ∨ (k = 8 ∧ (AtomP s ∧ ¬ Wrd s) ∧ e ≤ 4) ∨ (k = 9 ∧ s.size = 0 ∧ e = 1 ∧ 1 ≤ c ∧ c ≤ 6)

/-- The fields fit. -/
def Fit (k n : Int) (s : ByteArray) (e c : Nat) : Prop := (k = 1 ∨ n = 0) ∧ (k = 9 ∨ c = 0) ∧ FitK k n s e c

theorem fit1 (n : Int) (s : ByteArray) (e c : Nat) : Fit 1 n s e c ↔ c = 0 ∧ 0 ≤ n ∧ n ≤ 1000000000000 ∧ s.size = 0 ∧ e = 0 := by
  unfold Fit FitK
  simp
theorem fit2 (n : Int) (s : ByteArray) (e c : Nat) : Fit 2 n s e c ↔ n = 0 ∧ c = 0 ∧ (AtomP s ∧ ¬ Wrd s) ∧ e = 0 := by
  unfold Fit FitK
  simp
theorem fit3 (n : Int) (s : ByteArray) (e c : Nat) : Fit 3 n s e c ↔ n = 0 ∧ c = 0 ∧ NameP s ∧ e = 0 := by
  unfold Fit FitK
  simp
theorem fit4 (n : Int) (s : ByteArray) (e c : Nat) : Fit 4 n s e c ↔ n = 0 ∧ c = 0 ∧ s.size = 0 ∧ e ≤ 20 := by
  unfold Fit FitK
  simp
theorem fit5 (n : Int) (s : ByteArray) (e c : Nat) : Fit 5 n s e c ↔ n = 0 ∧ c = 0 ∧ s.size = 0 ∧ e ≤ 20 := by
  unfold Fit FitK
  simp
theorem fit6 (n : Int) (s : ByteArray) (e c : Nat) : Fit 6 n s e c ↔ n = 0 ∧ c = 0 ∧ s.size = 0 ∧ 2 ≤ e ∧ e ≤ 6 := by
  unfold Fit FitK
  simp
theorem fit7 (n : Int) (s : ByteArray) (e c : Nat) : Fit 7 n s e c ↔ n = 0 ∧ c = 0 ∧ OpP s ∧ e = 2 := by
  unfold Fit FitK
  simp
theorem fit8 (n : Int) (s : ByteArray) (e c : Nat) : Fit 8 n s e c ↔ n = 0 ∧ c = 0 ∧ (AtomP s ∧ ¬ Wrd s) ∧ e ≤ 4 := by
  unfold Fit FitK
  simp
theorem fit9 (n : Int) (s : ByteArray) (e c : Nat) : Fit 9 n s e c ↔ n = 0 ∧ s.size = 0 ∧ e = 1 ∧ 1 ≤ c ∧ c ≤ 6 := by
  unfold Fit FitK
  simp
theorem fit_no (k n : Int) (s : ByteArray) (e c : Nat) (h : ¬ (1 ≤ k ∧ k ≤ 9)) : ¬ Fit k n s e c := by
  rintro ⟨_, _, h1 | h1 | h1 | h1 | h1 | h1 | h1 | h1⟩ <;> omega

end Go.Proofs.Ytgmddookohkhlaa

/- The model's test of an expression's own fields. -/
namespace Go.Proofs.Ytgmddookohkhlaa
open Go.RowKit
set_option linter.unusedVariables false

/-- As an expression, or as a pattern. -/
def ShX (pat : Bool) (k n : Int) (s : ByteArray) (e c : Nat) : Prop := Fit k n s e c ∧ (pat = true → k ≤ 6) ∧ (pat = false → k = 3 → ¬ s.toList = [95])

end Go.Proofs.Ytgmddookohkhlaa

/- The model's test of an expression's own fields, whole. -/
namespace Go.Proofs.Ytgmddookohkhlaa
open Go.RowKit
set_option linter.unusedVariables false

end Go.Proofs.Ytgmddookohkhlaa
