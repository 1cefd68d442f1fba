/- The model's test of a number between two. -/
import Derived.Test.YtkfpfijblflcfaaLo0
namespace Go.Proofs.Ytkfpfijblflcfaa
open Go.RowKit
set_option linter.unusedVariables false

theorem tretb {a b : Bool} (h : a = b) : Ending.returned (.bool a) = .returned (.bool b) := by rw [h]

/-- An answer that is a bool: just if P. -/
def BRes (P : Prop) (w : World) (e : Ending) (w' : World) : Prop := ∃ b : Bool, e = .returned (.bool b) ∧ (b = true ↔ P) ∧ Below w.heap.size w w'
theorem bres_yes {P : Prop} {w w' : World} (h : P) (hb : Below w.heap.size w w') : BRes P w (.returned (.bool true)) w' := ⟨true, rfl, ⟨fun _ => h, fun _ => rfl⟩, hb⟩
theorem bres_no {P : Prop} {w w' : World} (h : ¬ P) (hb : Below w.heap.size w w') : BRes P w (.returned (.bool false)) w' := ⟨false, rfl, ⟨fun e => Bool.noConfusion e, fun p => absurd p h⟩, hb⟩

theorem inI_any (x a b : Int) (w : World) : Calls Try.prog 26 #[.int .i64 x, .int .i64 a, .int .i64 b] w fun e w' => e = .returned (.bool (inI x a b)) ∧ w = w' := by
  by_cases h1 : a ≤ x
  · by_cases h2 : x ≤ b
    · have HF : Hid (true = inI x a b) := by show _ = _; simp [inI, h1, h2]
      go_enter Try.func26, Try.ntmps26
      go_wp2
      go_ret
      exact ⟨tretb HF.out, rfl⟩
    · have HF : Hid (false = inI x a b) := by show _ = _; simp [inI, h2]
      go_enter Try.func26, Try.ntmps26
      go_wp2
      go_ret
      exact ⟨tretb HF.out, rfl⟩
  · have HF : Hid (false = inI x a b) := by show _ = _; simp [inI, h1]
    go_enter Try.func26, Try.ntmps26
    go_wp2
    go_ret
    exact ⟨tretb HF.out, rfl⟩

end Go.Proofs.Ytkfpfijblflcfaa
