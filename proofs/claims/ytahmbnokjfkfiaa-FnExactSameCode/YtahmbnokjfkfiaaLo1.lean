/- The model's test of a number between two. -/
import Derived.Test.YtahmbnokjfkfiaaLo0
namespace Go.Proofs.Ytahmbnokjfkfiaa
open Go.RowKit
set_option linter.unusedVariables false

theorem tretb {a b : Bool} (h : a = b) : Ending.returned (.bool a) = .returned (.bool b) := by rw [h]

/-- An answer that is a bool: just if P. -/
def BRes (P : Prop) (w : World) (e : Ending) (w' : World) : Prop := ∃ b : Bool, e = .returned (.bool b) ∧ (b = true ↔ P) ∧ Below w.heap.size w w'
theorem bres_yes {P : Prop} {w w' : World} (h : P) (hb : Below w.heap.size w w') : BRes P w (.returned (.bool true)) w' := ⟨true, rfl, ⟨fun _ => h, fun _ => rfl⟩, hb⟩
theorem bres_no {P : Prop} {w w' : World} (h : ¬ P) (hb : Below w.heap.size w w') : BRes P w (.returned (.bool false)) w' := ⟨false, rfl, ⟨fun e => Bool.noConfusion e, fun p => absurd p h⟩, hb⟩

end Go.Proofs.Ytahmbnokjfkfiaa
