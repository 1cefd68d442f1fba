/- The program's and the model's tests of a byte of a token. -/
import Derived.Test.YtfcdmmmihiojoaaIOk
namespace Go.Proofs.Ytfcdmmmihiojoaa
open Go.RowKit
set_option linter.unusedVariables false

/-- A byte that a name may begin with. -/
def lgB (x : Int) : Bool := decide (65 ≤ x ∧ x ≤ 90) || x == 95
/-- A small letter. -/
def smB (x : Int) : Bool := decide (97 ≤ x ∧ x ≤ 122)
/-- A digit. -/
def dgB (x : Int) : Bool := decide (48 ≤ x ∧ x ≤ 57)
/-- A byte that a name may have. -/
def nmB (x : Int) : Bool := atB x || lgB x

end Go.Proofs.Ytfcdmmmihiojoaa
