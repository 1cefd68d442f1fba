/- The program's reading of a term: what is read of the bytes, in new memory. -/
import Derived.Test.YtjdhkhpdhblhbaaGetTM
import Derived.Test.YtjdhkhpdhblhbaaIOkM
import Derived.Deep.DeepCutAuto
import Derived.Deep.CutRange
namespace Go.Proofs.Ytjdhkhpdhblhbaa
open Go.RowKit
set_option linter.unusedVariables false

/-- What is so of the bytes. -/
structure Bts (n cap : Nat) (zs : List Int) : Prop where
  len : zs.length = n
  le : n ≤ 1048576
  cap1 : n ≤ cap
  cap2 : cap ≤ 9223372036854775807
  rng : ∀ j : Nat, 0 ≤ zs[j]?.getD 0 ∧ zs[j]?.getD 0 ≤ 255

end Go.Proofs.Ytjdhkhpdhblhbaa
