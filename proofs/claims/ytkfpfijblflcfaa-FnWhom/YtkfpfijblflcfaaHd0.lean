/- What the law reads of its marks on lists of numbers. -/
import Derived.Test.YtkfpfijblflcfaaMk0
import Derived.Test.YtkfpfijblflcfaaAft
import Derived.BigQuiet
namespace Go.Proofs.Ytkfpfijblflcfaa
open Go.RowKit
set_option linter.unusedVariables false

end Go.Proofs.Ytkfpfijblflcfaa
