/- The law's own copy and comparison of expressions: the rest of the walks. -/
import Derived.Test.YtfcdmmmihiojoaaXm2
namespace Go.Proofs.Ytfcdmmmihiojoaa
open Go.RowKit
set_option linter.unusedVariables false

end Go.Proofs.Ytfcdmmmihiojoaa
