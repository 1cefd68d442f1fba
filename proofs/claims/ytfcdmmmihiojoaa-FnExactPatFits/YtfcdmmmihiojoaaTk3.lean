/- Names and runs, the model's; names, the program's. -/
import Derived.Test.YtfcdmmmihiojoaaTk2
namespace Go.Proofs.Ytfcdmmmihiojoaa
open Go.RowKit
set_option linter.unusedVariables false

end Go.Proofs.Ytfcdmmmihiojoaa
