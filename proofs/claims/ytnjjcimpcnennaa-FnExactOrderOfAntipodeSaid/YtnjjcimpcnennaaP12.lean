/- The walk of FnExactIsAlgebra. -/
import Derived.Test.YtnjjcimpcnennaaP11
namespace Go.Proofs.Ytnjjcimpcnennaa
open Go.RowKit
set_option linter.unusedSimpArgs false
set_option linter.unusedVariables false

end Go.Proofs.Ytnjjcimpcnennaa
