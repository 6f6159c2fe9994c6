/- The walk of FnExactIsAlgebra. -/
import Derived.Test.YtfdejhhgkpdfdaaEqs
import Derived.Test.YtfdejhhgkpdfdaaPA
namespace Go.Proofs.Ytfdejhhgkpdfdaa
open Go.RowKit
set_option linter.unusedSimpArgs false
set_option linter.unusedVariables false

end Go.Proofs.Ytfdejhhgkpdfdaa
