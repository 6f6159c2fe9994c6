/- The walk of FnExactIsAlgebra. -/
import Derived.Test.YtjpdpnplnelgcaaEqs
import Derived.Test.YtjpdpnplnelgcaaPA
namespace Go.Proofs.Ytjpdpnplnelgcaa
open Go.RowKit
set_option linter.unusedSimpArgs false
set_option linter.unusedVariables false

end Go.Proofs.Ytjpdpnplnelgcaa
