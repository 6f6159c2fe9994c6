/- The walk of FnExactIsAlgebra. -/
import Derived.Test.YtjpdpnplnelgcaaGreatEqs
import Derived.Test.YtjpdpnplnelgcaaGreatPA
namespace Go.Proofs.YtjpdpnplnelgcaaGreat
open Go.RowKit
set_option linter.unusedSimpArgs false
set_option linter.unusedVariables false

end Go.Proofs.YtjpdpnplnelgcaaGreat
