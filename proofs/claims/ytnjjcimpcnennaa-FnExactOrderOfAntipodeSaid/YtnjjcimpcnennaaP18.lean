/- The walk of FnExactTraceOf. -/
import Derived.Test.YtnjjcimpcnennaaP17
namespace Go.Proofs.Ytnjjcimpcnennaa
open Go.RowKit
set_option linter.unusedSimpArgs false
set_option linter.unusedVariables false
attribute [local irreducible] wpQuiet wpQE

end Go.Proofs.Ytnjjcimpcnennaa
