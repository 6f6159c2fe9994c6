/- The walk of FnExactIsAlgebra. -/
import Derived.Test.YtfmhgfnadgaiaaaEqs
import Derived.Test.YtfmhgfnadgaiaaaPA
namespace Go.Proofs.Ytfmhgfnadgaiaaa
open Go.RowKit
set_option linter.unusedSimpArgs false
set_option linter.unusedVariables false

end Go.Proofs.Ytfmhgfnadgaiaaa
