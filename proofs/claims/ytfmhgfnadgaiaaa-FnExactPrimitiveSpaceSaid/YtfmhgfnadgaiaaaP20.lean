/- FirstFault of both, and the walk of FnExactFirstFault. -/
import Derived.Test.YtfmhgfnadgaiaaaEqs
import Derived.Test.YtfmhgfnadgaiaaaP12
import Derived.Test.YtfmhgfnadgaiaaaP19
namespace Go.Proofs.Ytfmhgfnadgaiaaa
open Go.RowKit
set_option linter.unusedSimpArgs false
set_option linter.unusedVariables false

def t3 (i j k : Nat) : Nat → Int := fun t => match t with | 0 => (i : Int) | 1 => (j : Int) | _ => (k : Int)
theorem cells3_nums (i j k : Nat) : cells3 i j k = nums 3 (t3 i j k) := by kernel_rfl

end Go.Proofs.Ytfmhgfnadgaiaaa
