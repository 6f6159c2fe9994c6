/- FirstFault of both, and the walk of FnExactFirstFault. -/
import Derived.Test.YtjpdpnplnelgcaaEqs
import Derived.Test.YtjpdpnplnelgcaaP12
import Derived.Test.YtjpdpnplnelgcaaP19
namespace Go.Proofs.Ytjpdpnplnelgcaa
open Go.RowKit
set_option linter.unusedSimpArgs false
set_option linter.unusedVariables false

def t3 (i j k : Nat) : Nat → Int := fun t => match t with | 0 => (i : Int) | 1 => (j : Int) | _ => (k : Int)
theorem cells3_nums (i j k : Nat) : cells3 i j k = nums 3 (t3 i j k) := by kernel_rfl

end Go.Proofs.Ytjpdpnplnelgcaa
