/- isAlgebraWith and l01Code: an algebra and vectors for it. -/
import Derived.Test.YtfmhgfnadgaiaaaEqs
import Derived.Test.YtfmhgfnadgaiaaaPA
namespace Go.Proofs.Ytfmhgfnadgaiaaa
open Go.RowKit
set_option linter.unusedSimpArgs false
set_option linter.unusedVariables false
attribute [local irreducible] wpQuiet wpQE

/-- an algebra and m vectors for it -/
def okB (p n : Int) (f : Nat → Int) (m : Nat) (g : Nat → Nat → Int) : Bool := algB p n f && allV p n m g
theorem alg_sizes {p n : Int} {f : Nat → Int} (h : algB p n f = true) : sizesB p n = true := by
  unfold algB at h
  simp only [Bool.and_eq_true] at h
  exact shape_sizes h.1

/-! ### eqVector of a vector and itself -/
end Go.Proofs.Ytfmhgfnadgaiaaa
