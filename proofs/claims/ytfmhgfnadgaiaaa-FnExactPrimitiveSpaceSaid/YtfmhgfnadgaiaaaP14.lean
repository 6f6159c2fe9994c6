/- MultiplyVectors, of the program and of the reference model, and the walk of the law. -/
import Derived.Test.YtfmhgfnadgaiaaaEqs
import Derived.Test.YtfmhgfnadgaiaaaP13
namespace Go.Proofs.Ytfmhgfnadgaiaaa
open Go.RowKit
set_option linter.unusedSimpArgs false
set_option linter.unusedVariables false
attribute [local irreducible] wpQuiet wpQE

/-! ### a list of vectors, made -/
theorem pair_bytes {v u : Nat → Int} (hv : Bytes 8 v) (hu : Bytes 8 u) (i : Nat) (hi : i < 2) : Bytes 8 (nth (pair v u) i) := by
  intro t ht
  unfold nth pair
  match i, hi with
  | 0, _ => rw [if_pos (by omega), Nat.zero_mul, Nat.zero_add]; exact hv t ht
  | 1, _ => rw [if_neg (by omega), show 1 * 8 + t - 8 = t by omega]; exact hu t ht
/-- the vectors that the calls on v and u check -/
def okP (p n : Int) (f v u : Nat → Int) : Bool := okB p n f 2 (nth (pair v u))

/-- the product, or zeros -/
def timesR (p n : Int) (f v u : Nat → Int) : Nat → Int := match okP p n f v u with | true => mulF p n.toNat (mtab f) v u | false => zf
theorem okP_alg {p n : Int} {f v u : Nat → Int} (h : okP p n f v u = true) : algB p n f = true := by
  unfold okP okB at h
  simp only [Bool.and_eq_true] at h
  exact h.1


end Go.Proofs.Ytfmhgfnadgaiaaa
