/- TraceOf, of the program and of the reference model. -/
import Derived.Test.YtnjjcimpcnennaaP16
namespace Go.Proofs.Ytnjjcimpcnennaa
open Go.RowKit
set_option linter.unusedSimpArgs false
set_option linter.unusedVariables false
attribute [local irreducible] wpQuiet wpQE

/-- the vector that the calls on v check -/
def ok1 (p n : Int) (f v : Nat → Int) : Bool := okB p n f 1 (nth v)
theorem ok1_alg {p n : Int} {f v : Nat → Int} (h : ok1 p n f v = true) : algB p n f = true := by
  unfold ok1 okB at h
  simp only [Bool.and_eq_true] at h
  exact h.1
theorem one_bytes {v : Nat → Int} (hv : Bytes 8 v) (i : Nat) (hi : i < 1) : Bytes 8 (nth v i) := by
  obtain rfl : i = 0 := by omega
  rw [nth_zero]; exact hv
/-- the trace, or 0 -/
def traceR (p n : Int) (f v : Nat → Int) : Int := match ok1 p n f v with | true => dsum (leftK p n.toNat f v n.toNat) n.toNat % p | false => 0
theorem ret_two {a b c d : Int} (h : a = b) (h' : c = d) : Ending.returned (.tuple #[.int .i64 a, .int .i64 c]) = .returned (.tuple #[.int .i64 b, .int .i64 d]) := by rw [h, h']

/-- rows behind the last one are zeros, so the sum over all eight is the sum over n -/
theorem dsum_more (p : Int) (n : Nat) (f v : Nat → Int) : ∀ (j : Nat), dsum (leftK p n f v n) (n + j) = dsum (leftK p n f v n) n
  | 0 => rfl
  | j + 1 => by
    have h : leftK p n f v n ((n + j) * 8 + (n + j)) = 0 := by
      unfold leftK
      rw [if_neg (by omega)]
    rw [show n + (j + 1) = (n + j) + 1 by omega, show dsum (leftK p n f v n) (n + j + 1) = dsum (leftK p n f v n) (n + j) + leftK p n f v n ((n + j) * 8 + (n + j)) from rfl, dsum_more p n f v j, h, Int.add_zero]

end Go.Proofs.Ytnjjcimpcnennaa
