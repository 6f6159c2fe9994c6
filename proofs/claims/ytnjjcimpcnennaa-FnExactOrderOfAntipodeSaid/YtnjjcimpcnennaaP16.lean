/- The left table and the trace of a linear map, of the program and of the reference model. -/
import Derived.Test.YtnjjcimpcnennaaP14
namespace Go.Proofs.Ytnjjcimpcnennaa
open Go.RowKit
set_option linter.unusedSimpArgs false
set_option linter.unusedVariables false
attribute [local irreducible] wpQuiet wpQE

/-- the first k rows of the left table of v -/
def leftK (p : Int) (n : Nat) (f v : Nat → Int) (k : Nat) : Nat → Int := fun t => if t < k * 8 then mulF p n (mtab f) v (ebas (t / 8)) (t % 8) else 0
theorem leftK_zero (p : Int) (n : Nat) (f v : Nat → Int) : leftK p n f v 0 = zf := by funext t; simp [leftK, zf]
theorem leftK_step (p : Int) (n : Nat) (f v : Nat → Int) (k : Nat) (h : k * 8 + 8 ≤ 64) : lay (row 64 (leftK p n f v k)) (k * 8) (row 8 (mulF p n (mtab f) v (ebas k))) = row 64 (leftK p n f v (k + 1)) := by
  rw [lay_row _ _ _ _ _ h]
  refine row_congr fun i _ => ?_
  unfold leftK
  by_cases h1 : k * 8 ≤ i ∧ i < k * 8 + 8
  · rw [if_pos h1, if_pos (by omega), show i / 8 = k by omega, show i - k * 8 = i % 8 by omega]
  · rw [if_neg h1]
    by_cases h2 : i < k * 8
    · rw [if_pos h2, if_pos (by omega)]
    · rw [if_neg h2, if_neg (by omega)]
theorem mulF_bytes {p : Int} (hp : 0 < p) (hp' : p ≤ 255) (n : Nat) (m : Nat → Nat → Nat → Int) (v u : Nat → Int) : Bytes 8 (mulF p n m v u) := bytes_mod hp hp' _
theorem leftK_bytes {p : Int} (hp : 0 < p) (hp' : p ≤ 255) (n : Nat) (f v : Nat → Int) (k : Nat) : Bytes 64 (leftK p n f v k) := by
  intro t _
  unfold leftK
  split
  · exact mulF_bytes hp hp' n (mtab f) v (ebas (t / 8)) (t % 8) (by omega)
  · omega

/-! ### the trace -/
def dsum (F : Nat → Int) : Nat → Int
  | 0 => 0
  | k + 1 => dsum F k + F (k * 8 + k)
theorem dsum_le {F : Nat → Int} (h : Bytes 64 F) : ∀ k, k ≤ 8 → 0 ≤ dsum F k ∧ dsum F k ≤ 255 * k
  | 0, _ => by simp [dsum]
  | k + 1, hk => by
    have h1 := dsum_le h k (by omega)
    have h2 := h (k * 8 + k) (by omega)
    unfold dsum
    omega
end Go.Proofs.Ytnjjcimpcnennaa
