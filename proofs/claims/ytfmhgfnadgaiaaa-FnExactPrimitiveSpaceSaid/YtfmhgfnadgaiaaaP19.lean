/- Lists of numbers: the laws' eqInt64S, markInt64S, heldInt64S. -/
import Derived.Test.YtfmhgfnadgaiaaaEqs
import Derived.Test.YtfmhgfnadgaiaaaPA
namespace Go.Proofs.Ytfmhgfnadgaiaaa
open Go.RowKit
set_option linter.unusedSimpArgs false
set_option linter.unusedVariables false
attribute [local irreducible] wpQuiet wpQE

theorem nums_congr {m : Nat} {f g : Nat → Int} (h : ∀ i, i < m → f i = g i) : nums m f = nums m g := by
  apply Array.ext_getElem?
  intro i
  by_cases hi : i < m
  · rw [nums_get? m f i hi, nums_get? m g i hi, h i hi]
  · rw [nums_none m f i (by omega), nums_none m g i (by omega)]

/-- c, c + 1, .. in the first k places, then g -/
def marked (c : Int) (g : Nat → Int) (k : Nat) : Nat → Int := fun i => if i < k then c + i else g i
theorem marked_zero (c : Int) (g : Nat → Int) : marked c g 0 = g := by funext i; simp [marked]
theorem marked_succ (c : Int) (g : Nat → Int) (k : Nat) : upd (marked c g k) k (c + k) = marked c g (k + 1) := by
  funext i
  unfold upd marked
  by_cases h : i = k
  · subst h; rw [if_pos rfl, if_pos (by omega)]
  · rw [if_neg h]
    by_cases h2 : i < k
    · rw [if_pos h2, if_pos (by omega)]
    · rw [if_neg h2, if_neg (by omega)]
end Go.Proofs.Ytfmhgfnadgaiaaa
