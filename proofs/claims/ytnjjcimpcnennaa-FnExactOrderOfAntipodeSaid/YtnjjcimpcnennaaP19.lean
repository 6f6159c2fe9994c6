/- Lists of numbers: the laws' eqInt64S, markInt64S, heldInt64S. -/
import Derived.Test.YtnjjcimpcnennaaP11
namespace Go.Proofs.Ytnjjcimpcnennaa
open Go.RowKit
set_option linter.unusedSimpArgs false
set_option linter.unusedVariables false
attribute [local irreducible] wpQuiet wpQE

/-- m numbers as cells -/
def nums (m : Nat) (g : Nat → Int) : Array Value := Array.ofFn (n := m) fun i => Value.int .i64 (g i)
@[go_sem] theorem nums_size (m : Nat) (g : Nat → Int) : (nums m g).size = m := by simp [nums]
@[go_sem] theorem nums_get? (m : Nat) (g : Nat → Int) (i : Nat) (h : i < m) : (nums m g)[i]? = some (.int .i64 (g i)) := by simp [nums, h]
@[go_sem] theorem nums_get (m : Nat) (g : Nat → Int) (i : Nat) (h : i < (nums m g).size) : (nums m g)[i] = .int .i64 (g i) := by simp [nums]
theorem nums_none (m : Nat) (g : Nat → Int) (i : Nat) (h : m ≤ i) : (nums m g)[i]? = none := by simp [nums]; omega
@[go_sem] theorem nums_set (m : Nat) (g : Nat → Int) (i : Nat) (y : Int) : (nums m g).setIfInBounds i (.int .i64 y) = nums m (upd g i y) := by
  apply Array.ext_getElem?
  intro j
  rw [Array.getElem?_setIfInBounds]
  by_cases e : i = j
  · subst e
    by_cases hj : i < m
    · rw [nums_get? m (upd g i y) i hj, if_pos rfl, if_pos (by rw [nums_size]; exact hj)]; simp [upd]
    · rw [nums_none m (upd g i y) i (by omega), if_pos rfl, if_neg (by rw [nums_size]; exact hj)]
  · by_cases hj : j < m
    · rw [if_neg e, nums_get? m g j hj, nums_get? m _ j hj]; simp [upd, Ne.symm e]
    · rw [if_neg e, nums_none m g j (by omega), nums_none m _ j (by omega)]
theorem nums_congr {m : Nat} {f g : Nat → Int} (h : ∀ i, i < m → f i = g i) : nums m f = nums m g := by
  apply Array.ext_getElem?
  intro i
  by_cases hi : i < m
  · rw [nums_get? m f i hi, nums_get? m g i hi, h i hi]
  · rw [nums_none m f i (by omega), nums_none m g i (by omega)]

/-- c, c + 1, .. in the first k places, then g -/
def marked (c : Int) (g : Nat → Int) (k : Nat) : Nat → Int := fun i => if i < k then c + i else g i
theorem marked_zero (c : Int) (g : Nat → Int) : marked c g 0 = g := by funext i; simp [marked]
theorem marked_succ (c : Int) (g : Nat → Int) (k : Nat) : upd (marked c g k) k (c + k) = marked c g (k + 1) := by
  funext i
  unfold upd marked
  by_cases h : i = k
  · subst h; rw [if_pos rfl, if_pos (by omega)]
  · rw [if_neg h]
    by_cases h2 : i < k
    · rw [if_pos h2, if_pos (by omega)]
    · rw [if_neg h2, if_neg (by omega)]
end Go.Proofs.Ytnjjcimpcnennaa
