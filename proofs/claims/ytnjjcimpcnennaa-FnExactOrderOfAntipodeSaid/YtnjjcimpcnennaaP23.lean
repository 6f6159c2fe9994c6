/- The opposite of an algebra, of the program. -/
import Derived.Test.YtnjjcimpcnennaaP12
namespace Go.Proofs.Ytnjjcimpcnennaa
open Go.RowKit
set_option linter.unusedSimpArgs false
set_option linter.unusedVariables false
attribute [local irreducible] wpQuiet wpQE

theorem tab_zero {p : Int} {n : Nat} {f : Nat → Int} (h : shapeB p n f = true) (u : Nat) (hu : u < 512) (ho : n ≤ u / 64 ∨ n ≤ u / 8 % 8) : tab f u = 0 := by
  unfold shapeB at h
  simp only [Bool.and_eq_true] at h
  have h1 := all_get h.2.2 (u / 64) (by omega)
  unfold entT at h1
  simp only [Bool.and_eq_true, Bool.or_eq_true, decide_eq_true_eq] at h1
  rcases Nat.lt_or_ge (u / 64) n with hi | hi
  · have hj : n ≤ u / 8 % 8 := by omega
    have h2 := all_get h1.1 (u / 8 % 8) (by omega)
    unfold entL at h2
    simp only [Bool.and_eq_true, Bool.or_eq_true, decide_eq_true_eq] at h2
    have h3 := h2.2.resolve_left (by omega)
    have h4 := (segEq_iff 0 8 _ zf).1 h3 (u % 8) (by omega)
    unfold rowOf at h4
    rw [show u / 64 * 64 + (u / 8 % 8 * 8 + (0 + u % 8)) = u by omega] at h4
    exact h4
  · have h3 := h1.2.resolve_left (by omega)
    have h4 := (segEq_iff 0 64 _ zf).1 h3 (u % 64) (by omega)
    unfold rowOf at h4
    rw [show u / 64 * 64 + (0 + u % 64) = u by omega] at h4
    exact h4

/-- the products of e(i') and e(j') exchanged in the rows before i, and in row i before j -/
def oppK (n i j : Nat) (f : Nat → Int) : Nat → Int := fun t =>
  if 8 ≤ t ∧ (((t - 8) / 64 < i ∧ (t - 8) / 8 % 8 < n) ∨ ((t - 8) / 64 = i ∧ (t - 8) / 8 % 8 < j)) then f (8 + ((t - 8) / 8 % 8 * 64 + ((t - 8) / 64 * 8 + (t - 8) % 8))) else f t
theorem opp_zero (n : Nat) (f : Nat → Int) : oppK n 0 0 f = f := by
  funext t; unfold oppK; rw [if_neg (by omega)]
theorem opp_row (n i : Nat) (f : Nat → Int) : oppK n i n f = oppK n (i + 1) 0 f := by
  funext t
  unfold oppK
  by_cases h : 8 ≤ t ∧ (((t - 8) / 64 < i ∧ (t - 8) / 8 % 8 < n) ∨ ((t - 8) / 64 = i ∧ (t - 8) / 8 % 8 < n))
  · rw [if_pos h, if_pos (by omega)]
  · rw [if_neg h, if_neg (by omega)]
theorem opp_step (p m : Int) (n i j : Nat) (f : Nat → Int) (hi : i < 8) (hj : j < 8) : lay (alg p m (oppK n i j f)) (10 + i * 64 + j * 8) (row 8 (mtab f j i)) = alg p m (oppK n i (j + 1) f) := by
  rw [show 10 + i * 64 + j * 8 = 2 + (8 + i * 64 + j * 8) by omega, lay_alg _ _ _ _ _ _ (by omega)]
  refine alg_congr fun t _ => ?_
  unfold oppK mtab tab
  by_cases h : 8 + i * 64 + j * 8 ≤ t ∧ t < 8 + i * 64 + j * 8 + 8
  · rw [if_pos h, if_pos (by omega)]
    congr 1
    omega
  · rw [if_neg h]
    by_cases h2 : 8 ≤ t ∧ (((t - 8) / 64 < i ∧ (t - 8) / 8 % 8 < n) ∨ ((t - 8) / 64 = i ∧ (t - 8) / 8 % 8 < j))
    · rw [if_pos h2, if_pos (by omega)]
    · rw [if_neg h2, if_neg (by omega)]

end Go.Proofs.Ytnjjcimpcnennaa
