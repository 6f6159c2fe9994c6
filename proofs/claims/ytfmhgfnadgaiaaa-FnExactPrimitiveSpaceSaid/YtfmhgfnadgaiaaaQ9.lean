/- Coproducts, Counits and duals, cocommutative coalgebras, group-like vectors: both programs, and their laws. -/
import Derived.Test.YtfmhgfnadgaiaaaQ8
import Derived.Test.YtfmhgfnadgaiaaaP20
import Derived.Test.YtfmhgfnadgaiaaaP14
namespace Go.Proofs.Ytfmhgfnadgaiaaa
open Go.RowKit
set_option linter.unusedSimpArgs false
set_option linter.unusedVariables false
attribute [local irreducible] wpQuiet wpQE

theorem vecs_one {W : World} {b : Nat} {v : Nat → Int} (hc : blk W b = row 8 v) (hv : Bytes 8 v) : VecsAt W b 0 1 (nth v) := fun i hi => by
  obtain rfl : i = 0 := by omega
  rw [hc, row_size]
  exact ⟨by omega, nth_row v 8 0 (by omega), by rw [nth_zero]; exact hv⟩
theorem vecs_two {W : World} {b : Nat} {v u : Nat → Int} (hc : blk W b = row 16 (pair v u)) (hv : Bytes 8 v) (hu : Bytes 8 u) : VecsAt W b 0 2 (nth (pair v u)) := fun i hi => by
  rw [hc, row_size]
  exact ⟨by omega, nth_row _ 16 i (by omega), pair_bytes hv hu i hi⟩
theorem okC_co {p n : Int} {f : Nat → Int} {m : Nat} {g : Nat → Nat → Int} (h : okC p n f m g = true) : coB p n f = true := by
  unfold okC at h
  simp only [Bool.and_eq_true] at h
  exact h.1
theorem okC_vec {p n : Int} {f v : Nat → Int} (h : okC p n f 1 (nth v) = true) (i : Nat) (hi : i < 8) : v i < p ∧ ((i : Int) < n ∨ v i = 0) := by
  unfold okC at h
  simp only [Bool.and_eq_true] at h
  have := all_get h.2 0 (by omega)

  rw [nth_zero] at this
  exact (vecB_iff p n v).1 this i hi
theorem ret_cell {c d : Array Value} {a b : Int} (h : c = d) (h' : a = b) : Ending.returned (.tuple #[.agg c, .int .i64 a]) = .returned (.tuple #[.agg d, .int .i64 b]) := by rw [h, h']
theorem ret_bc {c d : Bool} {a b : Int} (h : c = d) (h' : a = b) : Ending.returned (.tuple #[.bool c, .int .i64 a]) = .returned (.tuple #[.bool d, .int .i64 b]) := by rw [h, h']
theorem ret_ic {c d a b : Int} (h : c = d) (h' : a = b) : Ending.returned (.tuple #[.int .i64 c, .int .i64 a]) = .returned (.tuple #[.int .i64 d, .int .i64 b]) := by rw [h, h']

/-- the Counit of v, or 0 -/
def counitR (p n : Int) (f v : Nat → Int) : Int := match okC p n f 1 (nth v) with | true => dotF 8 f v % p | false => 0
theorem counit_yes {p n : Int} {f v : Nat → Int} (h : okC p n f 1 (nth v) = true) : counitR p n f v = dotF 8 f v % p := by unfold counitR; rw [h]
theorem counit_no {p n : Int} {f v : Nat → Int} (h : okC p n f 1 (nth v) = false) : counitR p n f v = 0 := by unfold counitR; rw [h]

/-- the coproduct of v, or zeros -/
def copR (p n : Int) (f v : Nat → Int) : Nat → Int := match okC p n f 1 (nth v) with | true => copF p f v 8 | false => zf
theorem copR_yes {p n : Int} {f v : Nat → Int} (h : okC p n f 1 (nth v) = true) : row 64 (copF p f v 8) = row 64 (copR p n f v) := by unfold copR; rw [h]
theorem copR_no {p n : Int} {f v : Nat → Int} (h : okC p n f 1 (nth v) = false) : row 64 zf = row 64 (copR p n f v) := by unfold copR; rw [h]
/-- by the images before n alone it is the same -/
theorem cop_same {p : Int} {n : Nat} {f v : Nat → Int} (hn : n ≤ 8) (h : shapeB p n f = true) : ∀ t, t < 64 → copS p f v n n 0 t = copF p f v 8 t := fun t ht => by
  unfold copS copK copF
  split
  · rw [if_neg (by omega), sumTo_more (n := n) (fun i h1 h2 => by have := (shape_entry h i (t / 8) (t % 8) h2 (by omega) (by omega)).2; rw [show mtab f i (t / 8) (t % 8) = 0 by omega, Int.mul_zero]) hn]
  · rw [sumTo_zero 8 fun i hi => by have := (shape_entry h i (t / 8) (t % 8) hi (by omega) (by omega)).2; rw [show mtab f i (t / 8) (t % 8) = 0 by omega, Int.mul_zero]]
    rfl

end Go.Proofs.Ytfmhgfnadgaiaaa
