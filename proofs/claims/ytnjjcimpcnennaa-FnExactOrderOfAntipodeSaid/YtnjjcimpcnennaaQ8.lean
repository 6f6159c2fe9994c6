/- l02Code; the laws' copies of coalgebras; the laws on coalgebras that ask one Boolean or one number. -/
import Derived.Test.YtnjjcimpcnennaaQ7
import Derived.Test.YtnjjcimpcnennaaP24
import Derived.Test.YtnjjcimpcnennaaP18
namespace Go.Proofs.Ytnjjcimpcnennaa
open Go.RowKit
set_option linter.unusedSimpArgs false
set_option linter.unusedVariables false
attribute [local irreducible] wpQuiet wpQE

set_option maxRecDepth 100000 in
theorem eqCoalgebra_same (p n : Int) (f : Nat → Int) (w : World) :
    Calls Try.prog 21 #[.agg (alg p n f), .agg (alg p n f)] w fun e w' => e = .returned (.bool true) ∧ Below w.heap.size w w' := by
  go_enter Try.func21, Try.ntmps21
  go_wp2_with fail
  refine (eqVector_same _ _).mono ?_; rintro e w1 ⟨rfl, hw1⟩
  obtain ⟨x0, y0⟩ := keepB (b := w.heap.size) (c := alg p n f) hw1 (by simp <;> omega) (by simp [go_sem]) (by simp [go_sem])
  obtain ⟨x1, y1⟩ := keepB (b := w.heap.size + 1) (c := alg p n f) hw1 (by simp <;> omega) (by simp [go_sem]) (by simp [go_sem])
  have hb1 : Below w.heap.size w w1 := Below.trans (((Below.refl w.heap.size w).alloc (Nat.le_refl _) (.cells (alg p n f) 45)).alloc (by simp) (.cells (alg p n f) 45)) (hw1.mono (by simp <;> omega))
  clear hw1
  go_wp2_with fail
  refine (eqTable_same _ _).mono ?_; rintro e w2 ⟨rfl, hw2⟩
  have hb2 := hb1.trans (hw2.mono hb1.size)
  go_wp2_with fail
  go_ret
  exact ⟨rfl, hb2⟩

theorem all_upto {q : Nat → Bool} {m : Nat} (h : ∀ i, i < m → q i = true) : (List.range m).all q = true := all_yes m h

end Go.Proofs.Ytnjjcimpcnennaa
