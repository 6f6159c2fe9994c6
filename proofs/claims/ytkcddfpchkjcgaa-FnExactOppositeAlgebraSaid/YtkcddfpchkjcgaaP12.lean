/- The walk of FnExactIsAlgebra. -/
import Derived.Test.YtkcddfpchkjcgaaP11
namespace Go.Proofs.Ytkcddfpchkjcgaa
open Go.RowKit
set_option linter.unusedSimpArgs false
set_option linter.unusedVariables false

set_option maxRecDepth 100000 in
theorem lawIsAlgebra (p n : Int) (f : Nat → Int) (_wp : (Lit.int .i64 p).wf = true) (_wn : (Lit.int .i64 n).wf = true) (hb : Bytes 520 f) (w : World) :
    Calls Try.prog 8 #[.agg (alg p n f)] w fun e w' => e = .returned (.bool true) ∧ Below w.heap.size w w' := by
  have Hb := Lib.hid hb
  clear hb
  go_enter Try.func8, Try.ntmps8
  go_wp2_with fail
  refine (toAlgebra_any _ _ _ _).mono ?_; rintro e w1 ⟨rfl, hb1⟩
  obtain ⟨m1, c1⟩ := keepB (c := alg p n f) (b := w.heap.size) hb1 (by simp) (by simp [go_sem]) (by simp [go_sem])
  go_wp2_with fail
  refine (specIsAlgebra_any _ _ _ _ Hb.out).mono ?_; rintro e w2 ⟨rfl, hb2⟩
  obtain ⟨m2, c2⟩ := keepB hb2 (isRow_lt m1) m1 c1
  go_wp2_with fail
  refine (toAlgebra_any _ _ _ _).mono ?_; rintro e w3 ⟨rfl, hb3⟩
  go_wp2_with fail
  refine (isAlgebra_any _ _ _ _ Hb.out).mono ?_; rintro e w4 ⟨rfl, hb4⟩
  go_wp2_with fail
  go_ret
  have z1 := hb1.size
  have z2 := hb2.size
  have z3 := hb3.size
  simp only [World.size_alloc] at z1
  exact ⟨rfl, (((((Below.refl _ _).alloc (Nat.le_refl _) _).trans (hb1.mono (by simp))).trans (hb2.mono (by omega))).trans (hb3.mono (by omega))).trans (hb4.mono (by omega))⟩
end Go.Proofs.Ytkcddfpchkjcgaa
