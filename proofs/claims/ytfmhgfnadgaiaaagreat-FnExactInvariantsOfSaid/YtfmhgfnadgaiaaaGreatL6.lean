/- Linear algebra by the reference model: systems solved, kernels, meets. -/
import Derived.Test.YtfmhgfnadgaiaaaGreatQ16
import Derived.OwnWalk
namespace Go.Proofs.YtfmhgfnadgaiaaaGreat
open Go.RowKit
set_option linter.unusedSimpArgs false
set_option linter.unusedVariables false
attribute [local irreducible] wpQuiet wpQE

theorem ebas_range {p : Int} (hp : 2 ≤ p) (i t : Nat) : 0 ≤ ebas i t ∧ ebas i t < p := by unfold ebas upd zf; split <;> omega
theorem lt_bytes {p : Int} (hp' : p ≤ 255) {n : Nat} {f : Nat → Int} (h : ∀ t, t < n → 0 ≤ f t ∧ f t < p) : Bytes n f := fun t ht => by have := h t ht; omega
theorem p2_of {p : Int} (h : prime31 p = true) : 2 ≤ p := by
  unfold prime31 at h
  simp only [Bool.and_eq_true, decide_eq_true_eq] at h
  exact h.1.1
theorem tells_le {p : Int} {N m : Nat} {g : Nat → Nat → Int} {S : (Nat → Int) → Prop} (h : Tells p N m g S) : m ≤ N := by
  obtain ⟨⟨l, r⟩, _⟩ := h
  exact red_le r

/-! ### meets -/
end Go.Proofs.YtfmhgfnadgaiaaaGreat
