/- The reduced list of a space, by choice; spaces that several linear maps lead to 0. -/
import Derived.Test.YtfmhgfnadgaiaaaGreatL5
import Derived.Test.YtfmhgfnadgaiaaaGreatRegionG
namespace Go.Proofs.YtfmhgfnadgaiaaaGreat
open Go.RowKit
set_option linter.unusedSimpArgs false
set_option linter.unusedVariables false
attribute [local irreducible] wpQuiet wpQE

/-! ### the reduced list of a space, by choice -/
open Classical in
noncomputable def telN (p : Int) (S : (Nat → Int) → Prop) : Nat := if h : ∃ R g, Tells p 8 R g S then h.choose else 0
open Classical in
noncomputable def telG (p : Int) (S : (Nat → Int) → Prop) : Nat → Nat → Int := if h : ∃ R g, Tells p 8 R g S then h.choose_spec.choose else fun _ _ => 0
theorem tel_yes {p : Int} {S : (Nat → Int) → Prop} {R : Nat} {g : Nat → Nat → Int} (h : Tells p 8 R g S) : Tells p 8 (telN p S) (telG p S) S := by
  have h1 : ∃ R g, Tells p 8 R g S := ⟨R, g, h⟩
  unfold telN telG
  rw [dif_pos h1, dif_pos h1]
  exact h1.choose_spec.choose_spec
theorem tel_of {p : Int} {S : (Nat → Int) → Prop} {R : Nat} {g : Nat → Nat → Int} (hp : 2 ≤ p) (h : Tells p 8 R g S) : R = telN p S ∧ ∀ i, i < R → ∀ t, t < 8 → g i t = telG p S i t := tells_unique hp h (tel_yes h)
theorem tel_le (p : Int) (S : (Nat → Int) → Prop) : telN p S ≤ 8 := by
  by_cases h : ∃ R g, Tells p 8 R g S
  · obtain ⟨R, g, h⟩ := h
    exact tells_le (tel_yes h)
  · unfold telN
    rw [dif_neg h]
    omega
theorem kernelOf_to (p : Int) (B U : Nat) (a : Option Addr) (m c N : Nat) (g : Nat → Nat → Int) (S : (Nat → Int) → Prop) (w : World) (hp : 0 < p) (hp' : p ≤ 255) (hpr : prime31 p = true) (hm0 : 0 < m) (hm : m ≤ 8) (hN0 : 0 < N) (hN : N ≤ 400) (hU : U ≤ w.heap.size) (hg : ∀ i, i < m → ∀ t, t < N → 0 ≤ g i t ∧ g i t < p) (hL : RL w B U a m c N g) (hS : ∀ v, KerOf p N m g v ↔ S v) :
    Calls Tryz.prog 146 #[.int .i64 p, .slice a m c] w fun e w' => ∃ a c, e = .returned (.slice a (telN p S) c) ∧ Below w.heap.size w w' ∧ VL w' w.heap.size w'.heap.size a (telN p S) c (telG p S) :=
  (kernelOf_any p B U a m c N g w hp hp' hpr hm0 hm hN0 hN hU hg hL).mono fun e w' hh => by
    obtain ⟨a', m', c', g', rfl, h2, h3, h4⟩ := hh
    obtain ⟨e1, e2⟩ := tel_of (p2_of hpr) (tells_iff h4 hS)
    exact ⟨a', c', by rw [e1], h2, h3.same e1 e2⟩
theorem addV_row {h : Nat → Nat → Int} {i N : Nat} {u : Nat → Int} (e : ∀ t, t < N → u t = h i t) : ∀ k, k < i + 1 → ∀ t, t < N → addV h i u k t = h k t := fun k hk t ht => by
  by_cases h1 : k < i
  · rw [addV_old h1]
  · obtain rfl : k = i := by omega
    rw [addV_new]; exact e t ht
end Go.Proofs.YtfmhgfnadgaiaaaGreat
