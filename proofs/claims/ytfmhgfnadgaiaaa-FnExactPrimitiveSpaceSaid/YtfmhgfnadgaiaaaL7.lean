/- The reduced list of a space, by choice; spaces that several linear maps lead to 0. -/
import Derived.Test.YtfmhgfnadgaiaaaL5
import Derived.Test.YtfmhgfnadgaiaaaRegionG
namespace Go.Proofs.Ytfmhgfnadgaiaaa
open Go.RowKit
set_option linter.unusedSimpArgs false
set_option linter.unusedVariables false
attribute [local irreducible] wpQuiet wpQE

/-! ### the reduced list of a space, by choice -/
open Classical in
noncomputable def telN (p : Int) (S : (Nat → Int) → Prop) : Nat := if h : ∃ R g, Tells p 8 R g S then h.choose else 0
open Classical in
noncomputable def telG (p : Int) (S : (Nat → Int) → Prop) : Nat → Nat → Int := if h : ∃ R g, Tells p 8 R g S then h.choose_spec.choose else fun _ _ => 0
theorem tel_yes {p : Int} {S : (Nat → Int) → Prop} {R : Nat} {g : Nat → Nat → Int} (h : Tells p 8 R g S) : Tells p 8 (telN p S) (telG p S) S := by
  have h1 : ∃ R g, Tells p 8 R g S := ⟨R, g, h⟩
  unfold telN telG
  rw [dif_pos h1, dif_pos h1]
  exact h1.choose_spec.choose_spec
theorem tel_of {p : Int} {S : (Nat → Int) → Prop} {R : Nat} {g : Nat → Nat → Int} (hp : 2 ≤ p) (h : Tells p 8 R g S) : R = telN p S ∧ ∀ i, i < R → ∀ t, t < 8 → g i t = telG p S i t := tells_unique hp h (tel_yes h)
theorem tel_le (p : Int) (S : (Nat → Int) → Prop) : telN p S ≤ 8 := by
  by_cases h : ∃ R g, Tells p 8 R g S
  · obtain ⟨R, g, h⟩ := h
    exact tells_le (tel_yes h)
  · unfold telN
    rw [dif_neg h]
    omega
theorem kernelOf_to (p : Int) (B U : Nat) (a : Option Addr) (m c N : Nat) (g : Nat → Nat → Int) (S : (Nat → Int) → Prop) (w : World) (hp : 0 < p) (hp' : p ≤ 255) (hpr : prime31 p = true) (hm0 : 0 < m) (hm : m ≤ 8) (hN0 : 0 < N) (hN : N ≤ 400) (hU : U ≤ w.heap.size) (hg : ∀ i, i < m → ∀ t, t < N → 0 ≤ g i t ∧ g i t < p) (hL : RL w B U a m c N g) (hS : ∀ v, KerOf p N m g v ↔ S v) :
    Calls Try.prog 51 #[.int .i64 p, .slice a m c] w fun e w' => ∃ a c, e = .returned (.slice a (telN p S) c) ∧ Below w.heap.size w w' ∧ VL w' w.heap.size w'.heap.size a (telN p S) c (telG p S) :=
  (kernelOf_any p B U a m c N g w hp hp' hpr hm0 hm hN0 hN hU hg hL).mono fun e w' hh => by
    obtain ⟨a', m', c', g', rfl, h2, h3, h4⟩ := hh
    obtain ⟨e1, e2⟩ := tel_of (p2_of hpr) (tells_iff h4 hS)
    exact ⟨a', c', by rw [e1], h2, h3.same e1 e2⟩
theorem addV_row {h : Nat → Nat → Int} {i N : Nat} {u : Nat → Int} (e : ∀ t, t < N → u t = h i t) : ∀ k, k < i + 1 → ∀ t, t < N → addV h i u k t = h k t := fun k hk t ht => by
  by_cases h1 : k < i
  · rw [addV_old h1]
  · obtain rfl : k = i := by omega
    rw [addV_new]; exact e t ht
/-- the basis spans the vectors with nothing behind n -/
theorem whole_tells {p : Int} {n : Nat} (hp : 2 ≤ p) (hn : n ≤ 8) : Tells p 8 n ebas (fun v => ∀ t, n ≤ t → t < 8 → v t % p = 0) := by
  refine ⟨⟨fun i => i, ⟨fun i _ t _ => ebas_range hp i t, fun i hi => by omega, fun i j h _ => h, fun i _ => by unfold ebas upd; rw [if_pos rfl], fun i _ t ht => by unfold ebas upd zf; rw [if_neg (by omega)], fun i j _ _ h => by unfold ebas upd zf; rw [if_neg (by omega)]⟩⟩, fun v => ⟨?_, fun h => ⟨v, fun t ht => ?_⟩⟩⟩
  · rintro ⟨c, hc⟩ t h1 h2
    rw [hc t h2, sumTo_zero n fun i hi => by unfold ebas upd zf; rw [if_neg (by omega), Int.mul_zero]]
    simp
  · by_cases hlt : t < n
    · rw [sumTo_one (k := t) n hlt fun i _ hne => by unfold ebas upd zf; rw [if_neg (by omega), Int.mul_zero]]
      unfold ebas upd
      rw [if_pos rfl, Int.mul_one]
    · rw [h t (by omega) ht, sumTo_zero n fun i hi => by unfold ebas upd zf; rw [if_neg (by omega), Int.mul_zero]]
      simp
/-- nothing behind n, and led to 0 by the first i of the linear maps A -/
def AllKer (p : Int) (n : Nat) (A : Nat → Nat → Nat → Int) (i : Nat) (v : Nat → Int) : Prop := (∀ t, n ≤ t → t < 8 → v t % p = 0) ∧ ∀ j, j < i → ∀ t, t < 8 → sumTo (fun k => v k * A j k t) n % p = 0
theorem all_none {p : Int} {n : Nat} {A : Nat → Nat → Nat → Int} {m : Nat} {g : Nat → Nat → Int} (h : Tells p 8 m g (fun v => ∀ t, n ≤ t → t < 8 → v t % p = 0)) : Tells p 8 m g (AllKer p n A 0) :=
  tells_iff h fun v => ⟨fun h => ⟨h, fun j hj => by omega⟩, fun h => h.1⟩
theorem all_more {p : Int} {n i : Nat} {A : Nat → Nat → Nat → Int} {m1 m2 m : Nat} {one two g : Nat → Nat → Int} (h1 : Tells p 8 m1 one (AllKer p n A i)) (h2 : Tells p 8 m2 two (KerOf p 8 n (A i))) (h : Tells p 8 m g (fun v => InSpan p 8 m1 one v ∧ InSpan p 8 m2 two v)) : Tells p 8 m g (AllKer p n A (i + 1)) :=
  tells_iff h fun v => by
    constructor
    · rintro ⟨a, b⟩
      have a := (h1.2 v).1 a
      have b := (h2.2 v).1 b
      refine ⟨a.1, fun j hj t ht => ?_⟩
      by_cases e : j = i
      · rw [e]; exact b.1 t ht
      · exact a.2 j (by omega) t ht
    · intro a
      exact ⟨(h1.2 v).2 ⟨a.1, fun j hj => a.2 j (by omega)⟩, (h2.2 v).2 ⟨fun t ht => a.2 i (by omega) t ht, a.1⟩⟩
theorem ker_of_rows {p : Int} {m n : Nat} {g A g' : Nat → Nat → Int} (hn : n ≤ 8) (e : ∀ k, k < n → ∀ t, t < 8 → g k t = A k t) (h : Tells p 8 m g' (KerOf p 8 n g)) : Tells p 8 m g' (KerOf p 8 n A) := by
  refine tells_iff h fun v => ?_
  have e1 : ∀ t, t < 8 → sumTo (fun i => v i * g i t) n = sumTo (fun i => v i * A i t) n := fun t ht => sumTo_congr n fun i hi => by rw [e i hi t ht]
  unfold KerOf
  constructor <;> rintro ⟨h1, h2⟩ <;> refine ⟨fun t ht => ?_, h2⟩
  · rw [← e1 t ht]; exact h1 t ht
  · rw [e1 t ht]; exact h1 t ht

theorem rows_at {one : Nat → Nat → Int} {n k t : Nat} (hk : k < n) (ht : t < 8) : rowsK one n (k * 8 + t) = one k t := by
  unfold rowsK
  rw [show (k * 8 + t) / 8 = k by omega, show (k * 8 + t) % 8 = t by omega, if_pos hk]
theorem addm8_range {p : Int} (hp : 0 < p) (c : Int) (v w : Nat → Int) (t : Nat) (ht : t < 8) : 0 ≤ addm p 0 8 c v w t ∧ addm p 0 8 c v w t < p := by
  rw [addm_at8 ht]
  unfold addF
  exact ⟨Int.emod_nonneg _ (by omega), Int.emod_lt_of_pos _ hp⟩
/-- a slice that was made, of vectors that tell of a space -/
def PostL (p : Int) (S : (Nat → Int) → Prop) (W0 : World) (u : Value) (W : World) : Prop := ∃ a m c g, u = .slice a m c ∧ VL W W0.heap.size W.heap.size a m c g ∧ Tells p 8 m g S
theorem closed_postL (p : Int) (S : (Nat → Int) → Prop) (W0 : World) (u : Value) : Closed (PostL p S W0 u) := fun w w' h hb => by
  obtain ⟨a, m, c, g, h1, h2, h3⟩ := h
  exact ⟨a, m, c, g, h1, (h2.below hb (Nat.le_refl _)).wider (Nat.le_refl _) hb.size, h3⟩
theorem emod_range {p : Int} (hp : 0 < p) (x : Int) : 0 ≤ x % p ∧ x % p < p := ⟨Int.emod_nonneg _ (by omega), Int.emod_lt_of_pos _ hp⟩

end Go.Proofs.Ytfmhgfnadgaiaaa
