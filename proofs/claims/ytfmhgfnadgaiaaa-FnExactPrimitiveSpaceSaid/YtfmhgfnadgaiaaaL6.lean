/- Linear algebra by the reference model: systems solved, kernels, meets. -/
import Derived.Test.YtfmhgfnadgaiaaaQ16
import Derived.OwnWalk
namespace Go.Proofs.Ytfmhgfnadgaiaaa
open Go.RowKit
set_option linter.unusedSimpArgs false
set_option linter.unusedVariables false
attribute [local irreducible] wpQuiet wpQE

theorem src_step {p : Int} {im so : Nat → Nat → Int} {l : Nat → Nat} {v u : Nat → Int} {k : Nat} : row 8 (addm p 0 8 (-(byG p im l v k (l k))) (srcG p im so l v u k) (so k)) = row 8 (srcG p im so l v u (k + 1)) := addm_row fun t _ => by rw [srcG, addF]
theorem src_skip {p : Int} {im so : Nat → Nat → Int} {l : Nat → Nat} {v u : Nat → Int} {k : Nat} (hp : 0 < p) (hu : ∀ t, t < 8 → 0 ≤ u t ∧ u t < p) (h0 : byG p im l v k (l k) = 0) : row 8 (srcG p im so l v u k) = row 8 (srcG p im so l v u (k + 1)) := row_congr fun t ht => by
  rw [srcG, addF, h0, Int.neg_zero, Int.zero_mul, Int.add_zero, small_mod (src_range hp hu k t ht)]
theorem ebas_range {p : Int} (hp : 2 ≤ p) (i t : Nat) : 0 ≤ ebas i t ∧ ebas i t < p := by unfold ebas upd zf; split <;> omega
theorem lt_bytes {p : Int} (hp' : p ≤ 255) {n : Nat} {f : Nat → Int} (h : ∀ t, t < n → 0 ≤ f t ∧ f t < p) : Bytes n f := fun t ht => by have := h t ht; omega
theorem p2_of {p : Int} (h : prime31 p = true) : 2 ≤ p := by
  unfold prime31 at h
  simp only [Bool.and_eq_true, decide_eq_true_eq] at h
  exact h.1.1
theorem sca_at {p c : Int} {v : Nat → Int} {t : Nat} (ht : t < 8) : addm p 0 8 c zf v t = c * v t % p := by
  rw [addm_at8 ht]; unfold addF zf; rw [Int.zero_add]
theorem add_sca {p c : Int} {m : Nat} {f : Nat → Nat → Int} {v : Nat → Int} : ∀ k, k < m + 1 → ∀ t, t < 8 → addV f m (addm p 0 8 c zf v) k t = (if k < m then f k else fun t => c * v t % p) t := fun k hk t ht => by
  unfold addV
  split
  · rfl
  · exact sca_at ht
theorem zero_of {v : Nat → Int} (h : segEq 0 8 v zf = true) : ∀ t, t < 8 → v t = 0 := fun t ht => by
  have := (segEq_iff 0 8 v zf).1 h t ht
  rw [Nat.zero_add] at this
  exact this
theorem sol_ech {p : Int} {n : Nat} {A im so ke : Nat → Nat → Int} {i a b : Nat} {l : Nat → Nat} (s : Sol p n A i a im so l b ke) : Ech p 8 a im l := s.ech

/-- the kernel's list -/
theorem sol_tells {p : Int} {n : Nat} {A im so ke h : Nat → Nat → Int} {a b R : Nat} {l l' : Nat → Nat} (hn : n ≤ 8) (s : Sol p n A n a im so l b ke) (r : Red p 8 R h l') (e : SameSpan p 8 b ke R h) : Tells p 8 R h (KerOf p 8 n A) :=
  tells_iff (tells_span r e) fun x => sol_kernel hn s x
theorem sol_keR {p : Int} {n : Nat} {A im so ke : Nat → Nat → Int} {i a b : Nat} {l : Nat → Nat} (s : Sol p n A i a im so l b ke) : ∀ k, k < b → ∀ t, t < 8 → 0 ≤ ke k t ∧ ke k t < p := s.keR
theorem tells_rng {p : Int} {N m : Nat} {g : Nat → Nat → Int} {S : (Nat → Int) → Prop} (h : Tells p N m g S) : ∀ i, i < m → ∀ t, t < N → 0 ≤ g i t ∧ g i t < p := by
  obtain ⟨⟨l, r⟩, _⟩ := h
  exact r.rng
theorem tells_le {p : Int} {N m : Nat} {g : Nat → Nat → Int} {S : (Nat → Int) → Prop} (h : Tells p N m g S) : m ≤ N := by
  obtain ⟨⟨l, r⟩, _⟩ := h
  exact red_le r

/-! ### meets -/
/-- the rows of the first list, reduced by the second -/
def rowsK (one : Nat → Nat → Int) (i : Nat) : Nat → Int := fun t => if t / 8 < i then one (t / 8) (t % 8) else 0
theorem rows_zero (one : Nat → Nat → Int) : row 64 zf = row 64 (rowsK one 0) := row_congr fun t _ => by unfold rowsK zf; rw [if_neg (by omega)]
theorem rows_set (one : Nat → Nat → Int) (i : Nat) (hi : i < 8) : lay (row 64 (rowsK one i)) (i * 8) (row 8 (one i)) = row 64 (rowsK one (i + 1)) := by
  rw [lay_row _ _ _ _ _ (by omega)]
  refine row_congr fun t ht => ?_
  unfold rowsK
  by_cases h : i * 8 ≤ t ∧ t < i * 8 + 8
  · rw [if_pos h, if_pos (by omega), show t / 8 = i by omega, show t - i * 8 = t % 8 by omega]
  · rw [if_neg h]
    by_cases h2 : t / 8 < i
    · rw [if_pos h2, if_pos (by omega)]
    · rw [if_neg h2, if_neg (by omega)]

/-- the first k rows of the first list, combined -/
def cmbK (p : Int) (one : Nat → Nat → Int) (c : Nat → Int) (k : Nat) : Nat → Int := fun t => sumTo (fun j => c j * one j t) k % p
theorem cmb_zero (p : Int) (one : Nat → Nat → Int) (c : Nat → Int) : row 8 zf = row 8 (cmbK p one c 0) := row_congr fun t _ => by unfold cmbK zf; simp [sumTo]
theorem cmb_step {p : Int} {one : Nat → Nat → Int} {c : Nat → Int} {k : Nat} : row 8 (addm p 0 8 (c k) (cmbK p one c k) (one k)) = row 8 (cmbK p one c (k + 1)) := addm_row fun t _ => by unfold cmbK; rw [Int.emod_add_emod, sumTo]
theorem cmb_range {p : Int} (hp : 0 < p) (one : Nat → Nat → Int) (c : Nat → Int) (k t : Nat) : 0 ≤ cmbK p one c k t ∧ cmbK p one c k t < p := ⟨Int.emod_nonneg _ (by omega), Int.emod_lt_of_pos _ hp⟩
theorem rows_range {p : Int} {one : Nat → Nat → Int} {m i : Nat} (hp : 0 < p) (hi : i ≤ m) (h : ∀ k, k < m → ∀ t, t < 8 → 0 ≤ one k t ∧ one k t < p) : ∀ t, t < 64 → 0 ≤ rowsK one i t ∧ rowsK one i t < p := fun t ht => by
  unfold rowsK
  split
  · exact h _ (by omega) _ (by omega)
  · omega
theorem ker_rows {p : Int} {m : Nat} {one : Nat → Nat → Int} {x : Nat → Int} : KerOf p 8 m (fun i t => rowsK one m (i * 8 + t)) x ↔ KerOf p 8 m one x := by
  have e : ∀ t, t < 8 → sumTo (fun i => x i * rowsK one m (i * 8 + t)) m = sumTo (fun i => x i * one i t) m := fun t ht => sumTo_congr m fun i hi => by
    unfold rowsK
    rw [show (i * 8 + t) / 8 = i by omega, show (i * 8 + t) % 8 = t by omega, if_pos hi]
  unfold KerOf
  constructor <;> rintro ⟨h1, h2⟩ <;> refine ⟨fun t ht => ?_, h2⟩ <;> have := h1 t ht <;> dsimp only at this ⊢
  · rw [← e t ht]; exact this
  · rw [e t ht]; exact this
theorem meet_more {p : Int} {m1 i a b : Nat} {one fK g h : Nat → Nat → Int} (h1 : SameSpan p 8 i (fun i => cmbK p one (fK i) m1) a g) (h2 : SameSpan p 8 (a + 1) (snocG g a (cmbK p one (fK i) m1)) b h) : SameSpan p 8 (i + 1) (fun i => cmbK p one (fK i) m1) b h :=
  same_trans (snoc_succ (g := fun i => cmbK p one (fK i) m1) (i := i)) (same_trans (snoc_congr h1) h2)
theorem meet_tells {p : Int} {m1 m2 mK mO : Nat} {one two fK fO : Nat → Nat → Int} {l2 lO : Nat → Nat} (hp : 0 < p) (h1 : m1 ≤ 8) (ho : ∀ i, i < m1 → ∀ t, t < 8 → 0 ≤ one i t ∧ one i t < p) (r : Red p 8 m2 two l2)
    (hT : Tells p 8 mK fK (KerOf p 8 m1 fun i t => rowsK (fun i => byG p two l2 (one i) m2) m1 (i * 8 + t))) (rO : Red p 8 mO fO lO) (hS : SameSpan p 8 mK (fun i => cmbK p one (fK i) m1) mO fO) :
    Tells p 8 mO fO (fun v => InSpan p 8 m1 one v ∧ InSpan p 8 m2 two v) := by
  refine tells_iff (tells_span rO hS) fun v => ⟨fun hv => ?_, fun hv => ?_⟩
  · have key : ∀ i, i < mK → InSpan p 8 m1 one (cmbK p one (fK i) m1) ∧ InSpan p 8 m2 two (cmbK p one (fK i) m1) := fun i hi => by
      have hk := ker_rows.1 ((hT.2 (fK i)).1 (span_self hi))
      refine ⟨⟨fK i, fun t _ => by unfold cmbK; rw [Int.emod_emod]⟩, ?_⟩
      refine span_congr ((meet_ker hp r.ech ho).1 hk.1) fun t _ => ?_
      unfold cmbK comb
      rw [Int.emod_emod]
    exact ⟨span_trans (fun i hi => (key i hi).1) hv, span_trans (fun i hi => (key i hi).2) hv⟩
  · obtain ⟨⟨c, hc⟩, h2⟩ := hv
    have e1 : ∀ t, t < 8 → v t % p = comb one m1 (fun j => if j < m1 then c j else 0) t % p := fun t ht => by
      rw [hc t ht]
      unfold comb
      congr 1
      exact sumTo_congr m1 fun j hj => by dsimp only; rw [if_pos hj]
    have h3 : InSpan p 8 m2 two (comb one m1 fun j => if j < m1 then c j else 0) := span_congr h2 fun t ht => (e1 t ht).symm
    have h4 := (meet_ker hp r.ech ho).2 h3
    have h5 : KerOf p 8 m1 (fun i => byG p two l2 (one i) m2) (fun j => if j < m1 then c j else 0) := ⟨h4, fun t h6 _ => by dsimp only; rw [if_neg (by omega)]; simp⟩
    obtain ⟨d, hd⟩ := (hT.2 _).2 (ker_rows.2 h5)
    refine ⟨d, fun t ht => ?_⟩
    rw [e1 t ht, comb_sum (A := one) (g := fK) (n := m1) (m := mK) (c := d) (fun j hj => hd j (by omega)) t]
    refine sum_mod p _ _ mK fun i _ => ?_
    unfold cmbK comb
    rw [Int.mul_emod, ← Int.emod_emod (sumTo _ _), ← Int.mul_emod]

end Go.Proofs.Ytfmhgfnadgaiaaa
