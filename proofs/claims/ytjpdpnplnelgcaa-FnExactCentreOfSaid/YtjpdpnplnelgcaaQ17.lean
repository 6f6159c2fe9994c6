/- The least subcoalgebra of a vector: both programs, and the law. -/
import Derived.Test.YtjpdpnplnelgcaaQ16
import Derived.Test.YtjpdpnplnelgcaaQ10
import Derived.Test.YtjpdpnplnelgcaaQ14
import Derived.Test.YtjpdpnplnelgcaaRegionF
namespace Go.Proofs.Ytjpdpnplnelgcaa
open Go.RowKit
set_option linter.unusedSimpArgs false
set_option linter.unusedVariables false
attribute [local irreducible] wpQuiet wpQE

/-! ### a reduced list there is -/
theorem red_exists {p : Int} {g : Nat → Nat → Int} (hpr : prime31 p = true) : ∀ m, (∀ i, i < m → ∀ t, t < 8 → 0 ≤ g i t ∧ g i t < p) → ∃ R h l, Red p 8 R h l ∧ SameSpan p 8 m g R h := by
  have hp2 : 2 ≤ p := by
    have := hpr
    unfold prime31 at this
    simp only [Bool.and_eq_true, decide_eq_true_eq] at this
    exact this.1.1
  have hp : 0 < p := by omega
  intro m
  induction m with
  | zero => exact fun _ => ⟨0, g, fun _ => 0, red_none, same_none⟩
  | succ m ih =>
    intro hg
    obtain ⟨R, h, l, hR, hS⟩ := ih fun i hi => hg i (by omega)
    have base := same_trans (snoc_succ (p := p) (N := 8) (i := m) (g := g)) (snoc_congr hS)
    cases hz : segEq 0 8 (byG p h l (g m) R) zf
    · obtain ⟨q, hq, hlow, hne⟩ := first_place hz
      obtain ⟨k, _, _, _, _, _, hPR, hPS⟩ := put_facts hpr hp hR (hg m (by omega)) hq hlow hne
      exact ⟨_, _, _, hPR, same_trans base hPS⟩
    · have HS := snoc_same ((by_zero_iff hp hR.ech (hg m (by omega))).1 fun t ht => by have := (segEq_iff 0 8 _ _).1 hz t ht; rw [Nat.zero_add] at this; exact this)
      exact ⟨R, h, l, hR, same_trans base HS⟩
/-! ### the middles -/
/-- column l of A, the first k entries -/
def colP (A : Nat → Int) (l k : Nat) : Nat → Int := fun t => if t < k then A (t * 8 + l) else 0
theorem col_zero (A : Nat → Int) (l : Nat) : row 8 zf = row 8 (colP A l 0) := row_congr fun t _ => by unfold colP zf; rw [if_neg (by omega)]
theorem col_upd (A : Nat → Int) (l k : Nat) (y : Int) (hy : y = A (k * 8 + l)) : row 8 (upd (colP A l k) k y) = row 8 (colP A l (k + 1)) := row_congr fun t _ => by
  unfold upd colP
  by_cases h : t = k
  · subst h; rw [if_pos rfl, if_pos (by omega), hy]
  · rw [if_neg h]
    by_cases h2 : t < k
    · rw [if_pos h2, if_pos (by omega)]
    · rw [if_neg h2, if_neg (by omega)]
def firF (p : Int) (f v : Nat → Int) (n j : Nat) : Nat → Int := fun t => copS p f v n n 0 (j * 8 + t)
def nexF (p : Int) (f v : Nat → Int) (n j : Nat) : Nat → Int := copS p f (firF p f v n j) n n 0
def midF (p : Int) (f v : Nat → Int) (n : Nat) : Nat → Nat → Int := fun i => colP (nexF p f v n (i / n)) (i % n) n
theorem copS_range {p : Int} (hp : 0 < p) (f v : Nat → Int) (n i j t : Nat) : 0 ≤ copS p f v n i j t ∧ copS p f v n i j t < p := by
  unfold copS
  split
  · exact cop_range p hp f v i j t
  · omega
theorem col_range {p : Int} (hp : 0 < p) (f v : Nat → Int) (n l k t : Nat) : 0 ≤ colP (copS p f v n n 0) l k t ∧ colP (copS p f v n n 0) l k t < p := by
  unfold colP
  split
  · exact copS_range hp _ _ _ _ _ _
  · omega
theorem mid_at {p : Int} {f v : Nat → Int} {n j l : Nat} (hl : l < n) : midF p f v n (j * n + l) = colP (nexF p f v n j) l n := by
  unfold midF
  rw [Nat.mul_comm j n, Nat.mul_add_div (by omega), Nat.mul_add_mod, Nat.div_eq_of_lt hl, Nat.mod_eq_of_lt hl, Nat.add_zero]
/-- the program's middles, zeros among them -/
def ranF (p : Int) (f v : Nat → Int) : Nat → Nat → Int := fun i t => flipF (copF p f (fun t => copF p f v 8 (i / 8 * 8 + t)) 8) (i % 8 * 8 + t)
theorem copF_range {p : Int} (hp : 0 < p) (f v : Nat → Int) (m t : Nat) : 0 ≤ copF p f v m t ∧ copF p f v m t < p := by
  unfold copF
  exact ⟨Int.emod_nonneg _ (by omega), Int.emod_lt_of_pos _ hp⟩
theorem copF_congr {p : Int} {f u v : Nat → Int} (e : ∀ t, t < 8 → u t = v t) (t : Nat) : copF p f u 8 t = copF p f v 8 t := by
  unfold copF
  rw [sumTo_congr 8 fun i hi => by rw [e i hi]]
theorem ran_range {p : Int} (hp : 0 < p) (f v : Nat → Int) (i t : Nat) : 0 ≤ ranF p f v i t ∧ ranF p f v i t < p := by
  unfold ranF flipF
  exact copF_range hp _ _ _ _
theorem ran_at {p : Int} {n : Nat} {f v : Nat → Int} (hn : n ≤ 8) (h : shapeB p n f = true) {j c t : Nat} (hj : j < n) (hc : c < n) (ht : t < 8) : ranF p f v (j * 8 + c) t = colP (nexF p f v n j) c n t := by
  have e1 : (j * 8 + c) / 8 = j := by omega
  have e2 : (j * 8 + c) % 8 = c := by omega
  have e3 : (c * 8 + t) % 8 = t := by omega
  have e4 : (c * 8 + t) / 8 = c := by omega
  unfold ranF flipF colP nexF
  rw [e1, e2, e3, e4]
  have e5 : copF p f (fun t => copF p f v 8 (j * 8 + t)) 8 (t * 8 + c) = copS p f (firF p f v n j) n n 0 (t * 8 + c) := by
    rw [cop_same hn h _ (by omega)]
    exact copF_congr (fun s hs => by unfold firF; rw [cop_same hn h _ (by omega)]) _
  rw [e5]
  split
  · rfl
  · unfold copS
    rw [if_neg (by omega)]
theorem ran_out {p : Int} {n : Nat} {f v : Nat → Int} (hn : n ≤ 8) (h : shapeB p n f = true) {j c t : Nat} (hj : j < 8) (hc : c < 8) (ho : n ≤ j ∨ n ≤ c) (ht : t < 8) : ranF p f v (j * 8 + c) t = 0 := by
  have e1 : (j * 8 + c) / 8 = j := by omega
  have e2 : (j * 8 + c) % 8 = c := by omega
  have e3 : (c * 8 + t) % 8 = t := by omega
  have e4 : (c * 8 + t) / 8 = c := by omega
  have z : ∀ i k, i < 8 → k < 8 → n ≤ c → mtab f i k c = 0 := fun i k hi hk hnc => by
    have := (shape_entry h i k c hi hk hc).2
    omega
  have z2 : ∀ i s, i < 8 → s < 8 → n ≤ j → mtab f i j s = 0 := fun i s hi hs hnj => by
    have := (shape_entry h i j s hi hj hs).2
    omega
  unfold ranF flipF
  rw [e1, e2, e3, e4]
  unfold copF
  have e6 : (t * 8 + c) / 8 = t := by omega
  have e7 : (t * 8 + c) % 8 = c := by omega
  rw [e6, e7, sumTo_zero 8 fun i hi => ?_]
  · simp
  · rcases ho with ho | ho
    · have e8 : (j * 8 + i) / 8 = j := by omega
      have e9 : (j * 8 + i) % 8 = i := by omega
      have : sumTo (fun x => v x * mtab f x j i) 8 = 0 := sumTo_zero 8 fun x hx => by rw [z2 x i hx hi ho, Int.mul_zero]
      dsimp only
      rw [e8, e9, this]
      simp
    · rw [z i t hi ht ho, Int.mul_zero]
theorem ran_same {p : Int} {n : Nat} {f v : Nat → Int} (hn : n ≤ 8) (h : shapeB p n f = true) : SameSpan p 8 64 (ranF p f v) (n * n) (midF p f v n) := by
  constructor
  · intro i hi
    by_cases ho : i / 8 < n ∧ i % 8 < n
    · have hk : i / 8 * n + i % 8 < n * n := by
        have := Nat.mul_le_mul_right n (show i / 8 + 1 ≤ n by omega)
        rw [Nat.add_mul] at this
        omega
      refine span_congr (span_self hk) fun t ht => ?_
      rw [mid_at ho.2]
      have := ran_at (v := v) hn h ho.1 ho.2 ht
      rw [show i / 8 * 8 + i % 8 = i by omega] at this
      rw [this]
    · refine span_zero fun t ht => ?_
      have := ran_out (v := v) hn h (j := i / 8) (c := i % 8) (by omega) (by omega) (by omega) ht
      rw [show i / 8 * 8 + i % 8 = i by omega] at this
      rw [this]; simp
  · intro k hk
    have h0 : 0 < n := by
      rcases Nat.eq_zero_or_pos n with e | e
      · subst e; simp at hk
      · exact e
    have hj : k / n < n := (Nat.div_lt_iff_lt_mul h0).2 hk
    have hc := Nat.mod_lt k h0
    have hi : k / n * 8 + k % n < 64 := by omega
    refine span_congr (span_self hi) fun t ht => ?_
    rw [ran_at hn h hj hc ht]
    rfl

theorem snoc_mid {p : Int} {f v : Nat → Int} {n j l : Nat} (hl : l < n) : SameSpan p 8 (j * n + l + 1) (midF p f v n) (j * n + l + 1) (snocG (midF p f v n) (j * n + l) (colP (nexF p f v n j) l n)) := by
  have := snoc_succ (p := p) (N := 8) (g := midF p f v n) (i := j * n + l)
  rwa [mid_at hl] at this
theorem same_none' {p : Int} {n : Nat} {f g : Nat → Nat → Int} : SameSpan p 8 (0 * n) g 0 f := by rw [Nat.zero_mul]; exact same_none
theorem same_next {p : Int} {n j k : Nat} {f g : Nat → Nat → Int} (h : SameSpan p 8 (j * n + n) g k f) : SameSpan p 8 ((j + 1) * n) g k f := by rw [Nat.add_mul, Nat.one_mul]; exact h

/-! ### the answer -/
def IsSub (p : Int) (f v : Nat → Int) (R : Nat) (h : Nat → Nat → Int) : Prop := (∃ l, Red p 8 R h l) ∧ SameSpan p 8 64 (ranF p f v) R h
theorem sub_exists {p : Int} {f v : Nat → Int} (hpr : prime31 p = true) (hp : 0 < p) : ∃ R h, IsSub p f v R h := by
  obtain ⟨R, h, l, h1, h2⟩ := red_exists hpr 64 (g := ranF p f v) fun i _ t _ => ran_range hp f v i t
  exact ⟨R, h, ⟨l, h1⟩, h2⟩
open Classical in
noncomputable def subN (p n : Int) (f v : Nat → Int) : Nat := if h : okC p n f 1 (nth v) = true ∧ ∃ R h, IsSub p f v R h then h.2.choose else 0
open Classical in
noncomputable def subG (p n : Int) (f v : Nat → Int) : Nat → Nat → Int := if h : okC p n f 1 (nth v) = true ∧ ∃ R h, IsSub p f v R h then h.2.choose_spec.choose else fun _ _ => 0
theorem sub_yes {p n : Int} {f v : Nat → Int} (h : okC p n f 1 (nth v) = true) (hpr : prime31 p = true) (hp : 0 < p) : IsSub p f v (subN p n f v) (subG p n f v) := by
  have h1 : okC p n f 1 (nth v) = true ∧ ∃ R h, IsSub p f v R h := ⟨h, sub_exists hpr hp⟩
  unfold subN subG
  rw [dif_pos h1, dif_pos h1]
  exact h1.2.choose_spec.choose_spec
theorem sub_no {p n : Int} {f v : Nat → Int} (h : okC p n f 1 (nth v) = false) : subN p n f v = 0 := by
  unfold subN
  rw [dif_neg (fun x => by rw [x.1] at h; cases h)]
theorem sub_le (p n : Int) (f v : Nat → Int) : subN p n f v ≤ 8 := by
  unfold subN
  split
  · rename_i h
    obtain ⟨l, hl⟩ := h.2.choose_spec.choose_spec.1
    exact red_le hl
  · omega
theorem ran_add {p : Int} {f v : Nat → Int} {i : Nat} : ∀ k, k < i * 8 + 8 → ∀ t, t < 8 → addVs (ranF p f v) (i * 8) 0 (flipF (copF p f (fun t => copF p f v 8 (i * 8 + t)) 8)) k t = ranF p f v k t := fun k hk t ht => by
  unfold addVs
  by_cases h : k < i * 8
  · rw [if_pos h]
  · rw [if_neg h]
    unfold ranF
    rw [show k / 8 = i by omega, show 0 + ((k - i * 8) * 8 + t) = k % 8 * 8 + t by omega]
theorem flipB64 {F : Nat → Int} (h : Bytes 64 F) : Bytes 64 (flipF F) := fun t ht => h _ (by omega)
theorem copF_bytes {p : Int} (hp : 0 < p) (hp' : p ≤ 255) (f v : Nat → Int) (m k : Nat) : Bytes k (copF p f v m) := fun t _ => by have := copF_range hp f v m t; omega

end Go.Proofs.Ytjpdpnplnelgcaa
