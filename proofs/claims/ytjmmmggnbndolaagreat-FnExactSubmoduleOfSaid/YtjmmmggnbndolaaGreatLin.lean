/- Linear algebra modulo p: spans, reduced lists (each space has one), the reduction of rows, combinations of marked rows, kernels. Nothing of the program. -/
import Derived.Test.YtjmmmggnbndolaaGreatBase
namespace Go.Proofs.YtjmmmggnbndolaaGreat
set_option linter.unusedVariables false
/-- e(i) -/
def ebas (i : Nat) : Nat → Int := upd zf i 1
/-! ### sums -/
theorem sumTo_add (g h : Nat → Int) : ∀ n, sumTo (fun i => g i + h i) n = sumTo g n + sumTo h n
  | 0 => rfl
  | n + 1 => by rw [sumTo, sumTo, sumTo, sumTo_add g h n]; omega
theorem sumTo_zero {g : Nat → Int} : ∀ n, (∀ i, i < n → g i = 0) → sumTo g n = 0
  | 0, _ => rfl
  | n + 1, e => by rw [sumTo, sumTo_zero n (fun i hi => e i (by omega)), e n (by omega)]; rfl
theorem sumTo_one {g : Nat → Int} {k : Nat} : ∀ n, k < n → (∀ i, i < n → i ≠ k → g i = 0) → sumTo g n = g k
  | 0, h, _ => by omega
  | n + 1, h, e => by
    rw [sumTo]
    by_cases hk : k = n
    · subst hk
      rw [sumTo_zero k (fun i hi => e i (by omega) (by omega)), Int.zero_add]
    · rw [sumTo_one n (by omega) (fun i hi hne => e i (by omega) hne), e n (by omega) (by omega), Int.add_zero]
theorem sumTo_swap (g : Nat → Nat → Int) (n : Nat) : ∀ m, sumTo (fun i => sumTo (fun j => g i j) n) m = sumTo (fun j => sumTo (fun i => g i j) m) n
  | 0 => (sumTo_zero n (fun _ _ => rfl)).symm
  | m + 1 => by
    rw [sumTo, sumTo_swap g n m, ← sumTo_add]
    rfl
theorem emod_add_congr {p a b c d : Int} (h1 : a % p = b % p) (h2 : c % p = d % p) : (a + c) % p = (b + d) % p := by rw [Int.add_emod, h1, h2, ← Int.add_emod]
theorem emod_mul_congr {p a b c d : Int} (h1 : a % p = b % p) (h2 : c % p = d % p) : (a * c) % p = (b * d) % p := by rw [Int.mul_emod, h1, h2, ← Int.mul_emod]

/-! ### spans modulo p, in the first N places -/
def InSpan (p : Int) (N m : Nat) (g : Nat → Nat → Int) (v : Nat → Int) : Prop := ∃ c : Nat → Int, ∀ t, t < N → v t % p = sumTo (fun i => c i * g i t) m % p
theorem span_congr {p : Int} {N m : Nat} {g : Nat → Nat → Int} {v w : Nat → Int} (h : InSpan p N m g v) (e : ∀ t, t < N → w t % p = v t % p) : InSpan p N m g w := by
  obtain ⟨c, hc⟩ := h
  exact ⟨c, fun t ht => (e t ht).trans (hc t ht)⟩
theorem span_zero {p : Int} {N m : Nat} {g : Nat → Nat → Int} {v : Nat → Int} (e : ∀ t, t < N → v t % p = 0) : InSpan p N m g v :=
  ⟨zf, fun t ht => by rw [e t ht, sumTo_zero m (fun i _ => by simp [zf])]; simp⟩
theorem span_self {p : Int} {N m : Nat} {g : Nat → Nat → Int} {k : Nat} (hk : k < m) : InSpan p N m g (g k) :=
  ⟨ebas k, fun t _ => by rw [sumTo_one (k := k) m hk (fun i _ hne => by simp [ebas, upd, zf, hne])]; simp [ebas, upd]⟩
theorem span_lin {p : Int} {N m : Nat} {g : Nat → Nat → Int} {v w u : Nat → Int} (a b : Int) (h1 : InSpan p N m g v) (h2 : InSpan p N m g w) (e : ∀ t, t < N → u t % p = (a * v t + b * w t) % p) : InSpan p N m g u := by
  obtain ⟨c, hc⟩ := h1
  obtain ⟨d, hd⟩ := h2
  refine ⟨fun i => a * c i + b * d i, fun t ht => ?_⟩
  rw [e t ht, emod_add_congr (emod_mul_congr rfl (hc t ht)) (emod_mul_congr rfl (hd t ht)), ← sumTo_mul, ← sumTo_mul, ← sumTo_add]
  congr 1
  exact sumTo_congr m fun i _ => by rw [Int.add_mul, Int.mul_assoc, Int.mul_assoc]
theorem span_sum {p : Int} {N m : Nat} {g h : Nat → Nat → Int} {c : Nat → Int} : ∀ k, (∀ i, i < k → InSpan p N m g (h i)) → InSpan p N m g (fun t => sumTo (fun i => c i * h i t) k)
  | 0, _ => span_zero fun t _ => by simp [sumTo]
  | k + 1, e => span_lin 1 (c k) (span_sum k fun i hi => e i (by omega)) (e k (by omega)) fun t _ => by rw [sumTo, Int.one_mul]
theorem span_trans {p : Int} {N m k : Nat} {g h : Nat → Nat → Int} {v : Nat → Int} (e : ∀ i, i < k → InSpan p N m g (h i)) (hv : InSpan p N k h v) : InSpan p N m g v := by
  obtain ⟨c, hc⟩ := hv
  exact span_congr (span_sum (c := c) k e) hc

/-- the lists span the same space -/
def SameSpan (p : Int) (N m : Nat) (g : Nat → Nat → Int) (k : Nat) (h : Nat → Nat → Int) : Prop := (∀ i, i < m → InSpan p N k h (g i)) ∧ (∀ i, i < k → InSpan p N m g (h i))
theorem same_refl (p : Int) (N m : Nat) (g : Nat → Nat → Int) : SameSpan p N m g m g := ⟨fun _ hi => span_self hi, fun _ hi => span_self hi⟩
theorem same_symm {p : Int} {N m k : Nat} {g h : Nat → Nat → Int} (e : SameSpan p N m g k h) : SameSpan p N k h m g := ⟨e.2, e.1⟩
theorem same_trans {p : Int} {N m k l : Nat} {g h f : Nat → Nat → Int} (e1 : SameSpan p N m g k h) (e2 : SameSpan p N k h l f) : SameSpan p N m g l f :=
  ⟨fun i hi => span_trans e2.1 (e1.1 i hi), fun i hi => span_trans e1.2 (e2.2 i hi)⟩

/-! ### reduced lists -/
structure Red (p : Int) (N m : Nat) (g : Nat → Nat → Int) (l : Nat → Nat) : Prop where
  rng : ∀ i, i < m → ∀ t, t < N → 0 ≤ g i t ∧ g i t < p
  lt : ∀ i, i < m → l i < N
  inc : ∀ i j, i < j → j < m → l i < l j
  one : ∀ i, i < m → g i (l i) = 1
  low : ∀ i, i < m → ∀ t, t < l i → g i t = 0
  oth : ∀ i j, i < m → j < m → i ≠ j → g i (l j) = 0

theorem red_coef {p : Int} {N m : Nat} {g : Nat → Nat → Int} {l : Nat → Nat} (h : Red p N m g l) (c : Nat → Int) {i : Nat} (hi : i < m) : sumTo (fun j => c j * g j (l i)) m = c i := by
  rw [sumTo_one (k := i) m hi fun j hj hne => by rw [h.oth j i hj hi hne, Int.mul_zero], h.one i hi, Int.mul_one]
/-- a vector of the span is told by its entries at the first places -/
theorem red_told {p : Int} {N m : Nat} {g : Nat → Nat → Int} {l : Nat → Nat} {v : Nat → Int} (h : Red p N m g l) (hv : InSpan p N m g v) (t : Nat) (ht : t < N) : v t % p = sumTo (fun i => v (l i) * g i t) m % p := by
  obtain ⟨c, hc⟩ := hv
  rw [hc t ht]
  refine sum_mod p _ _ m fun i hi => emod_mul_congr ?_ rfl
  rw [hc (l i) (h.lt i hi), red_coef h c hi]
theorem red_zero {p : Int} {N m : Nat} {g : Nat → Nat → Int} {l : Nat → Nat} {v : Nat → Int} (h : Red p N m g l) (hv : InSpan p N m g v) (hz : ∀ i, i < m → v (l i) % p = 0) (t : Nat) (ht : t < N) : v t % p = 0 := by
  rw [red_told h hv t ht, sum_mod p _ (fun _ => 0) m fun i hi => (emod_mul_congr (b := 0) (by rw [hz i hi]; simp) rfl).trans (by simp), sumTo_zero m fun _ _ => rfl]
  simp
/-- the first place of a vector of the span, other than 0, is one of the first places -/
theorem red_first {p : Int} {N m : Nat} {g : Nat → Nat → Int} {l : Nat → Nat} {v : Nat → Int} (h : Red p N m g l) (hv : InSpan p N m g v) {t : Nat} (ht : t < N) (hne : v t % p ≠ 0) (hlow : ∀ s, s < t → v s % p = 0) : ∃ i, i < m ∧ l i = t := by
  -- otherwise: the entries at the first places below t are 0; those above have rows that are 0 at t
  refine Classical.byContradiction fun hno => hne ?_
  rw [red_told h hv t ht, sum_mod p _ (fun _ => 0) m fun i hi => ?_, sumTo_zero m fun _ _ => rfl]
  · simp
  · by_cases hlt : l i < t
    · exact (emod_mul_congr (b := 0) (by rw [hlow _ hlt]; simp) rfl).trans (by simp)
    · have : l i ≠ t := fun e => hno ⟨i, hi, e⟩
      rw [h.low i hi t (by omega)]; simp

theorem inc_le {l : Nat → Nat} {m : Nat} (h : ∀ i j, i < j → j < m → l i < l j) {i j : Nat} (hi : i < m) (hj : j < m) (e : l i = l j) : i = j := by
  rcases Nat.lt_trichotomy i j with h1 | h1 | h1
  · have := h i j h1 hj; omega
  · exact h1
  · have := h j i h1 hi; omega
/-- increasing lists with the same members are the same -/
theorem inc_same {l l' : Nat → Nat} {m m' : Nat} (h : ∀ i j, i < j → j < m → l i < l j) (h' : ∀ i j, i < j → j < m' → l' i < l' j) (e1 : ∀ i, i < m → ∃ j, j < m' ∧ l' j = l i) (e2 : ∀ j, j < m' → ∃ i, i < m ∧ l i = l' j) : m = m' ∧ ∀ i, i < m → l i = l' i := by
  have key : ∀ k, (∀ i, i < k → i < m → i < m' ∧ l i = l' i) ∧ (∀ i, i < k → i < m' → i < m) := by
    intro k
    induction k with
    | zero => exact ⟨fun _ h => by omega, fun _ h => by omega⟩
    | succ k ih =>
      have up : ∀ i, i < m → k ≤ i → ∃ j, j < m' ∧ k ≤ j ∧ l' j = l i := by
        intro i hi hk
        obtain ⟨j, hj, e⟩ := e1 i hi
        refine ⟨j, hj, Nat.le_of_not_lt fun hjk => ?_, e⟩
        have hjm := ih.2 j hjk hj
        have := (ih.1 j hjk hjm).2
        have := inc_le h hjm hi (by omega)
        omega
      have dn : ∀ j, j < m' → k ≤ j → ∃ i, i < m ∧ k ≤ i ∧ l i = l' j := by
        intro j hj hk
        obtain ⟨i, hi, e⟩ := e2 j hj
        refine ⟨i, hi, Nat.le_of_not_lt fun hik => ?_, e⟩
        have := ih.1 i hik hi
        have := inc_le h' this.1 hj (by omega)
        omega
      have lt1 : k < m → k < m' := fun hk => by obtain ⟨j, hj, hkj, _⟩ := up k hk (Nat.le_refl _); omega
      have lt2 : k < m' → k < m := fun hk => by obtain ⟨j, hj, hkj, _⟩ := dn k hk (Nat.le_refl _); omega
      refine ⟨fun i hi him => ?_, fun i hi him => ?_⟩
      · by_cases e : i = k
        · subst e
          refine ⟨lt1 him, ?_⟩
          obtain ⟨j, hj, hkj, e1⟩ := up i him (Nat.le_refl _)
          obtain ⟨i', hi', hki', e2⟩ := dn i (lt1 him) (Nat.le_refl _)
          have a1 : l' i ≤ l' j := by
            by_cases ej : i = j
            · subst ej; exact Nat.le_refl _
            · exact Nat.le_of_lt (h' i j (by omega) hj)
          have a2 : l i ≤ l i' := by
            by_cases ej : i = i'
            · subst ej; exact Nat.le_refl _
            · exact Nat.le_of_lt (h i i' (by omega) hi')
          omega
        · exact ih.1 i (by omega) him
      · by_cases e : i = k
        · subst e; exact lt2 him
        · exact ih.2 i (by omega) him
  have hm : m = m' := by
    rcases Nat.lt_trichotomy m m' with h1 | h1 | h1
    · have := (key (m + 1)).2 m (by omega) h1; omega
    · exact h1
    · have := ((key (m' + 1)).1 m' (by omega) h1).1; omega
  exact ⟨hm, fun i hi => ((key m).1 i hi hi).2⟩

theorem emod_one_ne {p : Int} (hp : 2 ≤ p) : (1 : Int) % p ≠ 0 := by rw [Int.emod_eq_of_lt (by omega) (by omega)]; omega
/-- EACH SPACE HAS ONE REDUCED LIST -/
theorem red_unique {p : Int} {N m k : Nat} {g h : Nat → Nat → Int} {l l' : Nat → Nat} (hp : 2 ≤ p) (r : Red p N m g l) (r' : Red p N k h l') (e : SameSpan p N m g k h) : m = k ∧ ∀ i, i < m → ∀ t, t < N → g i t = h i t := by
  have e1 : ∀ i, i < m → ∃ j, j < k ∧ l' j = l i := fun i hi =>
    red_first r' (e.1 i hi) (r.lt i hi) (by rw [r.one i hi]; exact emod_one_ne hp) fun s hs => by rw [r.low i hi s hs]; simp
  have e2 : ∀ j, j < k → ∃ i, i < m ∧ l i = l' j := fun j hj =>
    red_first r (e.2 j hj) (r'.lt j hj) (by rw [r'.one j hj]; exact emod_one_ne hp) fun s hs => by rw [r'.low j hj s hs]; simp
  obtain ⟨hm, hl⟩ := inc_same r.inc r'.inc e1 e2
  subst hm
  refine ⟨rfl, fun i hi t ht => ?_⟩
  have hd : InSpan p N m g (fun t => g i t - h i t) := span_lin 1 (-1) (span_self hi) (e.2 i hi) fun t _ => by congr 1; omega
  have := red_zero r hd (fun j hj => by
    have : g i (l j) = h i (l j) := by
      by_cases hij : i = j
      · subst hij; rw [r.one i hi, hl i hi, r'.one i hi]
      · rw [r.oth i j hi hj hij, hl j hj, r'.oth i j hi hj hij]
    show (g i (l j) - h i (l j)) % p = 0
    rw [this, Int.sub_self]; rfl) t ht
  have b1 := r.rng i hi t ht
  have b2 := r'.rng i hi t ht
  have h1 : (g i t - h i t) % p = 0 := this
  have h2 := Int.emod_emod_of_dvd (g i t - h i t) (Int.dvd_refl p)
  have h3 := Int.dvd_of_emod_eq_zero h1
  obtain ⟨q, hq⟩ := h3
  have : q = 0 := by
    rcases Int.lt_trichotomy q 0 with h | h | h
    · have : p * q ≤ p * (-1) := Int.mul_le_mul_of_nonneg_left (by omega) (by omega)
      omega
    · exact h
    · have : p * 1 ≤ p * q := Int.mul_le_mul_of_nonneg_left (by omega) (by omega)
      omega
  rw [this] at hq
  omega
/-! ### row operations -/
/-- each new row is a combination of the old ones, and the other way round -/
theorem same_of {p : Int} {N m : Nat} {g h : Nat → Nat → Int} (e1 : ∀ i, i < m → InSpan p N m h (g i)) (e2 : ∀ i, i < m → InSpan p N m g (h i)) : SameSpan p N m g m h := ⟨e1, e2⟩
/-- rows r and s exchanged -/
def swapG (g : Nat → Nat → Int) (r s : Nat) : Nat → Nat → Int := fun i => if i = r then g s else if i = s then g r else g i
theorem same_swap {p : Int} {N m : Nat} {g : Nat → Nat → Int} {r s : Nat} (hr : r < m) (hs : s < m) : SameSpan p N m g m (swapG g r s) := by
  have up : ∀ (g : Nat → Nat → Int) i, i < m → ∃ j, j < m ∧ swapG g r s j = g i := by
    intro g i hi
    by_cases h1 : i = r
    · by_cases h2 : s = r
      · exact ⟨r, hr, by unfold swapG; rw [if_pos rfl, h2, h1]⟩
      · exact ⟨s, hs, by unfold swapG; rw [if_neg h2, if_pos rfl, h1]⟩
    · by_cases h2 : i = s
      · exact ⟨r, hr, by unfold swapG; rw [if_pos rfl, h2]⟩
      · exact ⟨i, hi, by unfold swapG; rw [if_neg h1, if_neg h2]⟩
  refine ⟨fun i hi => ?_, fun i hi => ?_⟩
  · obtain ⟨j, hj, e⟩ := up g i hi
    rw [← e]; exact span_self hj
  · unfold swapG
    split
    · exact span_self hs
    · split
      · exact span_self hr
      · exact span_self hi
/-- row r times c -/
def scaleG (p : Int) (g : Nat → Nat → Int) (r : Nat) (c : Int) : Nat → Nat → Int := fun i => if i = r then fun t => c * g r t % p else g i
theorem same_scale {p : Int} {N m : Nat} {g : Nat → Nat → Int} {r : Nat} {c x : Int} (hr : r < m) (hx : (c * x) % p = 1 % p) : SameSpan p N m g m (scaleG p g r c) := by
  refine ⟨fun i hi => ?_, fun i hi => ?_⟩
  · by_cases h1 : i = r
    · subst h1
      have h0 : InSpan p N m (scaleG p g i c) (fun t => c * g i t % p) := by
        have := span_self (p := p) (N := N) (g := scaleG p g i c) hi
        unfold scaleG at this ⊢
        simpa using this
      refine span_lin x 0 h0 h0 fun t _ => ?_
      rw [Int.zero_mul, Int.add_zero, Int.mul_emod, Int.emod_emod, ← Int.mul_emod, ← Int.mul_assoc, Int.mul_comm x c, Int.mul_emod, hx, ← Int.mul_emod, Int.one_mul]
    · have := span_self (p := p) (N := N) (g := scaleG p g r c) hi
      unfold scaleG at this ⊢
      simpa [h1] using this
  · unfold scaleG
    split
    · rename_i h1
      refine span_lin c 0 (span_self hr) (span_self hr) fun t _ => ?_
      rw [Int.zero_mul, Int.add_zero, Int.emod_emod]
    · exact span_self hi
/-- of the first k rows all but row r have a multiple c i of row r added -/
def elimG (p : Int) (g : Nat → Nat → Int) (r k : Nat) (c : Nat → Int) : Nat → Nat → Int := fun i => if i < k ∧ i ≠ r then fun t => (g i t + c i * g r t) % p else g i
theorem elim_r (p : Int) (g : Nat → Nat → Int) (r k : Nat) (c : Nat → Int) : elimG p g r k c r = g r := by unfold elimG; rw [if_neg (by simp)]
theorem same_elim {p : Int} {N m k : Nat} {g : Nat → Nat → Int} {r : Nat} {c : Nat → Int} (hr : r < m) : SameSpan p N m g m (elimG p g r k c) := by
  have h0 : InSpan p N m (elimG p g r k c) (g r) := by rw [← elim_r p g r k c]; exact span_self hr
  refine ⟨fun i hi => ?_, fun i hi => ?_⟩
  · have h1 := span_self (p := p) (N := N) (g := elimG p g r k c) hi
    by_cases h : i < k ∧ i ≠ r
    · refine span_lin 1 (-(c i)) h1 h0 fun t _ => ?_
      unfold elimG
      rw [if_pos h, Int.one_mul, Int.emod_add_emod]
      congr 1
      rw [Int.neg_mul]; omega
    · unfold elimG at h1 ⊢
      rw [if_neg h] at h1
      exact h1
  · unfold elimG
    split
    · refine span_lin 1 (c i) (span_self hi) (span_self hr) fun t _ => ?_
      rw [Int.one_mul, Int.emod_emod]
    · exact span_self hi

/-! ### the reduction, row by row: r rows are done, and the places below q -/
structure Stage (p : Int) (N m : Nat) (g0 : Nat → Nat → Int) (r q : Nat) (g : Nat → Nat → Int) (l : Nat → Nat) : Prop where
  rng : ∀ i, i < m → ∀ t, t < N → 0 ≤ g i t ∧ g i t < p
  le : r ≤ m
  lt : ∀ i, i < r → l i < q
  qle : q ≤ N
  inc : ∀ i j, i < j → j < r → l i < l j
  one : ∀ i, i < r → g i (l i) = 1
  low : ∀ i, i < r → ∀ t, t < l i → g i t = 0
  oth : ∀ i j, i < m → j < r → i ≠ j → g i (l j) = 0
  rest : ∀ i, r ≤ i → i < m → ∀ t, t < q → g i t = 0
  same : SameSpan p N m g0 m g
theorem stage_start {p : Int} {N m : Nat} {g : Nat → Nat → Int} (h : ∀ i, i < m → ∀ t, t < N → 0 ≤ g i t ∧ g i t < p) : Stage p N m g 0 0 g (fun _ => 0) :=
  ⟨h, Nat.zero_le _, fun _ h => by omega, Nat.zero_le _, fun _ _ _ h => by omega, fun _ h => by omega, fun _ h => by omega, fun _ _ _ h => by omega, fun _ _ _ _ h => by omega, same_refl _ _ _ _⟩
theorem stage_skip {p : Int} {N m : Nat} {g0 g : Nat → Nat → Int} {r q : Nat} {l : Nat → Nat} (s : Stage p N m g0 r q g l) (hq : q < N) (h : ∀ i, r ≤ i → i < m → g i q = 0) : Stage p N m g0 r (q + 1) g l :=
  ⟨s.rng, s.le, fun i hi => by have := s.lt i hi; omega, hq, s.inc, s.one, s.low, s.oth, fun i h1 h2 t ht => by
    by_cases e : t = q
    · subst e; exact h i h1 h2
    · exact s.rest i h1 h2 t (by omega), s.same⟩
/-- the number that is added -/
def negc (p : Int) (g : Nat → Nat → Int) (q : Nat) (i : Nat) : Int := (p - g i q) % p
theorem neg_add (p a : Int) : (a + (p - a) % p * 1) % p = 0 := by
  rw [Int.mul_one, Int.add_emod, Int.emod_emod, ← Int.add_emod, show a + (p - a) = p by omega, Int.emod_self]
theorem small_mod {x p : Int} (h : 0 ≤ x ∧ x < p) : x % p = x := Int.emod_eq_of_lt h.1 h.2
/-- one step: row s comes to r, is scaled by c, and is taken from all others -/
def stepG (p : Int) (g : Nat → Nat → Int) (r s q : Nat) (c : Int) (k : Nat) : Nat → Nat → Int :=
  elimG p (scaleG p (swapG g r s) r c) r k (negc p (scaleG p (swapG g r s) r c) q)
theorem stage_step {p : Int} {N m : Nat} {g0 g : Nat → Nat → Int} {r q s : Nat} {l : Nat → Nat} {c : Int} (hp : 2 ≤ p) (st : Stage p N m g0 r q g l) (hq : q < N) (hr : r < m) (hs : r ≤ s) (hsm : s < m) (hc : (c * g s q) % p = 1) :
    Stage p N m g0 (r + 1) (q + 1) (stepG p g r s q c m) (fun i => if i = r then q else l i) := by
  have a1 : ∀ i, i < m → ∀ t, t < N → 0 ≤ swapG g r s i t ∧ swapG g r s i t < p := by
    intro i hi t ht
    unfold swapG
    split
    · exact st.rng s hsm t ht
    · split
      · exact st.rng r hr t ht
      · exact st.rng i hi t ht
  have a2 : ∀ i, i < m → ∀ t, t < N → 0 ≤ scaleG p (swapG g r s) r c i t ∧ scaleG p (swapG g r s) r c i t < p := by
    intro i hi t ht
    unfold scaleG
    split
    · exact ⟨Int.emod_nonneg _ (by omega), Int.emod_lt_of_pos _ (by omega)⟩
    · exact a1 i hi t ht
  have a3 : ∀ i, i < m → ∀ t, t < N → 0 ≤ stepG p g r s q c m i t ∧ stepG p g r s q c m i t < p := by
    intro i hi t ht
    unfold stepG elimG
    split
    · exact ⟨Int.emod_nonneg _ (by omega), Int.emod_lt_of_pos _ (by omega)⟩
    · exact a2 i hi t ht
  have sr : swapG g r s r = g s := by unfold swapG; rw [if_pos rfl]
  have row : ∀ t, scaleG p (swapG g r s) r c r t = c * g s t % p := by intro t; unfold scaleG; rw [if_pos rfl, sr]
  have rowq : scaleG p (swapG g r s) r c r q = 1 := by rw [row]; exact hc
  have rowlow : ∀ t, t < q → scaleG p (swapG g r s) r c r t = 0 := by intro t ht; rw [row, st.rest s hs hsm t ht]; simp
  have top : ∀ t, stepG p g r s q c m r t = scaleG p (swapG g r s) r c r t := by intro t; unfold stepG; rw [elim_r]
  have oth : ∀ i, i < m → i ≠ r → ∀ t, stepG p g r s q c m i t = (scaleG p (swapG g r s) r c i t + negc p (scaleG p (swapG g r s) r c) q i * scaleG p (swapG g r s) r c r t) % p := by
    intro i hi hne t
    unfold stepG
    conv => lhs; unfold elimG
    rw [if_pos ⟨hi, hne⟩]
  have keep : ∀ i, i < m → i ≠ r → ∀ t, t < N → scaleG p (swapG g r s) r c r t = 0 → stepG p g r s q c m i t = swapG g r s i t := by
    intro i hi hne t ht h0
    rw [oth i hi hne t, h0, Int.mul_zero, Int.add_zero]
    have : scaleG p (swapG g r s) r c i t = swapG g r s i t := by unfold scaleG; rw [if_neg hne]
    rw [this]
    exact small_mod (a1 i hi t ht)
  have atq : ∀ i, i < m → i ≠ r → stepG p g r s q c m i q = 0 := by
    intro i hi hne
    rw [oth i hi hne q, rowq]
    exact neg_add p _
  have lead0 : ∀ j, j < r → scaleG p (swapG g r s) r c r (l j) = 0 := by
    intro j hj
    exact rowlow _ (st.lt j hj)
  have swlow : ∀ i, i < r → swapG g r s i = g i := by
    intro i hi
    unfold swapG
    rw [if_neg (by omega), if_neg (by omega)]
  have swhi : ∀ i, r ≤ i → i < m → ∃ j, r ≤ j ∧ j < m ∧ swapG g r s i = g j := by
    intro i hi him
    unfold swapG
    by_cases h1 : i = r
    · rw [if_pos h1]; exact ⟨s, hs, hsm, rfl⟩
    · rw [if_neg h1]
      by_cases h2 : i = s
      · rw [if_pos h2]; exact ⟨r, Nat.le_refl _, hr, rfl⟩
      · rw [if_neg h2]; exact ⟨i, hi, him, rfl⟩
  refine ⟨a3, hr, ?_, hq, ?_, ?_, ?_, ?_, ?_, ?_⟩
  · intro i hi
    show (if i = r then q else l i) < q + 1
    split
    · omega
    · have := st.lt i (by omega); omega
  · intro i j hij hj
    show (if i = r then q else l i) < (if j = r then q else l j)
    rw [if_neg (by omega)]
    split
    · exact st.lt i (by omega)
    · exact st.inc i j hij (by omega)
  · intro i hi
    show stepG p g r s q c m i (if i = r then q else l i) = 1
    by_cases h : i = r
    · subst h; rw [if_pos rfl, top, rowq]
    · rw [if_neg h, keep i (by omega) h _ (by have := st.lt i (by omega); omega) (lead0 i (by omega)), swlow i (by omega)]
      exact st.one i (by omega)
  · intro i hi t ht
    replace ht : t < (if i = r then q else l i) := ht
    by_cases h : i = r
    · subst h; rw [if_pos rfl] at ht; rw [top]; exact rowlow t ht
    · rw [if_neg h] at ht
      have hl := st.lt i (by omega)
      rw [keep i (by omega) h t (by omega) (rowlow t (by omega)), swlow i (by omega)]
      exact st.low i (by omega) t ht
  · intro i j hi hj hne
    show stepG p g r s q c m i (if j = r then q else l j) = 0
    by_cases h : j = r
    · subst h; rw [if_pos rfl]; exact atq i hi hne
    · rw [if_neg h]
      have hl := st.lt j (by omega)
      by_cases hir : i = r
      · subst hir; rw [top]; exact lead0 j (by omega)
      · rw [keep i hi hir _ (by omega) (lead0 j (by omega))]
        by_cases hlt : i < r
        · rw [swlow i hlt]; exact st.oth i j hi (by omega) hne
        · obtain ⟨i', h1, h2, h3⟩ := swhi i (by omega) hi
          rw [h3]; exact st.rest i' h1 h2 _ hl
  · intro i h1 h2 t ht
    by_cases e : t = q
    · subst e; exact atq i h2 (by omega)
    · rw [keep i h2 (by omega) t (by omega) (rowlow t (by omega))]
      obtain ⟨i', h3, h4, h5⟩ := swhi i (by omega) h2
      rw [h5]; exact st.rest i' h3 h4 t (by omega)
  · refine same_trans st.same (same_trans (same_swap hr hsm) (same_trans (same_scale (x := g s q) hr ?_) (same_elim hr)))
    rw [hc]; exact (Int.emod_eq_of_lt (by omega) (by omega)).symm
/-- the end: the first r rows are the reduced list -/
theorem stage_end {p : Int} {N m : Nat} {g0 g : Nat → Nat → Int} {r q : Nat} {l : Nat → Nat} (s : Stage p N m g0 r q g l) (h : r = m ∨ q = N) : Red p N r g l ∧ SameSpan p N m g0 r g := by
  have hle := s.le
  have hql := s.qle
  refine ⟨⟨fun i hi => s.rng i (by omega), fun i hi => by have := s.lt i hi; omega, s.inc, s.one, s.low, fun i j hi => s.oth i j (by omega)⟩, same_trans s.same ⟨fun i hi => ?_, fun i hi => span_self (by omega)⟩⟩
  by_cases hr : i < r
  · exact span_self hr
  · refine span_zero fun t ht => ?_
    rcases h with h | h
    · omega
    · rw [s.rest i (by omega) hi t (by omega)]; rfl
/-! ### a vector reduced by a reduced list -/
/-- v plus k times w -/
def addF (p : Int) (v w : Nat → Int) (k : Int) : Nat → Int := fun t => (v t + k * w t) % p
/-- v reduced by the first k of g, whose first places are l -/
def byG (p : Int) (g : Nat → Nat → Int) (l : Nat → Nat) (v : Nat → Int) : Nat → Nat → Int
  | 0 => v
  | k + 1 => addF p (byG p g l v k) (g k) (-(byG p g l v k (l k)))
theorem byG_skip {p : Int} {N : Nat} {g : Nat → Nat → Int} {l : Nat → Nat} {v : Nat → Int} {k : Nat} (h : ∀ t, t < N → 0 ≤ byG p g l v k t ∧ byG p g l v k t < p) (h0 : byG p g l v k (l k) = 0) (t : Nat) (ht : t < N) : byG p g l v k t = byG p g l v (k + 1) t := by
  rw [byG, addF, h0, Int.neg_zero, Int.zero_mul, Int.add_zero, small_mod (h t ht)]
/-- echelons: the first entry other than 0 of each is 1, and the rows behind it are 0 there -/
structure Ech (p : Int) (N m : Nat) (g : Nat → Nat → Int) (l : Nat → Nat) : Prop where
  rng : ∀ i, i < m → ∀ t, t < N → 0 ≤ g i t ∧ g i t < p
  lt : ∀ i, i < m → l i < N
  one : ∀ i, i < m → g i (l i) = 1
  low : ∀ i, i < m → ∀ t, t < l i → g i t = 0
  aft : ∀ i j, j < i → i < m → g i (l j) = 0
theorem Red.ech {p : Int} {N m : Nat} {g : Nat → Nat → Int} {l : Nat → Nat} (h : Red p N m g l) : Ech p N m g l :=
  ⟨h.rng, h.lt, h.one, h.low, fun i j hj hi => h.oth i j hi (by omega) (by omega)⟩
theorem by_range {p : Int} {N : Nat} {g : Nat → Nat → Int} {l : Nat → Nat} {v : Nat → Int} (hp : 0 < p) (hv : ∀ t, t < N → 0 ≤ v t ∧ v t < p) : ∀ k, ∀ t, t < N → 0 ≤ byG p g l v k t ∧ byG p g l v k t < p
  | 0 => hv
  | _ + 1 => fun _ _ => ⟨Int.emod_nonneg _ (by omega), Int.emod_lt_of_pos _ hp⟩
theorem by_span {p : Int} {N m : Nat} {g : Nat → Nat → Int} {l : Nat → Nat} {v : Nat → Int} : ∀ k, k ≤ m → InSpan p N m g (fun t => v t - byG p g l v k t)
  | 0, _ => span_zero fun t _ => by rw [byG, Int.sub_self]; rfl
  | k + 1, hk => by
    refine span_lin 1 (byG p g l v k (l k)) (by_span (v := v) (l := l) k (by omega)) (span_self (k := k) (by omega)) fun t _ => ?_
    rw [byG, addF, Int.one_mul]
    rw [Int.sub_emod, Int.emod_emod, ← Int.sub_emod]
    congr 1
    rw [Int.neg_mul]; omega
theorem by_lead {p : Int} {N m : Nat} {g : Nat → Nat → Int} {l : Nat → Nat} {v : Nat → Int} (h : Ech p N m g l) (hv : ∀ t, t < N → 0 ≤ v t ∧ v t < p) (hp : 0 < p) : ∀ k, k ≤ m → ∀ j, j < k → byG p g l v k (l j) = 0
  | 0, _, _, hj => by omega
  | k + 1, hk, j, hj => by
    rw [byG, addF]
    by_cases e : j = k
    · subst e
      rw [h.one j (by omega), Int.mul_one, Int.add_right_neg]; rfl
    · rw [by_lead h hv hp k (by omega) j (by omega), h.aft k j (by omega) (by omega)]; simp
/-- a vector of the span that is 0 at all first places is 0 -/
theorem ech_zero {p : Int} {N m : Nat} {g : Nat → Nat → Int} {l : Nat → Nat} (h : Ech p N m g l) {c v : Nat → Int} (hc : ∀ t, t < N → v t % p = sumTo (fun i => c i * g i t) m % p) (hz : ∀ i, i < m → v (l i) % p = 0) : ∀ i, i < m → c i % p = 0 := by
  have key : ∀ k, k ≤ m → ∀ i, i < k → c i % p = 0 := by
    intro k
    induction k with
    | zero => exact fun _ _ h => by omega
    | succ k ih =>
      intro hk i hi
      by_cases e : i = k
      · subst e
        have h1 := hc (l i) (h.lt i (by omega))
        rw [hz i (by omega)] at h1
        have h2 : sumTo (fun j => c j * g j (l i)) m % p = sumTo (fun j => if j = i then c i else 0) m % p := by
          refine sum_mod p _ _ m fun j hj => ?_
          by_cases e : j = i
          · subst e; rw [if_pos rfl, h.one j hj, Int.mul_one]
          · rw [if_neg e]
            by_cases hlt : j < i
            · exact (emod_mul_congr (b := 0) (by rw [ih (by omega) j hlt]; simp) rfl).trans (by simp)
            · rw [h.aft j i (by omega) hj, Int.mul_zero]
        rw [h2, sumTo_one (k := i) m (by omega) (fun j _ hne => if_neg hne), if_pos rfl] at h1
        exact h1.symm
      · exact ih (by omega) i (by omega)
  exact key m (Nat.le_refl _)
theorem ech_zero_v {p : Int} {N m : Nat} {g : Nat → Nat → Int} {l : Nat → Nat} (h : Ech p N m g l) {v : Nat → Int} (hv : InSpan p N m g v) (hz : ∀ i, i < m → v (l i) % p = 0) (t : Nat) (ht : t < N) : v t % p = 0 := by
  obtain ⟨c, hc⟩ := hv
  have h0 := ech_zero h hc hz
  rw [hc t ht, sum_mod p _ (fun _ => 0) m fun i hi => (emod_mul_congr (b := 0) (by rw [h0 i hi]; simp) rfl).trans (by simp), sumTo_zero m fun _ _ => rfl]
  simp
/-- what is left is 0 exactly for the vectors of the span -/
theorem by_zero_iff {p : Int} {N m : Nat} {g : Nat → Nat → Int} {l : Nat → Nat} {v : Nat → Int} (hp : 0 < p) (h : Ech p N m g l) (hv : ∀ t, t < N → 0 ≤ v t ∧ v t < p) : (∀ t, t < N → byG p g l v m t = 0) ↔ InSpan p N m g v := by
  have hs := by_span (p := p) (N := N) (m := m) (g := g) (l := l) (v := v) m (Nat.le_refl _)
  constructor
  · intro h0
    exact span_congr hs fun t ht => by rw [h0 t ht, Int.sub_zero]
  · intro hi t ht
    have h1 : InSpan p N m g (byG p g l v m) := span_lin 1 (-1) hi hs fun t _ => by congr 1; omega
    have h2 := ech_zero_v h h1 (fun i hi => by rw [by_lead h hv hp m (Nat.le_refl _) i hi]; rfl) t ht
    rw [small_mod (by_range hp hv m t ht)] at h2
    exact h2

/-! ### one more vector for a reduced list -/
/-- the list with u at the place k, the others with u taken off at the place q -/
def putG (p : Int) (g : Nat → Nat → Int) (u : Nat → Int) (k q : Nat) : Nat → Nat → Int := fun i => if i < k then addF p (g i) u (-(g i q)) else if i = k then u else addF p (g (i - 1)) u (-(g (i - 1) q))
def putL (l : Nat → Nat) (k q : Nat) : Nat → Nat := fun i => if i < k then l i else if i = k then q else l (i - 1)
/-- a list with one more vector at its end -/
def snocG (g : Nat → Nat → Int) (m : Nat) (v : Nat → Int) : Nat → Nat → Int := fun i => if i < m then g i else v
theorem snoc_old {p : Int} {N m : Nat} {g : Nat → Nat → Int} {v w : Nat → Int} (h : InSpan p N m g w) : InSpan p N (m + 1) (snocG g m v) w :=
  span_trans (h := g) (fun i hi => by
    have := span_self (p := p) (N := N) (g := snocG g m v) (m := m + 1) (k := i) (by omega)
    unfold snocG at this ⊢
    rw [if_pos hi] at this
    exact this) h
theorem snoc_new {p : Int} {N m : Nat} {g : Nat → Nat → Int} {v : Nat → Int} : InSpan p N (m + 1) (snocG g m v) v := by
  have := span_self (p := p) (N := N) (g := snocG g m v) (m := m + 1) (k := m) (by omega)
  unfold snocG at this ⊢
  rw [if_neg (by omega)] at this
  exact this
/-- a vector of the span adds nothing -/
theorem snoc_same {p : Int} {N m : Nat} {g : Nat → Nat → Int} {v : Nat → Int} (h : InSpan p N m g v) : SameSpan p N (m + 1) (snocG g m v) m g :=
  ⟨fun i hi => by
    unfold snocG
    split
    · rename_i h1; exact span_self h1
    · exact h, fun i hi => snoc_old (span_self hi)⟩
theorem snoc_congr {p : Int} {N m k : Nat} {g h : Nat → Nat → Int} {v : Nat → Int} (e : SameSpan p N m g k h) : SameSpan p N (m + 1) (snocG g m v) (k + 1) (snocG h k v) :=
  ⟨fun i hi => by
    conv => arg 5; unfold snocG
    split
    · rename_i h1; exact snoc_old (e.1 i h1)
    · exact snoc_new, fun i hi => by
    conv => arg 5; unfold snocG
    split
    · rename_i h1; exact snoc_old (e.2 i h1)
    · exact snoc_new⟩
theorem put_red {p : Int} {N m : Nat} {g : Nat → Nat → Int} {l : Nat → Nat} {u : Nat → Int} {k q : Nat} (hp : 2 ≤ p) (h : Red p N m g l) (hu : ∀ t, t < N → 0 ≤ u t ∧ u t < p) (hq : q < N) (h1 : u q = 1) (hlow : ∀ t, t < q → u t = 0) (hz : ∀ i, i < m → u (l i) = 0)
    (hk : k ≤ m) (hb : ∀ i, i < k → l i < q) (ha : ∀ i, k ≤ i → i < m → q < l i) : Red p N (m + 1) (putG p g u k q) (putL l k q) ∧ SameSpan p N (m + 1) (snocG g m u) (m + 1) (putG p g u k q) := by
  have rng1 : ∀ v : Nat → Int, ∀ c t, 0 ≤ addF p v u c t ∧ addF p v u c t < p := fun v c t => ⟨Int.emod_nonneg _ (by omega), Int.emod_lt_of_pos _ (by omega)⟩
  have atq : ∀ i, i < m → addF p (g i) u (-(g i q)) q = 0 := fun i _ => by unfold addF; rw [h1, Int.mul_one, Int.add_right_neg]; rfl
  have off : ∀ i, i < m → ∀ t, t < N → u t = 0 → addF p (g i) u (-(g i q)) t = g i t := fun i hi t ht h0 => by
    unfold addF; rw [h0, Int.mul_zero, Int.add_zero, small_mod (h.rng i hi t ht)]
  -- row i of the new list is u, or an old one
  have old : ∀ i, i < m + 1 → i ≠ k → ∃ j, j < m ∧ putG p g u k q i = addF p (g j) u (-(g j q)) ∧ putL l k q i = l j ∧ (i < k → j = i) ∧ (k < i → j + 1 = i) := by
    intro i hi hne
    by_cases hlt : i < k
    · exact ⟨i, by omega, by unfold putG; rw [if_pos hlt], by unfold putL; rw [if_pos hlt], fun _ => rfl, fun h => by omega⟩
    · exact ⟨i - 1, by omega, by unfold putG; rw [if_neg hlt, if_neg hne], by unfold putL; rw [if_neg hlt, if_neg hne], fun h => by omega, fun h => by omega⟩
  have new : putG p g u k q k = u := by unfold putG; rw [if_neg (by omega), if_pos rfl]
  have newl : putL l k q k = q := by unfold putL; rw [if_neg (by omega), if_pos rfl]
  have neq : ∀ j, j < m → l j ≠ q := fun j hj => by
    by_cases h : j < k
    · have := hb j h; omega
    · have := ha j (by omega) hj; omega
  refine ⟨⟨?_, ?_, ?_, ?_, ?_, ?_⟩, ?_, ?_⟩
  · intro i hi t ht
    by_cases e : i = k
    · subst e; rw [new]; exact hu t ht
    · obtain ⟨j, hj, e1, _⟩ := old i hi e
      rw [e1]; exact rng1 _ _ _
  · intro i hi
    by_cases e : i = k
    · subst e; rw [newl]; exact hq
    · obtain ⟨j, hj, _, e2, _⟩ := old i hi e
      rw [e2]; exact h.lt j hj
  · intro i j hij hj
    by_cases ei : i = k
    · subst ei
      obtain ⟨j', hj', _, e2, _, e4⟩ := old j hj (by omega)
      rw [newl, e2]; exact ha j' (by have := e4 hij; omega) hj'
    · by_cases ej : j = k
      · subst ej
        obtain ⟨i', hi', _, e2, e3, _⟩ := old i (by omega) (by omega)
        rw [newl, e2]; exact hb i' (by have := e3 hij; omega)
      · obtain ⟨i', hi', _, e2, e3, e4⟩ := old i (by omega) ei
        obtain ⟨j', hj', _, f2, f3, f4⟩ := old j hj ej
        rw [e2, f2]
        refine h.inc i' j' ?_ hj'
        by_cases h1 : i < k
        · have := e3 h1
          by_cases h2 : j < k
          · have := f3 h2; omega
          · have := f4 (by omega); omega
        · have := e4 (by omega); have := f4 (by omega); omega
  · intro i hi
    by_cases e : i = k
    · subst e; rw [new, newl]; exact h1
    · obtain ⟨j, hj, e1, e2, _⟩ := old i hi e
      rw [e1, e2, off j hj _ (h.lt j hj) (hz j hj)]; exact h.one j hj
  · intro i hi t ht
    by_cases e : i = k
    · subst e; rw [newl] at ht; rw [new]; exact hlow t ht
    · obtain ⟨j, hj, e1, e2, _⟩ := old i hi e
      rw [e2] at ht
      rw [e1]
      by_cases hq : t < q
      · rw [off j hj t (by have := h.lt j hj; omega) (hlow t hq)]; exact h.low j hj t ht
      · -- then q < l j, and the entry at q is 0
        have h0 : g j q = 0 := h.low j hj q (by omega)
        unfold addF
        rw [h0, h.low j hj t ht]; simp
  · intro i j hi hj hne
    by_cases ej : j = k
    · subst ej
      obtain ⟨i', hi', e1, _⟩ := old i hi hne
      rw [newl, e1]; exact atq i' hi'
    · obtain ⟨j', hj', _, f2, f3, f4⟩ := old j hj ej
      rw [f2]
      by_cases ei : i = k
      · subst ei; rw [new]; exact hz j' hj'
      · obtain ⟨i', hi', e1, _, e3, e4⟩ := old i hi ei
        rw [e1, off i' hi' _ (h.lt j' hj') (hz j' hj')]
        refine h.oth i' j' hi' hj' ?_
        by_cases h1 : i < k
        · have := e3 h1
          by_cases h2 : j < k
          · have := f3 h2; omega
          · have := f4 (by omega); omega
        · have := e4 (by omega)
          by_cases h2 : j < k
          · have := f3 h2; omega
          · have := f4 (by omega); omega
  · intro i hi
    have hun : InSpan p N (m + 1) (putG p g u k q) u := by
      have := span_self (p := p) (N := N) (g := putG p g u k q) (m := m + 1) (k := k) (by omega)
      rwa [new] at this
    unfold snocG
    split
    · rename_i him
      -- old row i: row i or i + 1 of the new list
      have : ∃ i', i' < m + 1 ∧ putG p g u k q i' = addF p (g i) u (-(g i q)) := by
        by_cases hlt : i < k
        · exact ⟨i, by omega, by unfold putG; rw [if_pos hlt]⟩
        · exact ⟨i + 1, by omega, by unfold putG; rw [if_neg (by omega), if_neg (by omega)]; rfl⟩
      obtain ⟨i', hi', e⟩ := this
      have h2 := span_self (p := p) (N := N) (g := putG p g u k q) hi'
      rw [e] at h2
      refine span_lin 1 (g i q) h2 hun fun t _ => ?_
      unfold addF
      rw [Int.one_mul, Int.emod_add_emod]
      congr 1
      rw [Int.neg_mul]; omega
    · exact hun
  · intro i hi
    have hun : InSpan p N (m + 1) (snocG g m u) u := snoc_new
    by_cases e : i = k
    · subst e; rw [new]; exact hun
    · obtain ⟨j, hj, e1, _⟩ := old i hi e
      rw [e1]
      refine span_lin 1 (-(g j q)) (snoc_old (span_self hj)) hun fun t _ => ?_
      unfold addF
      rw [Int.one_mul, Int.emod_emod]
/-! ### spaces, told by what belongs to them -/
/-- the list is the reduced list of the vectors for which S holds -/
def Tells (p : Int) (N m : Nat) (g : Nat → Nat → Int) (S : (Nat → Int) → Prop) : Prop := (∃ l, Red p N m g l) ∧ ∀ v, InSpan p N m g v ↔ S v
theorem tells_unique {p : Int} {N m k : Nat} {g h : Nat → Nat → Int} {S : (Nat → Int) → Prop} (hp : 2 ≤ p) (e1 : Tells p N m g S) (e2 : Tells p N k h S) : m = k ∧ ∀ i, i < m → ∀ t, t < N → g i t = h i t := by
  obtain ⟨⟨l, r⟩, s⟩ := e1
  obtain ⟨⟨l', r'⟩, s'⟩ := e2
  exact red_unique hp r r' ⟨fun i hi => (s' _).2 ((s _).1 (span_self hi)), fun i hi => (s _).2 ((s' _).1 (span_self hi))⟩
theorem tells_span {p : Int} {N m k : Nat} {g h : Nat → Nat → Int} {l : Nat → Nat} (r : Red p N m g l) (e : SameSpan p N k h m g) : Tells p N m g (InSpan p N k h) :=
  ⟨⟨l, r⟩, fun _ => ⟨fun hv => span_trans e.2 hv, fun hv => span_trans e.1 hv⟩⟩
theorem tells_iff {p : Int} {N m : Nat} {g : Nat → Nat → Int} {S T : (Nat → Int) → Prop} (e : Tells p N m g S) (h : ∀ v, S v ↔ T v) : Tells p N m g T := ⟨e.1, fun v => (e.2 v).trans (h v)⟩
theorem red_le {p : Int} {N m : Nat} {g : Nat → Nat → Int} {l : Nat → Nat} (h : Red p N m g l) : m ≤ N := by
  have key : ∀ k, k ≤ m → k ≤ N ∧ ∀ i, i < k → i ≤ l i := by
    intro k
    induction k with
    | zero => exact fun _ => ⟨Nat.zero_le _, fun _ h => by omega⟩
    | succ k ih =>
      intro hk
      obtain ⟨h1, h2⟩ := ih (by omega)
      have h3 : k ≤ l k := by
        rcases Nat.eq_zero_or_pos k with h0 | h0
        · omega
        · have := h2 (k - 1) (by omega)
          have := h.inc (k - 1) k (by omega) (by omega)
          omega
      refine ⟨by have := h.lt k (by omega); omega, fun i hi => ?_⟩
      by_cases e : i = k
      · subst e; exact h3
      · exact h2 i (by omega)
  exact (key m (Nat.le_refl _)).1

/-! ### combinations of given rows, marked by what is behind them -/
/-- row i of A, with e(i) behind it from the place K on -/
def markG (K : Nat) (A : Nat → Nat → Int) : Nat → Nat → Int := fun i t => if t < K then A i t else ebas i (t - K)
theorem mark_sum (K : Nat) (A : Nat → Nat → Int) (m : Nat) (c : Nat → Int) (t : Nat) : sumTo (fun i => c i * markG K A i t) m = if t < K then sumTo (fun i => c i * A i t) m else if t - K < m then c (t - K) else 0 := by
  split
  · rename_i h
    exact sumTo_congr m fun i _ => by unfold markG; rw [if_pos h]
  · rename_i h
    split
    · rename_i h2
      rw [sumTo_one (k := t - K) m h2 (fun i _ hne => by unfold markG; rw [if_neg h]; unfold ebas upd zf; rw [if_neg (by omega), Int.mul_zero])]
      unfold markG; rw [if_neg h]; unfold ebas upd; rw [if_pos rfl, Int.mul_one]
    · rename_i h2
      exact sumTo_zero m fun i hi => by unfold markG; rw [if_neg h]; unfold ebas upd zf; rw [if_neg (by omega), Int.mul_zero]
/-- the combination x of the rows of A is 0, and x has nothing behind the place m -/
def KerOf (p : Int) (K m : Nat) (A : Nat → Nat → Int) (x : Nat → Int) : Prop := (∀ t, t < K → sumTo (fun i => x i * A i t) m % p = 0) ∧ ∀ t, m ≤ t → t < 8 → x t % p = 0
/-- in a reduced list of the marked rows those whose first places are behind K are the reduced list of the combinations that are 0 -/
theorem mark_kernel {p : Int} {K m k : Nat} {A g : Nat → Nat → Int} {l : Nat → Nat} (h : Red p (K + 8) k g l) (hm : m ≤ 8) (hs : SameSpan p (K + 8) m (markG K A) k g) (a : Nat) (ha : a ≤ k) (hlo : ∀ i, i < a → l i < K) (hhi : ∀ i, a ≤ i → i < k → K ≤ l i) :
    Tells p 8 (k - a) (fun i t => g (a + i) (K + t)) (KerOf p K m A) := by
  refine ⟨⟨fun i => l (a + i) - K, ⟨?_, ?_, ?_, ?_, ?_, ?_⟩⟩, fun x => ⟨?_, ?_⟩⟩
  · exact fun i hi t ht => h.rng (a + i) (by omega) (K + t) (by omega)
  · intro i hi
    have := h.lt (a + i) (by omega); have := hhi (a + i) (by omega) (by omega)
    show l (a + i) - K < 8
    omega
  · intro i j hij hj
    have := h.inc (a + i) (a + j) (by omega) (by omega); have := hhi (a + i) (by omega) (by omega)
    show l (a + i) - K < l (a + j) - K
    omega
  · intro i hi
    have := hhi (a + i) (by omega) (by omega)
    show g (a + i) (K + (l (a + i) - K)) = 1
    rw [show K + (l (a + i) - K) = l (a + i) by omega]; exact h.one _ (by omega)
  · intro i hi t ht
    replace ht : t < l (a + i) - K := ht
    exact h.low (a + i) (by omega) (K + t) (by omega)
  · intro i j hi hj hne
    have := hhi (a + j) (by omega) (by omega)
    show g (a + i) (K + (l (a + j) - K)) = 0
    rw [show K + (l (a + j) - K) = l (a + j) by omega]; exact h.oth _ _ (by omega) (by omega) (by omega)
  · -- x is a combination of the last rows: (0, x) is one of all rows, and so one of the marked rows
    rintro ⟨c, hc⟩
    have h1 : InSpan p (K + 8) k g (fun t => if t < K then 0 else x (t - K)) := by
      refine ⟨fun i => if i < a then 0 else c (i - a), fun t ht => ?_⟩
      have e : ∀ n, sumTo (fun i => (if i < a then 0 else c (i - a)) * g i t) (a + n) = sumTo (fun i => c i * g (a + i) t) n := by
        intro n
        induction n with
        | zero => exact sumTo_zero a fun i hi => by rw [if_pos hi, Int.zero_mul]
        | succ n ih => rw [← Nat.add_assoc, sumTo, sumTo, ih, if_neg (by omega), Nat.add_sub_cancel_left]
      have e2 := e (k - a)
      rw [show a + (k - a) = k by omega] at e2
      rw [e2]
      show (if t < K then 0 else x (t - K)) % p = _
      split
      · rename_i hlt
        rw [sumTo_zero (k - a) fun i hi => by rw [h.low (a + i) (by omega) t (by have := hhi (a + i) (by omega) (by omega); omega), Int.mul_zero]]
      · rename_i hlt
        have := hc (t - K) (by omega)
        rw [this]
        congr 1
        exact sumTo_congr _ fun i _ => by dsimp only; rw [show K + (t - K) = t by omega]
    obtain ⟨d, hd⟩ := span_trans hs.2 h1
    have hdx : ∀ i, i < 8 → x i % p = (if i < m then d i else 0) % p := by
      intro i hi
      have := hd (K + i) (by omega)
      dsimp only at this
      rw [mark_sum, if_neg (by omega), if_neg (by omega), Nat.add_sub_cancel_left] at this
      exact this
    refine ⟨fun t ht => ?_, fun t h1 h2 => ?_⟩
    · have h3 := hd t (by omega)
      dsimp only at h3
      rw [mark_sum, if_pos ht, if_pos ht] at h3
      rw [sum_mod p _ (fun i => d i * A i t) m fun i hi => emod_mul_congr (by rw [hdx i (by omega), if_pos hi]) rfl]
      exact h3.symm.trans (by simp)
    · rw [hdx t h2, if_neg (by omega)]; simp
  · -- (0, x) is a combination of the marked rows; its entries at the first places before K are 0
    rintro ⟨h1, h2⟩
    have h3 : InSpan p (K + 8) m (markG K A) (fun t => if t < K then 0 else x (t - K)) := by
      refine ⟨x, fun t ht => ?_⟩
      rw [mark_sum]
      show (if t < K then 0 else x (t - K)) % p = _
      split
      · rename_i hlt; rw [h1 t hlt]; simp
      · split
        · rfl
        · rename_i h4 h5; rw [h2 (t - K) (by omega) (by omega)]; simp
    have h4 := span_trans hs.1 h3
    refine ⟨fun i => x (l (a + i) - K), fun t ht => ?_⟩
    have h5 := red_told h h4 (K + t) (by omega)
    rw [if_neg (by omega), Nat.add_sub_cancel_left] at h5
    rw [h5]
    have e : ∀ n, a + n ≤ k → sumTo (fun i => (if l i < K then 0 else x (l i - K)) * g i (K + t)) (a + n) = sumTo (fun i => x (l (a + i) - K) * g (a + i) (K + t)) n := by
      intro n hn
      induction n with
      | zero => exact sumTo_zero a fun i hi => by rw [if_pos (hlo i hi), Int.zero_mul]
      | succ n ih => rw [← Nat.add_assoc, sumTo, sumTo, ih (by omega), if_neg (by have := hhi (a + n) (by omega) (by omega); omega)]
    have e2 := e (k - a) (by omega)
    rw [show a + (k - a) = k by omega] at e2
    rw [e2]
/-! ### images, sources and kernels of a linear map whose rows are A -/
/-- what the combination x of the first n rows of A is -/
def comb (A : Nat → Nat → Int) (n : Nat) (x : Nat → Int) (t : Nat) : Int := sumTo (fun j => x j * A j t) n
theorem comb_lin {p : Int} {A : Nat → Nat → Int} {n : Nat} {u v w : Nat → Int} (a b : Int) (e : ∀ j, j < n → u j % p = (a * v j + b * w j) % p) (t : Nat) : comb A n u t % p = (a * comb A n v t + b * comb A n w t) % p := by
  unfold comb
  rw [← sumTo_mul, ← sumTo_mul, ← sumTo_add]
  refine sum_mod p _ _ n fun j hj => ?_
  rw [emod_mul_congr (e j hj) (rfl : A j t % p = A j t % p), Int.add_mul, Int.mul_assoc, Int.mul_assoc]
theorem comb_basis {A : Nat → Nat → Int} {n i : Nat} (hi : i < n) (t : Nat) : comb A n (ebas i) t = A i t := by
  unfold comb
  rw [sumTo_one (k := i) n hi (fun j _ hne => by unfold ebas upd zf; rw [if_neg hne, Int.zero_mul])]
  unfold ebas upd; rw [if_pos rfl, Int.one_mul]
theorem comb_sum {p : Int} {A g : Nat → Nat → Int} {n m : Nat} {c v : Nat → Int} (e : ∀ j, j < n → v j % p = sumTo (fun i => c i * g i j) m % p) (t : Nat) : comb A n v t % p = sumTo (fun i => c i * comb A n (g i) t) m % p := by
  have h1 : comb A n v t % p = sumTo (fun j => sumTo (fun i => c i * g i j * A j t) m) n % p := by
    unfold comb
    refine sum_mod p _ _ n fun j hj => ?_
    rw [emod_mul_congr (e j hj) (rfl : A j t % p = A j t % p), Int.mul_comm, ← sumTo_mul]
    congr 1
    exact sumTo_congr m fun i _ => by rw [Int.mul_comm]
  rw [h1, sumTo_swap]
  refine sum_mod p _ _ m fun i hi => ?_
  unfold comb
  rw [← sumTo_mul]
  congr 1
  exact sumTo_congr n fun j _ => by rw [Int.mul_assoc]

/-- the first a of one list, then those of the other -/
def joinG (a : Nat) (g h : Nat → Nat → Int) : Nat → Nat → Int := fun k => if k < a then g k else h (k - a)
structure Sol (p : Int) (n : Nat) (A : Nat → Nat → Int) (i a : Nat) (im so : Nat → Nat → Int) (l : Nat → Nat) (b : Nat) (ke : Nat → Nat → Int) : Prop where
  ech : Ech p 8 a im l
  soR : ∀ k, k < a → ∀ t, t < 8 → 0 ≤ so k t ∧ so k t < p
  keR : ∀ k, k < b → ∀ t, t < 8 → 0 ≤ ke k t ∧ ke k t < p
  soF : ∀ k, k < a → ∀ t, t < 8 → comb A n (so k) t % p = im k t
  keF : ∀ k, k < b → ∀ t, t < 8 → comb A n (ke k) t % p = 0
  soZ : ∀ k, k < a → ∀ t, n ≤ t → t < 8 → so k t = 0
  keZ : ∀ k, k < b → ∀ t, n ≤ t → t < 8 → ke k t = 0
  all : ∀ j, j < i → InSpan p 8 (a + b) (joinG a so ke) (ebas j)
theorem join_left {p : Int} {N a b : Nat} {g h : Nat → Nat → Int} {k : Nat} (hk : k < a) : InSpan p N (a + b) (joinG a g h) (g k) := by
  have := span_self (p := p) (N := N) (g := joinG a g h) (m := a + b) (k := k) (by omega)
  unfold joinG at this ⊢
  rwa [if_pos hk] at this
theorem join_right {p : Int} {N a b : Nat} {g h : Nat → Nat → Int} {k : Nat} (hk : k < b) : InSpan p N (a + b) (joinG a g h) (h k) := by
  have := span_self (p := p) (N := N) (g := joinG a g h) (m := a + b) (k := a + k) (by omega)
  unfold joinG at this ⊢
  rwa [if_neg (by omega), Nat.add_sub_cancel_left] at this
theorem join_all {p : Int} {N a b m : Nat} {g h f : Nat → Nat → Int} (e1 : ∀ k, k < a → InSpan p N m f (g k)) (e2 : ∀ k, k < b → InSpan p N m f (h k)) (i : Nat) (hi : i < a + b) : InSpan p N m f (joinG a g h i) := by
  unfold joinG
  split
  · rename_i h1; exact e1 i h1
  · exact e2 _ (by omega)
theorem sol_start (p : Int) (n : Nat) (A : Nat → Nat → Int) (im so : Nat → Nat → Int) (l : Nat → Nat) (ke : Nat → Nat → Int) : Sol p n A 0 0 im so l 0 ke :=
  ⟨⟨fun _ h => by omega, fun _ h => by omega, fun _ h => by omega, fun _ h => by omega, fun _ _ _ h => by omega⟩, fun _ h => by omega, fun _ h => by omega, fun _ h => by omega, fun _ h => by omega, fun _ h => by omega, fun _ h => by omega, fun _ h => by omega⟩
/-- the source that goes along with byG -/
def srcG (p : Int) (g so : Nat → Nat → Int) (l : Nat → Nat) (v w : Nat → Int) : Nat → Nat → Int
  | 0 => w
  | k + 1 => addF p (srcG p g so l v w k) (so k) (-(byG p g l v k (l k)))
theorem src_range {p : Int} {g so : Nat → Nat → Int} {l : Nat → Nat} {v w : Nat → Int} (hp : 0 < p) (hw : ∀ t, t < 8 → 0 ≤ w t ∧ w t < p) : ∀ k, ∀ t, t < 8 → 0 ≤ srcG p g so l v w k t ∧ srcG p g so l v w k t < p
  | 0 => hw
  | _ + 1 => fun _ _ => ⟨Int.emod_nonneg _ (by omega), Int.emod_lt_of_pos _ hp⟩
theorem src_zero {p : Int} {n a : Nat} {g so : Nat → Nat → Int} {l : Nat → Nat} {v w : Nat → Int} (hw : ∀ t, n ≤ t → t < 8 → w t = 0) (hs : ∀ k, k < a → ∀ t, n ≤ t → t < 8 → so k t = 0) : ∀ k, k ≤ a → ∀ t, n ≤ t → t < 8 → srcG p g so l v w k t = 0
  | 0, _ => hw
  | k + 1, hk => fun t h1 h2 => by rw [srcG, addF, src_zero hw hs k (by omega) t h1 h2, hs k (by omega) t h1 h2]; simp
theorem src_comb {p : Int} {n a : Nat} {A im so : Nat → Nat → Int} {l : Nat → Nat} {v w : Nat → Int} (hn : n ≤ 8) (hF : ∀ k, k < a → ∀ t, t < 8 → comb A n (so k) t % p = im k t) (hw : ∀ t, t < 8 → comb A n w t % p = v t % p) : ∀ k, k ≤ a → ∀ t, t < 8 → comb A n (srcG p im so l v w k) t % p = byG p im l v k t % p
  | 0, _ => hw
  | k + 1, hk => fun t ht => by
    have h1 := comb_lin (p := p) (A := A) (n := n) (u := srcG p im so l v w (k + 1)) (v := srcG p im so l v w k) (w := so k) 1 (-(byG p im l v k (l k))) (fun j _ => by rw [srcG, addF, Int.one_mul, Int.emod_emod]) t
    rw [h1, byG, addF, Int.emod_emod, Int.one_mul]
    refine emod_add_congr (src_comb hn hF hw k (by omega) t ht) (emod_mul_congr rfl ?_)
    rw [← hF k (by omega) t ht, Int.emod_emod]
theorem src_span {p : Int} {a b : Nat} {g so ke : Nat → Nat → Int} {l : Nat → Nat} {v w : Nat → Int} {m : Nat} {f : Nat → Nat → Int} (hs : ∀ k, k < a → InSpan p 8 m f (so k)) : ∀ k, k ≤ a → InSpan p 8 m f (srcG p g so l v w k) → InSpan p 8 m f w
  | 0, _, h => h
  | k + 1, hk, h => src_span (g := g) (l := l) (v := v) (b := b) (ke := ke) hs k (by omega) (span_lin 1 (byG p g l v k (l k)) h (hs k (by omega)) fun t _ => by
      rw [srcG, addF, Int.one_mul, Int.emod_add_emod]; congr 1; rw [Int.neg_mul]; omega)

/-- one row more: it depends on those before it -/
theorem sol_ker {p : Int} {n : Nat} {A im so ke : Nat → Nat → Int} {i a b : Nat} {l : Nat → Nat} (hp : 2 ≤ p) (hn : n ≤ 8) (hi : i < n) (s : Sol p n A i a im so l b ke) (h0 : ∀ t, t < 8 → byG p im l (A i) a t = 0) :
    Sol p n A (i + 1) a im so l (b + 1) (fun k => if k < b then ke k else srcG p im so l (A i) (ebas i) a) := by
  have eb : ∀ t, t < 8 → 0 ≤ ebas i t ∧ ebas i t < p := fun t _ => by unfold ebas upd zf; split <;> omega
  have ez : ∀ t, n ≤ t → t < 8 → ebas i t = 0 := fun t h1 _ => by unfold ebas upd zf; rw [if_neg (by omega)]
  have hk : ∀ k, k < a + b → InSpan p 8 (a + (b + 1)) (joinG a so (fun k => if k < b then ke k else srcG p im so l (A i) (ebas i) a)) (joinG a so ke k) := by
    refine join_all (fun k hk => join_left hk) (fun k hk => ?_)
    have := join_right (p := p) (N := 8) (a := a) (b := b + 1) (g := so) (h := fun k => if k < b then ke k else srcG p im so l (A i) (ebas i) a) (k := k) (by omega)
    rwa [if_pos hk] at this
  refine ⟨s.ech, s.soR, ?_, s.soF, ?_, s.soZ, ?_, ?_⟩
  · intro k _ t ht
    (try dsimp only)
    split
    · rename_i h; exact s.keR k h t ht
    · exact src_range (by omega) eb a t ht
  · intro k _ t ht
    (try dsimp only)
    split
    · rename_i h; exact s.keF k h t ht
    · rw [src_comb hn s.soF (fun t _ => by rw [comb_basis hi]) a (Nat.le_refl _) t ht, h0 t ht]; rfl
  · intro k _ t h1 h2
    (try dsimp only)
    split
    · rename_i h; exact s.keZ k h t h1 h2
    · exact src_zero ez s.soZ a (Nat.le_refl _) t h1 h2
  · intro j hj
    by_cases e : j = i
    · subst e
      refine src_span (g := im) (l := l) (v := A j) (a := a) (b := b) (ke := ke) (so := so) (fun k hk => join_left hk) a (Nat.le_refl _) ?_
      have := join_right (p := p) (N := 8) (a := a) (b := b + 1) (g := so) (h := fun k => if k < b then ke k else srcG p im so l (A j) (ebas j) a) (k := b) (by omega)
      rwa [if_neg (by omega)] at this
    · exact span_trans hk (s.all j (by omega))
/-- one row more: it does not; c scales it -/
theorem sol_img {p : Int} {n : Nat} {A im so ke : Nat → Nat → Int} {i a b : Nat} {l : Nat → Nat} {q : Nat} {c : Int} (hp : 2 ≤ p) (hn : n ≤ 8) (hi : i < n) (hA : ∀ t, t < 8 → 0 ≤ A i t ∧ A i t < p) (s : Sol p n A i a im so l b ke)
    (hq : q < 8) (hlow : ∀ t, t < q → byG p im l (A i) a t = 0) (hc : (c * byG p im l (A i) a q) % p = 1) :
    Sol p n A (i + 1) (a + 1) (fun k => if k < a then im k else fun t => c * byG p im l (A i) a t % p) (fun k => if k < a then so k else fun t => c * srcG p im so l (A i) (ebas i) a t % p) (fun k => if k < a then l k else q) b ke := by
  have eb : ∀ t, t < 8 → 0 ≤ ebas i t ∧ ebas i t < p := fun t _ => by unfold ebas upd zf; split <;> omega
  have ez : ∀ t, n ≤ t → t < 8 → ebas i t = 0 := fun t h1 _ => by unfold ebas upd zf; rw [if_neg (by omega)]
  have sl : ∀ k, k < a + 1 → InSpan p 8 (a + 1 + b) (joinG (a + 1) (fun k => if k < a then so k else fun t => c * srcG p im so l (A i) (ebas i) a t % p) ke) (if k < a then so k else fun t => c * srcG p im so l (A i) (ebas i) a t % p) := fun k hk => join_left hk
  have hs : ∀ k, k < a → InSpan p 8 (a + 1 + b) (joinG (a + 1) (fun k => if k < a then so k else fun t => c * srcG p im so l (A i) (ebas i) a t % p) ke) (so k) := fun k hk => by
    have := sl k (by omega)
    rwa [if_pos hk] at this
  refine ⟨⟨?_, ?_, ?_, ?_, ?_⟩, ?_, s.keR, ?_, s.keF, ?_, s.keZ, ?_⟩
  · intro k _ t ht
    (try dsimp only)
    split
    · rename_i h; exact s.ech.rng k h t ht
    · exact ⟨Int.emod_nonneg _ (by omega), Int.emod_lt_of_pos _ (by omega)⟩
  · intro k _
    (try dsimp only)
    split
    · rename_i h; exact s.ech.lt k h
    · exact hq
  · intro k _
    (try dsimp only)
    split
    · rename_i h; exact s.ech.one k h
    · exact hc
  · intro k _ t ht
    (try dsimp only at ht ⊢)
    split
    · rename_i h; rw [if_pos h] at ht; exact s.ech.low k h t ht
    · rename_i h; rw [if_neg h] at ht; dsimp only; rw [hlow t ht]; simp
  · intro k j hj hk
    (try dsimp only)
    by_cases h : k < a
    · rw [if_pos h, if_pos (by omega)]; exact s.ech.aft k j hj h
    · rw [if_neg h, if_pos (by omega), by_lead s.ech hA (by omega) a (Nat.le_refl _) j (by omega)]; simp
  · intro k _ t ht
    (try dsimp only)
    split
    · rename_i h; exact s.soR k h t ht
    · exact ⟨Int.emod_nonneg _ (by omega), Int.emod_lt_of_pos _ (by omega)⟩
  · intro k _ t ht
    (try dsimp only)
    split
    · rename_i h; exact s.soF k h t ht
    · have h1 := comb_lin (p := p) (A := A) (n := n) (u := fun t => c * srcG p im so l (A i) (ebas i) a t % p) (v := srcG p im so l (A i) (ebas i) a) (w := zf) c 0 (fun j _ => by rw [Int.zero_mul, Int.add_zero, Int.emod_emod]) t
      rw [h1, Int.zero_mul, Int.add_zero]
      exact emod_mul_congr rfl (src_comb hn s.soF (fun t _ => by rw [comb_basis hi]) a (Nat.le_refl _) t ht)
  · intro k _ t h1 h2
    (try dsimp only)
    split
    · rename_i h; exact s.soZ k h t h1 h2
    · dsimp only; rw [src_zero ez s.soZ a (Nat.le_refl _) t h1 h2]; simp
  · intro j hj
    by_cases e : j = i
    · subst e
      refine src_span (g := im) (l := l) (v := A j) (a := a) (b := b) (ke := ke) (so := so) hs a (Nat.le_refl _) ?_
      have h1 := sl a (by omega)
      rw [if_neg (by omega)] at h1
      refine span_lin (byG p im l (A j) a q) 0 h1 h1 fun t _ => ?_
      rw [Int.zero_mul, Int.add_zero, Int.mul_emod, Int.emod_emod, ← Int.mul_emod, ← Int.mul_assoc, Int.mul_comm _ c, Int.mul_emod, hc, show (1 : Int) = 1 % p from (Int.emod_eq_of_lt (by omega) (by omega)).symm, ← Int.mul_emod, Int.one_mul]
    · exact span_trans (fun k hk => join_all hs (fun k hk => join_right hk) k hk) (s.all j (by omega))
/-- the kernel's list spans the combinations that are 0 -/
theorem sol_kernel {p : Int} {n : Nat} {A im so ke : Nat → Nat → Int} {a b : Nat} {l : Nat → Nat} (hn : n ≤ 8) (s : Sol p n A n a im so l b ke) (x : Nat → Int) : InSpan p 8 b ke x ↔ KerOf p 8 n A x := by
  constructor
  · rintro ⟨c, hc⟩
    refine ⟨fun t ht => ?_, fun t h1 h2 => ?_⟩
    · have := comb_sum (p := p) (A := A) (g := ke) (n := n) (m := b) (c := c) (v := x) (fun j hj => hc j (by omega)) t
      show comb A n x t % p = 0
      rw [this, sum_mod p _ (fun _ => 0) b fun k hk => (emod_mul_congr (b := c k) (d := 0) rfl (by rw [s.keF k hk t ht]; simp)).trans (by simp), sumTo_zero b fun _ _ => rfl]
      simp
    · rw [hc t h2, sumTo_zero b fun k hk => by rw [s.keZ k hk t h1 h2, Int.mul_zero]]; simp
  · rintro ⟨h1, h2⟩
    -- x is the sum of its entries times the basis
    have hx : InSpan p 8 n ebas x := ⟨x, fun t ht => by
      by_cases h : t < n
      · rw [sumTo_one (k := t) n h (fun i _ hne => by unfold ebas upd zf; rw [if_neg (Ne.symm hne), Int.mul_zero])]
        unfold ebas upd; rw [if_pos rfl, Int.mul_one]
      · rw [h2 t (by omega) ht, sumTo_zero n fun i hi => by unfold ebas upd zf; rw [if_neg (by omega), Int.mul_zero]]; simp⟩
    obtain ⟨c, hc⟩ := span_trans s.all hx
    have hz : ∀ t, t < 8 → (0 : Int) % p = sumTo (fun k => c k * im k t) a % p := by
      intro t ht
      have h3 := comb_sum (p := p) (A := A) (g := joinG a so ke) (n := n) (m := a + b) (c := c) (v := x) (fun j hj => hc j (by omega)) t
      rw [show comb A n x t % p = 0 from h1 t ht] at h3
      have key : ∀ m, m ≤ b → sumTo (fun k => c k * comb A n (joinG a so ke k) t) (a + m) % p = sumTo (fun k => c k * im k t) a % p := by
        intro m
        induction m with
        | zero =>
          intro _
          refine sum_mod p _ _ a fun k hk => emod_mul_congr rfl ?_
          unfold joinG
          rw [if_pos hk, s.soF k hk t ht, small_mod (s.ech.rng k hk t ht)]
        | succ m ih =>
          intro hm
          rw [← Nat.add_assoc, sumTo, Int.add_emod, ih (by omega)]
          have : c (a + m) * comb A n (joinG a so ke (a + m)) t % p = 0 := by
            refine (emod_mul_congr (b := c (a + m)) (d := 0) rfl ?_).trans (by simp)
            unfold joinG
            rw [if_neg (by omega), Nat.add_sub_cancel_left, s.keF m (by omega) t ht]; simp
          rw [this, Int.add_zero, Int.emod_emod]
      rw [key b (Nat.le_refl _)] at h3
      simpa using h3
    have h0 := ech_zero s.ech (v := fun _ => 0) hz (fun i _ => by simp)
    refine ⟨fun k => c (a + k), fun t ht => ?_⟩
    rw [hc t ht]
    have key : ∀ m, sumTo (fun k => c k * joinG a so ke k t) (a + m) % p = sumTo (fun k => c (a + k) * ke k t) m % p := by
      intro m
      induction m with
      | zero =>
        show sumTo (fun k => c k * joinG a so ke k t) a % p = 0 % p
        rw [sum_mod p _ (fun _ => 0) a fun k hk => (emod_mul_congr (b := 0) (by rw [h0 k hk]; simp) rfl).trans (by simp), sumTo_zero a fun _ _ => rfl]
      | succ m ih =>
        rw [← Nat.add_assoc, sumTo, sumTo, Int.add_emod, ih, ← Int.add_emod]
        congr 2
        unfold joinG
        rw [if_neg (by omega), Nat.add_sub_cancel_left]
    exact key b
/-- the images span all combinations -/
theorem sol_image {p : Int} {n : Nat} {A im so ke : Nat → Nat → Int} {a b : Nat} {l : Nat → Nat} (hn : n ≤ 8) (s : Sol p n A n a im so l b ke) (v : Nat → Int) : InSpan p 8 a im v ↔ InSpan p 8 n A v := by
  constructor
  · refine span_trans fun k hk => ⟨so k, fun t ht => ?_⟩
    rw [← s.soF k hk t ht, Int.emod_emod]; rfl
  · refine span_trans fun j hj => ?_
    obtain ⟨c, hc⟩ := s.all j hj
    refine ⟨c, fun t ht => ?_⟩
    have h3 := comb_sum (p := p) (A := A) (g := joinG a so ke) (n := n) (m := a + b) (c := c) (v := ebas j) (fun j hj => hc j (by omega)) t
    rw [comb_basis hj] at h3
    rw [h3]
    have key : ∀ m, m ≤ b → sumTo (fun k => c k * comb A n (joinG a so ke k) t) (a + m) % p = sumTo (fun k => c k * im k t) a % p := by
      intro m
      induction m with
      | zero =>
        intro _
        refine sum_mod p _ _ a fun k hk => emod_mul_congr rfl ?_
        unfold joinG
        rw [if_pos hk, s.soF k hk t ht, small_mod (s.ech.rng k hk t ht)]
      | succ m ih =>
        intro hm
        rw [← Nat.add_assoc, sumTo, Int.add_emod, ih (by omega)]
        have : c (a + m) * comb A n (joinG a so ke (a + m)) t % p = 0 := by
          refine (emod_mul_congr (b := c (a + m)) (d := 0) rfl ?_).trans (by simp)
          unfold joinG
          rw [if_neg (by omega), Nat.add_sub_cancel_left, s.keF m (by omega) t ht]; simp
        rw [this, Int.add_zero, Int.emod_emod]
    exact key b (Nat.le_refl _)
/-! ### vectors that give 0 with all rows -/
/-- the sum of the products of the first n entries -/
def dotF (n : Nat) (v w : Nat → Int) : Int := sumTo (fun t => v t * w t) n
theorem dot_lin {p : Int} {n : Nat} {u v w x : Nat → Int} (a b : Int) (e : ∀ t, t < n → u t % p = (a * v t + b * w t) % p) : dotF n u x % p = (a * dotF n v x + b * dotF n w x) % p := by
  unfold dotF
  rw [← sumTo_mul, ← sumTo_mul, ← sumTo_add]
  refine sum_mod p _ _ n fun t ht => ?_
  rw [emod_mul_congr (e t ht) (rfl : x t % p = x t % p), Int.add_mul, Int.mul_assoc, Int.mul_assoc]
theorem dot_comm (n : Nat) (v w : Nat → Int) : dotF n v w = dotF n w v := sumTo_congr n fun t _ => Int.mul_comm _ _
theorem dot_span {p : Int} {N n m : Nat} {g : Nat → Nat → Int} {v x : Nat → Int} (hn : n ≤ N) (h : InSpan p N m g x) (h0 : ∀ i, i < m → dotF n v (g i) % p = 0) : dotF n v x % p = 0 := by
  obtain ⟨c, hc⟩ := h
  have h1 : dotF n v x % p = sumTo (fun t => sumTo (fun i => v t * (c i * g i t)) m) n % p := by
    unfold dotF
    refine sum_mod p _ _ n fun t ht => ?_
    rw [sumTo_mul, Int.mul_emod, hc t (by omega), ← Int.mul_emod]
  rw [h1, sumTo_swap, sum_mod p _ (fun _ => 0) m fun i hi => ?_, sumTo_zero m fun _ _ => rfl]
  · rfl
  · have : sumTo (fun t => v t * (c i * g i t)) n = c i * dotF n v (g i) := by
      unfold dotF
      rw [← sumTo_mul]
      exact sumTo_congr n fun t _ => by rw [← Int.mul_assoc, ← Int.mul_assoc, Int.mul_comm (v t)]
    rw [this]
    exact (emod_mul_congr (b := c i) (d := 0) rfl (by rw [h0 i hi]; rfl)).trans (by simp)
def NullOf (p : Int) (n m : Nat) (g : Nat → Nat → Int) (v : Nat → Int) : Prop := (∀ i, i < m → dotF n v (g i) % p = 0) ∧ ∀ t, n ≤ t → t < 8 → v t % p = 0
theorem null_same {p : Int} {n m k : Nat} {g h : Nat → Nat → Int} (hn : n ≤ 8) (e : SameSpan p 8 m g k h) (v : Nat → Int) : NullOf p n m g v ↔ NullOf p n k h v :=
  ⟨fun ⟨h1, h2⟩ => ⟨fun i hi => dot_span hn (e.2 i hi) h1, h2⟩, fun ⟨h1, h2⟩ => ⟨fun i hi => dot_span hn (e.1 i hi) h1, h2⟩⟩
/-- k is a first place -/
def isLead (m : Nat) (l : Nat → Nat) (k : Nat) : Bool := (List.range m).any fun i => l i == k
theorem lead_iff {m : Nat} {l : Nat → Nat} {k : Nat} : isLead m l k = true ↔ ∃ i, i < m ∧ l i = k := by
  unfold isLead; simp
/-- the null vector of a place k that is no first place: v with the first j first places laid -/
def nullG (p : Int) (g : Nat → Nat → Int) (l : Nat → Nat) (k : Nat) : Nat → Nat → Int
  | 0 => ebas k
  | j + 1 => upd (nullG p g l k j) (l j) (-(g j k) % p)
theorem nullG_off {p : Int} {g : Nat → Nat → Int} {l : Nat → Nat} {k t : Nat} : ∀ j, (∀ i, i < j → l i ≠ t) → nullG p g l k j t = ebas k t
  | 0, _ => rfl
  | j + 1, h => by rw [nullG]; unfold upd; rw [if_neg (Ne.symm (h j (by omega))), nullG_off j fun i hi => h i (by omega)]
theorem nullG_on {p : Int} {g : Nat → Nat → Int} {l : Nat → Nat} {k i m : Nat} (inc : ∀ i j, i < j → j < m → l i < l j) : ∀ j, j ≤ m → i < j → nullG p g l k j (l i) = -(g i k) % p
  | 0, _, h => by omega
  | j + 1, hj, h => by
    rw [nullG]; unfold upd
    by_cases e : i = j
    · subst e; rw [if_pos rfl]
    · have := inc i j (by omega) (by omega)
      rw [if_neg (by omega), nullG_on inc j (by omega) (by omega)]
theorem null_range {p : Int} {g : Nat → Nat → Int} {l : Nat → Nat} {k : Nat} (hp : 2 ≤ p) : ∀ j t, 0 ≤ nullG p g l k j t ∧ nullG p g l k j t < p
  | 0, _ => by rw [nullG]; unfold ebas upd zf; split <;> omega
  | j + 1, _ => by
    rw [nullG]; unfold upd
    split
    · exact ⟨Int.emod_nonneg _ (by omega), Int.emod_lt_of_pos _ (by omega)⟩
    · exact null_range hp j _
/-- sums in which only the first places and k count -/
theorem sum_places {n m : Nat} {l : Nat → Nat} {f : Nat → Int} {k : Nat} (hk : k < n) (hkl : ∀ i, i < m → l i ≠ k) (inc : ∀ i j, i < j → j < m → l i < l j) (hl : ∀ i, i < m → l i < n) (h0 : ∀ t, t < n → t ≠ k → (∀ i, i < m → l i ≠ t) → f t = 0) : sumTo f n = f k + sumTo (fun i => f (l i)) m := by
  induction m generalizing f with
  | zero => rw [sumTo, Int.add_zero]; exact sumTo_one n hk fun i hi hne => h0 i hi hne fun _ h => by omega
  | succ m ih =>
    have h1 := ih (f := fun t => if t = l m then 0 else f t) (fun i hi => hkl i (by omega)) (fun i j hij hj => inc i j hij (by omega)) (fun i hi => hl i (by omega)) (fun t ht hne hno => by
      by_cases e : t = l m
      · exact if_pos e
      · rw [if_neg e]; exact h0 t ht hne fun i hi => by
          by_cases him : i = m
          · subst him; exact Ne.symm e
          · exact hno i (by omega))
    have h2 : sumTo f n = sumTo (fun t => if t = l m then 0 else f t) n + f (l m) := by
      have : sumTo f n = sumTo (fun t => (if t = l m then 0 else f t) + (if t = l m then f (l m) else 0)) n := sumTo_congr n fun t _ => by
        by_cases e : t = l m
        · rw [if_pos e, if_pos e, e]; omega
        · rw [if_neg e, if_neg e]; omega
      rw [this, sumTo_add]
      congr 1
      rw [sumTo_one (k := l m) n (hl m (by omega)) (fun i _ hne => if_neg hne), if_pos rfl]
    have h3 : sumTo (fun i => if l i = l m then 0 else f (l i)) m = sumTo (fun i => f (l i)) m := sumTo_congr m fun i hi => by
      have := inc i m hi (by omega)
      rw [if_neg (by omega)]
    rw [h2, h1, if_neg (Ne.symm (hkl m (by omega))), h3, sumTo, Int.add_assoc]
theorem null_mem {p : Int} {n m k : Nat} {g : Nat → Nat → Int} {l : Nat → Nat} (r : Red p 8 m g l) (hl : ∀ i, i < m → l i < n) (hk : k < n) (hno : ∀ i, i < m → l i ≠ k) : NullOf p n m g (nullG p g l k m) := by
  refine ⟨fun i hi => ?_, fun t h1 h2 => ?_⟩
  · unfold dotF
    rw [sum_places hk hno r.inc hl (fun t ht hne hnl => by
      rw [nullG_off m hnl]; unfold ebas upd zf; rw [if_neg hne, Int.zero_mul])]
    rw [nullG_off m hno]
    have : ebas k k = 1 := by unfold ebas upd; rw [if_pos rfl]
    rw [this, Int.one_mul, sumTo_one (k := i) m hi (fun j hj hne => by rw [r.oth i j hi hj (Ne.symm hne), Int.mul_zero]), r.one i hi, Int.mul_one, nullG_on r.inc m (Nat.le_refl _) hi, Int.add_emod_emod, Int.add_right_neg]
    rfl
  · rw [nullG_off m fun i hi => by have := hl i hi; omega]
    unfold ebas upd zf; rw [if_neg (by omega)]; rfl
/-- what gives 0 with all rows is a combination of those vectors -/
theorem null_span {p : Int} {n m b : Nat} {g ke : Nat → Nat → Int} {l : Nat → Nat} {v : Nat → Int} (hn : n ≤ 8) (r : Red p 8 m g l) (hl : ∀ i, i < m → l i < n) (hv : NullOf p n m g v) (hke : ∀ k, k < n → (∀ i, i < m → l i ≠ k) → InSpan p 8 b ke (nullG p g l k m)) : InSpan p 8 b ke v := by
  have hs : InSpan p 8 n (fun k => if isLead m l k then zf else nullG p g l k m) v := by
    refine ⟨v, fun t ht => ?_⟩
    by_cases htn : t < n
    · by_cases hle : isLead m l t = true
      · obtain ⟨i, hi, e⟩ := lead_iff.1 hle
        subst e
        have h1 := hv.1 i hi
        -- dot: v (l i) plus the others
        have h2 : dotF n v (g i) = v (l i) + sumTo (fun t => if isLead m l t then 0 else v t * g i t) n := by
          unfold dotF
          have : sumTo (fun t => v t * g i t) n = sumTo (fun t => (if t = l i then v (l i) else 0) + (if isLead m l t then 0 else v t * g i t)) n := sumTo_congr n fun t ht => by
            by_cases e : t = l i
            · rw [if_pos e, e, if_pos (lead_iff.2 ⟨i, hi, rfl⟩), r.one i hi]; omega
            · rw [if_neg e]
              by_cases hq : isLead m l t = true
              · rw [if_pos hq]
                obtain ⟨j, hj, e2⟩ := lead_iff.1 hq
                rw [← e2, r.oth i j hi hj (fun h => by subst h; exact e e2.symm), Int.mul_zero]; rfl
              · rw [if_neg hq]; omega
          rw [this, sumTo_add, sumTo_one (k := l i) n (hl i hi) (fun _ _ hne => if_neg hne), if_pos rfl]
        have h3 : sumTo (fun k => v k * (if isLead m l k then zf else nullG p g l k m) (l i)) n % p = sumTo (fun t => (-1) * (if isLead m l t then 0 else v t * g i t)) n % p := by
          refine sum_mod p _ _ n fun k hk => ?_
          by_cases hq : isLead m l k = true
          · rw [if_pos hq, if_pos hq]; simp [zf]
          · rw [if_neg hq, if_neg hq, nullG_on r.inc m (Nat.le_refl _) hi, Int.mul_emod, Int.emod_emod, ← Int.mul_emod]
            congr 1
            rw [Int.mul_neg]; omega
        rw [h3, sumTo_mul]
        rw [h2] at h1
        have h4 : v (l i) = (v (l i) + sumTo (fun t => if isLead m l t then 0 else v t * g i t) n) + -1 * sumTo (fun t => if isLead m l t then 0 else v t * g i t) n := by omega
        conv => lhs; rw [h4]
        rw [Int.add_emod, h1, Int.zero_add, Int.emod_emod]
      · have hno : ∀ i, i < m → l i ≠ t := fun i hi e => hle (lead_iff.2 ⟨i, hi, e⟩)
        rw [sumTo_one (k := t) n htn fun k _ hne => by
          dsimp only
          by_cases hq : isLead m l k = true
          · rw [if_pos hq]; simp [zf]
          · rw [if_neg hq, nullG_off m hno]; unfold ebas upd zf; rw [if_neg (Ne.symm hne), Int.mul_zero]]
        dsimp only
        rw [if_neg hle, nullG_off m hno]
        unfold ebas upd; rw [if_pos rfl, Int.mul_one]
    · rw [hv.2 t (by omega) ht, sumTo_zero n fun k hk => by
        dsimp only
        by_cases hq : isLead m l k = true
        · rw [if_pos hq]; simp [zf]
        · rw [if_neg hq, nullG_off m fun i hi => by have := hl i hi; omega]; unfold ebas upd zf; rw [if_neg (by omega), Int.mul_zero]]
      rfl
  refine span_trans (fun k hk => ?_) hs
  by_cases hq : isLead m l k = true
  · rw [if_pos hq]; exact span_zero fun t _ => by simp [zf]
  · rw [if_neg hq]; exact hke k hk fun i hi e => hq (lead_iff.2 ⟨i, hi, e⟩)

/-! ### the meet of two spaces -/
/-- combinations of the first list that the second one reduces to 0 are those in the second space -/
theorem meet_ker {p : Int} {a m : Nat} {one two : Nat → Nat → Int} {l : Nat → Nat} {c : Nat → Int} (hp : 0 < p) (r : Ech p 8 m two l) (ho : ∀ i, i < a → ∀ t, t < 8 → 0 ≤ one i t ∧ one i t < p) :
    (∀ t, t < 8 → sumTo (fun i => c i * byG p two l (one i) m t) a % p = 0) ↔ InSpan p 8 m two (comb one a c) := by
  have hd : InSpan p 8 m two (fun t => comb one a c t - sumTo (fun i => c i * byG p two l (one i) m t) a) := by
    have h1 : InSpan p 8 m two (fun t => sumTo (fun i => c i * (one i t - byG p two l (one i) m t)) a) := span_sum (h := fun i t => one i t - byG p two l (one i) m t) a fun i _ => by_span m (Nat.le_refl _)
    refine span_congr h1 fun t _ => ?_
    congr 1
    have : sumTo (fun i => c i * (one i t - byG p two l (one i) m t)) a = sumTo (fun i => c i * one i t + (-1) * (c i * byG p two l (one i) m t)) a := sumTo_congr a fun i _ => by rw [Int.mul_sub]; omega
    rw [this, sumTo_add, sumTo_mul]
    unfold comb; omega
  constructor
  · intro h
    refine span_congr hd fun t ht => ?_
    rw [Int.sub_emod, h t ht, Int.sub_zero, Int.emod_emod]
  · intro h t ht
    have h1 : InSpan p 8 m two (fun t => sumTo (fun i => c i * byG p two l (one i) m t) a) := span_lin 1 (-1) h hd fun t _ => by congr 1; omega
    refine ech_zero_v r h1 (fun j hj => ?_) t ht
    rw [sumTo_zero a fun i hi => by rw [by_lead r (ho i hi) hp m (Nat.le_refl _) j hj, Int.mul_zero]]
    rfl
end Go.Proofs.YtjmmmggnbndolaaGreat
