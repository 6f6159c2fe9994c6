/- Sums and products modulo p: plain mathematics, nothing of the program. -/
import Derived.Test.YtnjjcimpcnennaaArr
namespace Go.Proofs.Ytnjjcimpcnennaa

/-- g 0 + .. + g (n - 1) -/
def sumTo (g : Nat → Int) : Nat → Int
  | 0 => 0
  | n + 1 => sumTo g n + g n
theorem sumTo_congr {g h : Nat → Int} : ∀ (n : Nat), (∀ i, i < n → g i = h i) → sumTo g n = sumTo h n
  | 0, _ => rfl
  | n + 1, e => by rw [sumTo, sumTo, sumTo_congr n (fun i hi => e i (by omega)), e n (by omega)]
theorem sumTo_mul (c : Int) (g : Nat → Int) : ∀ n, sumTo (fun i => c * g i) n = c * sumTo g n
  | 0 => by simp [sumTo]
  | n + 1 => by rw [sumTo, sumTo, sumTo_mul c g n, Int.mul_add]

/-- the product of vectors by a table m, entry k -/
def mulF (p : Int) (n : Nat) (m : Nat → Nat → Nat → Int) (v w : Nat → Int) (k : Nat) : Int := sumTo (fun i => sumTo (fun j => v i * w j * m i j k) n) n % p
/-- the sums of the first i rows, and j products of row i -/
def accF (p : Int) (n : Nat) (m : Nat → Nat → Nat → Int) (v w : Nat → Int) (i j k : Nat) : Int :=
  (sumTo (fun i => sumTo (fun j => v i * w j * m i j k) n) i + sumTo (fun j => v i * w j * m i j k) j) % p

theorem mod_range (x p : Int) (hp : 0 < p) : 0 ≤ x % p ∧ x % p < p := ⟨Int.emod_nonneg _ (by omega), Int.emod_lt_of_pos _ hp⟩
theorem acc_range (p : Int) (hp : 0 < p) (n : Nat) (m : Nat → Nat → Nat → Int) (v w : Nat → Int) (i j k : Nat) : 0 ≤ accF p n m v w i j k ∧ accF p n m v w i j k < p := mod_range _ _ hp
theorem acc_zero (p : Int) (n : Nat) (m : Nat → Nat → Nat → Int) (v w : Nat → Int) (k : Nat) : accF p n m v w 0 0 k = 0 := by simp [accF, sumTo]
theorem acc_step (p : Int) (n : Nat) (m : Nat → Nat → Nat → Int) (v w : Nat → Int) (i j k : Nat) :
    (accF p n m v w i j k + (v i * w j) % p * m i j k) % p = accF p n m v w i (j + 1) k := by
  unfold accF
  rw [Int.emod_add_emod, ← Int.add_emod_emod, Int.mul_emod, Int.emod_emod, ← Int.mul_emod, Int.add_emod_emod, sumTo, Int.add_assoc]
theorem acc_row (p : Int) (n : Nat) (m : Nat → Nat → Nat → Int) (v w : Nat → Int) (i k : Nat) : accF p n m v w i n k = accF p n m v w (i + 1) 0 k := by
  unfold accF
  simp [sumTo]
theorem acc_all (p : Int) (n : Nat) (m : Nat → Nat → Nat → Int) (v w : Nat → Int) (k : Nat) : accF p n m v w n 0 k = mulF p n m v w k := by
  unfold accF mulF
  simp [sumTo]

/-- what a linear map leads w to, entry k: the sum of w j f j k -/
def appF (p : Int) (n : Nat) (f : Nat → Nat → Int) (w : Nat → Int) (k : Nat) : Int := sumTo (fun j => w j * f j k) n % p
theorem app_step (p : Int) (j : Nat) (f : Nat → Nat → Int) (w : Nat → Int) (k : Nat) : (appF p j f w k + w j * f j k) % p = appF p (j + 1) f w k := by
  unfold appF
  rw [Int.emod_add_emod, sumTo]
theorem app_skip (p : Int) (j : Nat) (f : Nat → Nat → Int) (w : Nat → Int) (k : Nat) (h : w j = 0) : appF p j f w k = appF p (j + 1) f w k := by
  unfold appF
  simp [sumTo, h]
theorem app_range (p : Int) (hp : 0 < p) (n : Nat) (f : Nat → Nat → Int) (w : Nat → Int) (k : Nat) : 0 ≤ appF p n f w k ∧ appF p n f w k < p := mod_range _ _ hp
/-- the first i rows of the product, each the image of w under a row's map -/
def timesF (p : Int) (n : Nat) (m : Nat → Nat → Nat → Int) (v w : Nat → Int) (i k : Nat) : Int := sumTo (fun i => v i * appF p n (m i) w k) i % p
theorem times_step (p : Int) (n : Nat) (m : Nat → Nat → Nat → Int) (v w : Nat → Int) (i k : Nat) : (timesF p n m v w i k + v i * appF p n (m i) w k) % p = timesF p n m v w (i + 1) k := by
  unfold timesF
  rw [Int.emod_add_emod, sumTo]
theorem times_skip (p : Int) (n : Nat) (m : Nat → Nat → Nat → Int) (v w : Nat → Int) (i k : Nat) (h : v i = 0) : timesF p n m v w i k = timesF p n m v w (i + 1) k := by
  unfold timesF
  simp [sumTo, h]
theorem times_range (p : Int) (hp : 0 < p) (n : Nat) (m : Nat → Nat → Nat → Int) (v w : Nat → Int) (i k : Nat) : 0 ≤ timesF p n m v w i k ∧ timesF p n m v w i k < p := mod_range _ _ hp
theorem sum_mod (p : Int) (g h : Nat → Int) : ∀ n, (∀ i, i < n → g i % p = h i % p) → sumTo g n % p = sumTo h n % p
  | 0, _ => rfl
  | n + 1, e => by
    rw [sumTo, sumTo, Int.add_emod, sum_mod p g h n (fun i hi => e i (by omega)), e n (by omega), ← Int.add_emod]
theorem times_all (p : Int) (n : Nat) (m : Nat → Nat → Nat → Int) (v w : Nat → Int) (k : Nat) : timesF p n m v w n k = mulF p n m v w k := by
  unfold timesF mulF
  refine sum_mod p _ _ n fun i _ => ?_
  unfold appF
  rw [Int.mul_emod, Int.emod_emod, ← Int.mul_emod, ← sumTo_mul]
  congr 1
  exact sumTo_congr n fun j _ => by rw [Int.mul_assoc]

/-- Go's remainder, made positive -/
theorem tmod_mod (x p : Int) (hp : 0 < p) : (x.tmod p + p).tmod p = x % p := by
  have h1 : -p < x.tmod p := by
    have := Int.lt_tmod_of_pos x hp
    omega
  rw [Int.tmod_eq_emod_of_nonneg (by omega), Int.add_emod_right, Int.tmod_eq_emod]
  split
  · simp
  · rw [Int.sub_emod]
    have : ((p.natAbs : Nat) : Int) % p = 0 := by rw [Int.natAbs_of_nonneg (by omega)]; exact Int.emod_self
    rw [this]; simp
theorem tmod_emod_pos (x p : Int) (hp : 0 < p) : x.tmod p % p = x % p := by
  have h1 : -p < x.tmod p := Int.lt_tmod_of_pos x hp
  have h2 := tmod_mod x p hp
  rw [Int.tmod_eq_emod_of_nonneg (by omega), Int.add_emod_right] at h2
  exact h2
theorem prod_le (x y a b : Int) (hx : 0 ≤ x) (hy : 0 ≤ y) (hxa : x ≤ a) (hyb : y ≤ b) : 0 ≤ x * y ∧ x * y ≤ a * b :=
  ⟨Int.mul_nonneg hx hy, Int.mul_le_mul hxa hyb hy (by omega)⟩
theorem add_mod_small (x p : Int) (h0 : 0 ≤ x) (h1 : x < p) : x % p = x := Int.emod_eq_of_lt h0 h1
end Go.Proofs.Ytnjjcimpcnennaa
