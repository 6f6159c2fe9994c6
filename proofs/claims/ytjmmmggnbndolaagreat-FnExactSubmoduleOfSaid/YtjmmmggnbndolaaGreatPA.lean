/- The contracts of impl.IsPrime and spec.IsPrime: each returns the Boolean function prime31 of its argument. No condition. Contracts of isField, l01Sizes, IsVector, l01Vector. Contracts of the functions on numbers modulo p and of sums of rows. Contracts of l01Apply, l01Times and multiply: each returns the product by a table. Contracts of l01Times and multiply: each returns the product by an algebra's table. Contracts of the shape checks: linear maps and tables. Contracts of the shape of an algebra, of its unit, and of the search for a fault: IsAlgebra and l01Is return one Boolean function. The search for the first fault of associativity: both programs answer the same. l01Fault, IsAlgebra, l01Is: the same Boolean function. IsAlgebra, l01Is: the same Boolean function. The laws' copies of arrays and algebras, and the walk of FnExactIsAlgebra. -/
import Derived.Test.YtjmmmggnbndolaaGreatRows
import Derived.WalkKit
import Derived.WalkSpells
import Derived.WalkLawsBesides
import Derived.Lib.Hide
import Derived.Test.YtjmmmggnbndolaaGreatBase
import Derived.Test.YtjmmmggnbndolaaGreatReg
import Derived.BigQuiet
import Derived.Laws.CopyOwn
import Derived.Test.YtjmmmggnbndolaaGreatLin
import Derived.Test.YtjmmmggnbndolaaGreatClo
namespace Go.Proofs.YtjmmmggnbndolaaGreat
section
open Go.RowKit

/-- no d from 2 up to k - 1 divides p -/
def noDiv (p : Int) (k : Nat) : Prop := ∀ d : Nat, 2 ≤ d → d < k → p % (d : Int) ≠ 0

/-- p is a prime in 2..31 -/
def prime31 (p : Int) : Bool := decide (2 ≤ p) && decide (p ≤ 31) && (List.range p.toNat).all fun d => decide (d < 2) || decide (p % (d : Int) ≠ 0)

theorem prime31_lo (p : Int) (h : p < 2) : prime31 p = false := by
  unfold prime31; rw [show decide (2 ≤ p) = false from by simp; omega]; simp
theorem prime31_hi (p : Int) (h : 31 < p) : prime31 p = false := by
  unfold prime31; rw [show decide (p ≤ 31) = false from by simp; omega]; simp
theorem prime31_yes (p : Int) (h : 2 ≤ p) (h' : p ≤ 31) (k : Nat) (hk : p = (k : Int)) (hn : noDiv p k) : prime31 p = true := by
  subst hk
  unfold prime31
  simp only [Bool.and_eq_true, decide_eq_true_eq, List.all_eq_true, List.mem_range, Bool.or_eq_true]
  refine ⟨⟨h, h'⟩, fun d hd => ?_⟩
  by_cases h2 : d < 2
  · exact .inl h2
  · exact .inr (hn d (by omega) (by simpa using hd))
theorem prime31_no (p : Int) (k : Nat) (h2 : 2 ≤ k) (hk : (k : Int) < p) (hd : p % (k : Int) = 0) : prime31 p = false := by
  unfold prime31
  rw [Bool.and_eq_false_iff]; right
  rw [List.all_eq_false]
  exact ⟨k, by simp; omega, by simp [hd]; omega⟩
theorem noDiv_succ {p : Int} {k : Nat} (h : noDiv p k) (hk : p % (k : Int) ≠ 0) : noDiv p (k + 1) := by
  intro d h2 hd
  by_cases e : d = k
  · subst e; exact hk
  · exact h d h2 (by omega)
theorem noDiv_two (p : Int) : noDiv p 2 := fun d h2 hd => by omega

theorem ret_bool {a b : Bool} (h : a = b) : Ending.returned (.bool a) = .returned (.bool b) := by rw [h]

theorem lin_any (n lo hi : Int) (w : World) :
    Calls Tryz.prog 123 #[.int .i64 n, .int .i64 lo, .int .i64 hi] w fun e w' => e = .returned (.bool (decide (lo ≤ n) && decide (n ≤ hi))) ∧ w = w' := by
  by_cases h1 : lo ≤ n <;> by_cases h2 : n ≤ hi
  all_goals
    go_enter Tryz.func123, Tryz.ntmps123
    go_wp2
    all_goals go_ret
    all_goals exact ⟨ret_bool (by simp <;> omega), rfl⟩

theorem isPrime_any (p : Int) (w : World) :
    Calls Tryz.prog 126 #[.int .i64 p] w fun e w' => e = .returned (.bool (prime31 p)) ∧ w = w' := by
  by_cases hlo : p < 2
  · have H := Lib.hid (prime31_lo p hlo)
    go_enter Tryz.func126, Tryz.ntmps126
    go_wp2
    go_ret
    exact ⟨ret_bool H.out.symm, rfl⟩
  by_cases hhi : 31 < p
  · have H := Lib.hid (prime31_hi p hhi)
    go_enter Tryz.func126, Tryz.ntmps126
    go_wp2
    go_ret
    exact ⟨ret_bool H.out.symm, rfl⟩
  go_enter Tryz.func126, Tryz.ntmps126
  go_wp2
  go_loop [3] (fun d => ∃ k : Nat, 2 ≤ k ∧ (k : Int) ≤ p ∧ d = .int .i64 k ∧ noDiv p k) (fun d => 31 - (intOf d).toNat)
  case atStart => exact ⟨2, by omega, by omega, rfl, noDiv_two p⟩
  case round =>
    obtain ⟨k, hk2, hkp, rfl, hn⟩ := hrel
    have Hn := Lib.hid hn
    clear hn
    by_cases hlt : (k : Int) < p
    · by_cases hd : p % (k : Int) = 0
      · have H := Lib.hid (prime31_no p k hk2 hlt hd)
        have hd' : (p % (k : Int) == 0) = true := by simpa using hd
        clear hd
        go_wp2
        go_ret
        exact ⟨ret_bool H.out.symm, rfl⟩
      · have hd' : (p % (k : Int) == 0) = false := by simpa using hd
        have H := Lib.hid (noDiv_succ Hn.out hd)
        clear hd
        go_wp2
        go_round
        case rel => exact ⟨k + 1, by omega, by omega, by go_num, H.out⟩
        case measure => simp [intOf]; omega
    · have H := Lib.hid (prime31_yes p (by omega) (by omega) k (by omega) Hn.out)
      go_wp2
      go_ret
      exact ⟨ret_bool H.out.symm, rfl⟩

theorem specPrime_any (p : Int) (w : World) :
    Calls Tryz.prog 166 #[.int .i64 p] w fun e w' => e = .returned (.bool (prime31 p)) ∧ w = w' := by
  go_enter Tryz.func166, Tryz.ntmps166
  go_wp2
  go_loop [3] (fun d => ∃ k : Nat, 2 ≤ k ∧ k ≤ 32 ∧ ((k : Int) ≤ p ∨ k = 2) ∧ d = .int .i64 k ∧ noDiv p k) (fun d => 32 - (intOf d).toNat)
  case atStart => exact ⟨2, by omega, by omega, .inr rfl, rfl, noDiv_two p⟩
  case round =>
    obtain ⟨k, hk2, hk32, hkp, rfl, hn⟩ := hrel
    have Hn := Lib.hid hn
    clear hn
    by_cases hlt : (k : Int) < p
    · by_cases hb : k ≤ 31
      · by_cases hd : p % (k : Int) = 0
        · have H := Lib.hid (prime31_no p k hk2 hlt hd)
          have hd' : (p % (k : Int) == 0) = true := by simpa using hd
          clear hd hkp
          go_wp2
          go_ret
          exact ⟨ret_bool H.out.symm, rfl⟩
        · have hd' : (p % (k : Int) == 0) = false := by simpa using hd
          have H := Lib.hid (noDiv_succ Hn.out hd)
          clear hd hkp
          go_wp2
          go_round
          case rel => exact ⟨k + 1, by omega, by omega, .inl (by omega), by go_num, H.out⟩
          case measure => simp [intOf]; omega
      · have H := Lib.hid (prime31_hi p (by omega))
        clear hkp
        go_wp2_with (go_at_call 123; refine (lin_any _ _ _ _).mono ?_; rintro e w' ⟨rfl, rfl⟩)
        go_ret
        exact ⟨ret_bool (by rw [H.out]; simp <;> omega), rfl⟩
    · have H0 : prime31 p = (decide (2 ≤ p) && decide (p ≤ 31)) := by
        rcases hkp with h | rfl
        · by_cases h31 : p ≤ 31
          · rw [prime31_yes p (by omega) h31 k (by omega) Hn.out, decide_eq_true (by omega), decide_eq_true (by omega)]; rfl
          · rw [prime31_hi p (by omega), decide_eq_false (p := p ≤ 31) (by omega), Bool.and_false]
        · by_cases h2 : p < 2
          · rw [prime31_lo p h2, decide_eq_false (p := 2 ≤ p) (by omega), Bool.false_and]
          · rw [prime31_yes p (by omega) (by omega) 2 (by omega) Hn.out, decide_eq_true (by omega), decide_eq_true (by omega)]; rfl
      have H := Lib.hid H0
      clear hkp H0
      go_wp2_with (go_at_call 123; refine (lin_any _ _ _ _).mono ?_; rintro e w' ⟨rfl, rfl⟩)
      go_ret
      exact ⟨ret_bool H.out.symm, rfl⟩
end
section
open Go.RowKit
set_option linter.unusedSimpArgs false
set_option linter.unusedVariables false

/-- p is a prime in 2..31, n is in 1..8 -/
def sizesB (p n : Int) : Bool := prime31 p && (decide (1 ≤ n) && decide (n ≤ 8))

theorem sizes_no (p n : Int) (h : prime31 p = false) : sizesB p n = false := by simp [sizesB, h]
theorem sizes_of (p n : Int) (h : prime31 p = true) : sizesB p n = (decide (1 ≤ n) && decide (n ≤ 8)) := by simp [sizesB, h]

theorem isField_any (p n : Int) (w : World) :
    Calls Tryz.prog 98 #[.int .i64 p, .int .i64 n] w fun e w' => e = .returned (.bool (sizesB p n)) ∧ w = w' := by
  cases hp : prime31 p
  · have H := Lib.hid (sizes_no p n hp)
    go_enter Tryz.func98, Tryz.ntmps98
    go_wp2_with (go_at_call 126; refine (isPrime_any _ _).mono ?_; rintro e w' ⟨rfl, rfl⟩)
    go_ret
    exact ⟨ret_bool H.out.symm, rfl⟩
  · have H := Lib.hid (sizes_of p n hp)
    go_enter Tryz.func98, Tryz.ntmps98
    go_wp2_with (go_at_call 126; refine (isPrime_any _ _).mono ?_; rintro e w' ⟨rfl, rfl⟩)
    all_goals go_ret
    all_goals exact ⟨ret_bool (by rw [H.out]; simp <;> omega), rfl⟩

theorem l01Sizes_any (p n : Int) (w : World) :
    Calls Tryz.prog 147 #[.int .i64 p, .int .i64 n] w fun e w' => e = .returned (.bool (sizesB p n)) ∧ w = w' := by
  cases hp : prime31 p
  · have H := Lib.hid (sizes_no p n hp)
    go_enter Tryz.func147, Tryz.ntmps147
    go_wp2_with (go_at_call 166; refine (specPrime_any _ _).mono ?_; rintro e w' ⟨rfl, rfl⟩)
    go_ret
    exact ⟨ret_bool H.out.symm, rfl⟩
  · have H := Lib.hid (sizes_of p n hp)
    go_enter Tryz.func147, Tryz.ntmps147
    go_wp2_with (first | (go_at_call 166; refine (specPrime_any _ _).mono ?_; rintro e w' ⟨rfl, rfl⟩) | (go_at_call 123; refine (lin_any _ _ _ _).mono ?_; rintro e w' ⟨rfl, rfl⟩))
    go_ret
    exact ⟨ret_bool H.out.symm, rfl⟩

/-- each of the first n entries is a byte -/
def Bytes (n : Nat) (f : Nat → Int) : Prop := ∀ i, i < n → 0 ≤ f i ∧ f i ≤ 255

/-- entry i is a number modulo p, and 0 from n on -/
def entB (p n : Int) (v : Nat → Int) (i : Nat) : Bool := decide (v i < p) && (decide ((i : Int) < n) || decide (v i = 0))
/-- v is a vector for p and n -/
def vecB (p n : Int) (v : Nat → Int) : Bool := (List.range 8).all (entB p n v)

theorem vecB_no (p n : Int) (v : Nat → Int) (k : Nat) (hk : k < 8) (h : entB p n v k = false) : vecB p n v = false := by
  unfold vecB; rw [List.all_eq_false]; exact ⟨k, by simpa using hk, by simp [h]⟩
theorem vecB_yes (p n : Int) (v : Nat → Int) (h : ∀ i, i < 8 → entB p n v i = true) : vecB p n v = true := by
  unfold vecB; rw [List.all_eq_true]; intro i hi; exact h i (by simpa using hi)
theorem ent_succ {p n : Int} {v : Nat → Int} {k : Nat} (h : ∀ i, i < k → entB p n v i = true) (hk : entB p n v k = true) : ∀ i, i < k + 1 → entB p n v i = true := by
  intro i hi
  by_cases e : i = k
  · subst e; exact hk
  · exact h i (by omega)
theorem ent_ge {p n : Int} {v : Nat → Int} {k : Nat} (h : p ≤ v k) : entB p n v k = false := by
  unfold entB; rw [decide_eq_false (p := v k < p) (by omega), Bool.false_and]
theorem ent_lt {p n : Int} {v : Nat → Int} {k : Nat} (h : v k < p) (hn : (k : Int) < n) : entB p n v k = true := by
  simp [entB, h, hn]
theorem ent_zero {p n : Int} {v : Nat → Int} {k : Nat} (h : v k < p) (hn : v k = 0) : entB p n v k = true := by
  simp [entB, hn] at h ⊢; exact h
theorem ent_out {p n : Int} {v : Nat → Int} {k : Nat} (hk : n ≤ (k : Int)) (hn : v k ≠ 0) : entB p n v k = false := by
  unfold entB; rw [decide_eq_false (p := (k : Int) < n) (by omega), decide_eq_false hn]; simp

set_option maxRecDepth 100000 in
set_option maxHeartbeats 1000000 in
theorem isVector_any (p n : Int) (v : Nat → Int) (w : World) (hb : Bytes 8 v) :
    Calls Tryz.prog 97 #[.int .i64 p, .int .i64 n, .agg (row 8 v)] w fun e w' => e = .returned (.bool (sizesB p n && vecB p n v)) ∧ Below w.heap.size w w' := by
  have Hb := Lib.hid hb
  clear hb
  cases hs : sizesB p n
  · go_enter Tryz.func97, Tryz.ntmps97
    go_wp2_with (go_at_call 98; refine (isField_any _ _ _).mono ?_; rintro e w' ⟨rfl, rfl⟩)
    go_ret
    exact ⟨rfl, (Below.refl _ _).alloc (Nat.le_refl _) _⟩
  · go_enter Tryz.func97, Tryz.ntmps97
    go_wp2_with (go_at_call 98; refine (isField_any _ _ _).mono ?_; rintro e w' ⟨rfl, rfl⟩)
    go_loop [14] (fun i => ∃ k : Nat, k ≤ 8 ∧ i = .int .i64 k ∧ ∀ i, i < k → entB p n v i = true) (fun i => 8 - (intOf i).toNat)
    case atStart => exact ⟨0, by omega, rfl, fun i hi => by omega⟩
    case round =>
      obtain ⟨k, hk, rfl, hn⟩ := hrel
      have Hn := Lib.hid hn
      clear hn
      by_cases hlt : k < 8
      · have hb1 := (Hb.out k hlt).1
        have hb2 := (Hb.out k hlt).2
        by_cases h1 : p ≤ v k
        · have H := Lib.hid (vecB_no p n v k hlt (ent_ge h1))
          go_wp2
          go_ret
          exact ⟨ret_bool (by rw [H.out]), (Below.refl _ _).alloc (Nat.le_refl _) _⟩
        · have h1' : v k < p := by omega
          by_cases h2 : n ≤ (k : Int)
          · by_cases h3 : v k = 0
            · have H := Lib.hid (ent_succ Hn.out (ent_zero (n := n) h1' h3))
              have h3' : (v k != 0) = false := by simpa using h3
              have h3'' : (v k == 0) = true := by simpa using h3
              clear h3
              go_wp2
              go_round
              case rel => exact ⟨k + 1, by omega, by go_num, H.out⟩
              case measure => simp [intOf]; omega
            · have H := Lib.hid (vecB_no p n v k hlt (ent_out h2 h3))
              have h3' : (v k != 0) = true := by simpa using h3
              have h3'' : (v k == 0) = false := by simpa using h3
              clear h3
              go_wp2
              go_ret
              exact ⟨ret_bool (by rw [H.out]), (Below.refl _ _).alloc (Nat.le_refl _) _⟩
          · have H := Lib.hid (ent_succ Hn.out (ent_lt (n := n) h1' (by omega)))
            go_wp2
            go_round
            case rel => exact ⟨k + 1, by omega, by go_num, H.out⟩
            case measure => simp [intOf]; omega
      · have H := Lib.hid (vecB_yes p n v fun i hi => Hn.out i (by omega))
        go_wp2
        go_ret
        exact ⟨ret_bool (by rw [H.out]), (Below.refl _ _).alloc (Nat.le_refl _) _⟩

set_option maxRecDepth 100000 in
set_option maxHeartbeats 1000000 in
theorem l01Vector_any (p n : Int) (v : Nat → Int) (w : World) (hb : Bytes 8 v) :
    Calls Tryz.prog 64 #[.int .i64 p, .int .i64 n, .agg (row 8 v)] w fun e w' => e = .returned (.bool (vecB p n v)) ∧ Below w.heap.size w w' := by
  have Hb := Lib.hid hb
  clear hb
  go_enter Tryz.func64, Tryz.ntmps64
  go_wp2
  go_loop [7] (fun i => ∃ k : Nat, k ≤ 8 ∧ i = .int .i64 k ∧ ∀ i, i < k → entB p n v i = true) (fun i => 8 - (intOf i).toNat)
  case atStart => exact ⟨0, by omega, rfl, fun i hi => by omega⟩
  case round =>
    obtain ⟨k, hk, rfl, hn⟩ := hrel
    have Hn := Lib.hid hn
    clear hn
    by_cases hlt : k < 8
    · have hb1 := (Hb.out k hlt).1
      have hb2 := (Hb.out k hlt).2
      by_cases h1 : p ≤ v k
      · have H := Lib.hid (vecB_no p n v k hlt (ent_ge h1))
        go_wp2
        go_ret
        exact ⟨ret_bool (by rw [H.out]), (Below.refl _ _).alloc (Nat.le_refl _) _⟩
      · have h1' : v k < p := by omega
        by_cases h2 : n ≤ (k : Int)
        · by_cases h3 : v k = 0
          · have H := Lib.hid (ent_succ Hn.out (ent_zero (n := n) h1' h3))
            have h3' : (v k != 0) = false := by simpa using h3
            have h3'' : (v k == 0) = true := by simpa using h3
            clear h3
            go_wp2
            go_round
            case rel => exact ⟨k + 1, by omega, by go_num, H.out⟩
            case measure => simp [intOf]; omega
          · have H := Lib.hid (vecB_no p n v k hlt (ent_out h2 h3))
            have h3' : (v k != 0) = true := by simpa using h3
            have h3'' : (v k == 0) = false := by simpa using h3
            clear h3
            go_wp2
            go_ret
            exact ⟨ret_bool (by rw [H.out]), (Below.refl _ _).alloc (Nat.le_refl _) _⟩
        · have H := Lib.hid (ent_succ Hn.out (ent_lt (n := n) h1' (by omega)))
          go_wp2
          go_round
          case rel => exact ⟨k + 1, by omega, by go_num, H.out⟩
          case measure => simp [intOf]; omega
    · have H := Lib.hid (vecB_yes p n v fun i hi => Hn.out i (by omega))
      go_wp2
      go_ret
      exact ⟨ret_bool (by rw [H.out]), (Below.refl _ _).alloc (Nat.le_refl _) _⟩

/-! ### the laws' copies of arrays -/
/-- v up to k, zeros behind -/
def upto (k : Nat) (v : Nat → Int) : Nat → Int := fun j => if j < k then v j else 0
theorem upto_zero (v : Nat → Int) : upto 0 v = zf := by funext j; simp [upto, zf]
theorem upto_succ (k : Nat) (v : Nat → Int) : upd (upto k v) k (v k) = upto (k + 1) v := by
  funext j
  unfold upd upto
  by_cases e : j = k
  · subst e; simp
  · by_cases h : j < k
    · simp [e, h, show j < k + 1 by omega]
    · simp [e, h, show ¬ j < k + 1 by omega]
theorem upto_all (n : Nat) (v : Nat → Int) : row n (upto n v) = row n v := row_congr fun i hi => by simp [upto, hi]

set_option maxRecDepth 100000 in
set_option maxHeartbeats 1000000 in
theorem toVector_any (v : Nat → Int) (w : World) :
    Calls Tryz.prog 12 #[.agg (row 8 v)] w fun e w' => e = .returned (.agg (row 8 v)) ∧ Below w.heap.size w w' := by
  go_enter Tryz.func12, Tryz.ntmps12
  go_wp2
  go_loopw [4] (fun i wr => ∃ k : Nat, k ≤ 8 ∧ i = .int .i64 k ∧ wr = ((w.alloc (.cells (row 8 v) 22)).alloc (.cells (row 8 zf) 32)).alloc (.cells (row 8 (upto k v)) 32)) (fun i _ => 8 - (intOf i).toNat)
  case atStart => exact ⟨0, by omega, rfl, by rw [upto_zero]⟩
  case round =>
    obtain ⟨k, hk, rfl, rfl⟩ := hrel
    by_cases hlt : k < 8
    · go_wp2
      go_roundw
      case rel => exact ⟨k + 1, by omega, by go_num, by rw [upto_succ]⟩
      case measure => simp [intOf]; omega
    · obtain rfl : k = 8 := by omega
      rw [upto_all]
      go_wp2
      refine bodyPost_ret (result_cell rfl aggVec _ _ (row 8 v) _ rfl ?_ ?_) rfl ⟨rfl, ?_⟩
      · simp [go_sem]
      · simp [go_sem]
      · exact (((Below.refl _ _).alloc (Nat.le_refl _) _).alloc (by simp) _).alloc (by simp; omega) _
end
section
open Go.RowKit
set_option linter.unusedSimpArgs false
set_option linter.unusedVariables false

theorem ret_u8 {a b : Int} (h : a = b) : Ending.returned (.int .u8 a) = .returned (.int .u8 b) := by rw [h]

theorem timesNumber_any (p x y : Int) (w : World) (hp : 0 < p) (hp' : p ≤ 255) (hx : 0 ≤ x) (hx' : x ≤ 255) (hy : 0 ≤ y) (hy' : y ≤ 255) :
    Calls Tryz.prog 156 #[.int .i64 p, .int .u8 x, .int .u8 y] w fun e w' => e = .returned (.int .u8 (x * y % p)) ∧ w = w' := by
  have h1 := (prod_le x y 255 255 hx hy hx' hy').1
  have h2 := (prod_le x y 255 255 hx hy hx' hy').2
  have h3 := (mod_range (x * y) p hp).1
  have h4 := (mod_range (x * y) p hp).2
  go_enter Tryz.func156, Tryz.ntmps156
  go_wp2
  go_ret
  exact ⟨rfl, rfl⟩

theorem l01Mod_any (p x : Int) (w : World) (hp : 0 < p) (hp' : p ≤ 255) (_hx : -1000000 ≤ x) (_hx' : x ≤ 1000000) :
    Calls Tryz.prog 96 #[.int .i64 p, .int .i64 x] w fun e w' => e = .returned (.int .u8 (x % p)) ∧ w = w' := by
  have H := Lib.hid (tmod_emod_pos x p hp)
  have h3 := (mod_range x p hp).1
  have h4 := (mod_range x p hp).2
  have h5 := Int.lt_tmod_of_pos x hp
  have h6 := Int.tmod_lt_of_pos x hp
  go_enter Tryz.func96, Tryz.ntmps96
  go_wp2
  go_ret
  exact ⟨ret_u8 (by rw [H.out]; omega), rfl⟩

theorem basisVector_any (i : Int) (w : World) (h0 : 0 ≤ i) (h8 : i < 8) :
    Calls Tryz.prog 71 #[.int .i64 i] w fun e w' => e = .returned (.agg (row 8 (upd zf i.toNat 1))) ∧ Below w.heap.size w w' := by
  obtain ⟨k, rfl⟩ := Int.eq_ofNat_of_zero_le h0
  have hk : k < 8 := by omega
  go_enter Tryz.func71, Tryz.ntmps71
  go_wp2
  refine bodyPost_ret (result_cell rfl aggVec _ _ (row 8 (upd zf k 1)) _ rfl ?_ ?_) rfl ⟨rfl, ?_⟩
  · simp [go_sem]
  · simp [go_sem]
  · exact ((Below.refl _ _).alloc (Nat.le_refl _) _).alloc (by simp) _

theorem l01Basis_any (i : Int) (w : World) (h0 : 0 ≤ i) (h8 : i < 8) :
    Calls Tryz.prog 124 #[.int .i64 i] w fun e w' => e = .returned (.agg (row 8 (upd zf i.toNat 1))) ∧ Below w.heap.size w w' := by
  obtain ⟨k, rfl⟩ := Int.eq_ofNat_of_zero_le h0
  have hk : k < 8 := by omega
  go_enter Tryz.func124, Tryz.ntmps124
  go_wp2
  refine bodyPost_ret (result_cell rfl aggVec _ _ (row 8 (upd zf k 1)) _ rfl ?_ ?_) rfl ⟨rfl, ?_⟩
  · simp [go_sem]
  · simp [go_sem]
  · exact ((Below.refl _ _).alloc (Nat.le_refl _) _).alloc (by simp) _

/-! ### addMultiple -/
/-- f with c times g added modulo p to the m entries from off on, the first k of them -/
def addm (p : Int) (off k : Nat) (c : Int) (f g : Nat → Int) : Nat → Int := fun i => if off ≤ i ∧ i < off + k then (f i + c * g (i - off)) % p else f i
theorem addm_zero (p : Int) (off : Nat) (c : Int) (f g : Nat → Int) : addm p off 0 c f g = f := by
  funext i; unfold addm; rw [if_neg (by omega)]
theorem addm_at (p : Int) (off k : Nat) (c : Int) (f g : Nat → Int) : addm p off k c f g (off + k) = f (off + k) := by
  unfold addm; rw [if_neg (by omega)]
theorem addm_succ (p : Int) (off k : Nat) (c : Int) (f g : Nat → Int) : upd (addm p off k c f g) (off + k) ((f (off + k) + c * g k) % p) = addm p off (k + 1) c f g := by
  funext i
  unfold upd addm
  by_cases e : i = off + k
  · subst e
    rw [if_pos rfl, if_pos (by omega), Nat.add_sub_cancel_left]
  · rw [if_neg e]
    by_cases h : off ≤ i ∧ i < off + k
    · rw [if_pos h, if_pos (by omega)]
    · rw [if_neg h, if_neg (by omega)]
theorem addm_same (p : Int) (off k : Nat) (f g : Nat → Int) (h : ∀ i, off ≤ i → i < off + k → 0 ≤ f i ∧ f i < p) : addm p off k 0 f g = f := by
  funext i
  unfold addm
  split
  · rename_i hi
    rw [Int.zero_mul, Int.add_zero, Int.emod_eq_of_lt (h i hi.1 hi.2).1 (h i hi.1 hi.2).2]
  · rfl

theorem setRow_same {w : World} {b : Nat} (h : IsRow w b) : w.setRow b (blk w b) = w := by
  obtain ⟨t, h1⟩ := isRow_heap h
  exact setRow_self w b _ t (0, 0) h1

set_option maxRecDepth 100000 in
set_option maxHeartbeats 1000000 in
theorem addMultiple_any (p c : Int) (b off N m cap cap' b' off' : Nat) (f g : Nat → Int) (w : World) (hp : 0 < p) (hp' : p ≤ 255) (hc : 0 ≤ c) (hc' : c ≤ 255)
    (hr : IsRow w b) (hf : blk w b = row N f) (hN : off + m ≤ N) (hm : m ≤ 1000000) (hfr : ∀ i, off ≤ i → i < off + m → 0 ≤ f i ∧ f i < p)
    (hg : ∀ i, i < m → (blk w b')[off' + i]? = some (.int .u8 (g i)) ∧ 0 ≤ g i ∧ g i ≤ 255) (hbb : b' ≠ b) :
    Calls Tryz.prog 102 #[.int .i64 p, .slice (some ⟨b, off, none⟩) m cap, .int .u8 c, .slice (some ⟨b', off', none⟩) m cap'] w fun e w' =>
      e = .returned (.tuple #[]) ∧ w.setRow b (row N (addm p off m c f g)) = w' := by
  have Hg := Lib.hid hg
  have Hfr := Lib.hid hfr
  have HN := Lib.hid hN
  clear hg hfr
  by_cases hc0 : c = 0
  · subst hc0
    have H : Hid (w.setRow b (row N (addm p off m 0 f g)) = w) := by
      have : w.setRow b (row N (addm p off m 0 f g)) = w := by rw [addm_same p off m f g Hfr.out, ← hf]; exact setRow_same hr
      exact Lib.hid this
    go_enter Tryz.func102, Tryz.ntmps102
    go_wp2
    (try simp only [Exit.inBlock, Exit.then]); refine bodyPost_ret (results_none rfl _ _ _) rfl ⟨rfl, H.out⟩
  · have hc1 : (c == 0) = false := by simpa using hc0
    clear hc0
    have H0 : Hid (w = w.setRow b (row N (addm p off 0 c f g))) := by
      have : w = w.setRow b (row N (addm p off 0 c f g)) := by rw [addm_zero, ← hf]; exact (setRow_same hr).symm
      exact Lib.hid this
    go_enter Tryz.func102, Tryz.ntmps102
    go_wp2
    go_loopw [14] (fun i wr => ∃ k : Nat, k ≤ m ∧ i = .int .i64 k ∧ wr = w.setRow b (row N (addm p off k c f g))) (fun i _ => m - (intOf i).toNat)
    case atStart => exact ⟨0, by omega, rfl, H0.out⟩
    case round =>
      obtain ⟨k, hk, rfl, rfl⟩ := hrel
      by_cases hlt : k < m
      · have e1 := addm_at p off k c f g
        have e2 := (Hg.out k hlt).1
        have b1 := (Hg.out k hlt).2.1
        have b2 := (Hg.out k hlt).2.2
        have b3 := (Hfr.out (off + k) (by omega) (by omega)).1
        have b4 := (Hfr.out (off + k) (by omega) (by omega)).2
        have b5 := (prod_le c (g k) 255 255 hc b1 hc' b2).1
        have b6 := (prod_le c (g k) 255 255 hc b1 hc' b2).2
        have b7 := (mod_range (f (off + k) + c * g k) p hp).1
        have b8 := (mod_range (f (off + k) + c * g k) p hp).2
        have hlt2 : off + k < N := by omega
        go_wp2
        go_roundw
        case rel => exact ⟨k + 1, by omega, by go_num, by rw [addm_succ]⟩
        case measure => simp [intOf]; omega
      · obtain rfl : k = m := by omega
        go_wp2
        (try simp only [Exit.inBlock, Exit.then]); refine bodyPost_end (results_none rfl _ _ _) rfl ⟨rfl, rfl⟩

/-! ### l01Add -/
set_option maxRecDepth 100000 in
set_option maxHeartbeats 1000000 in
theorem l01Add_any (p c : Int) (f g : Nat → Int) (w : World) (hp : 0 < p) (hp' : p ≤ 255) (hc : -1000 ≤ c) (hc' : c ≤ 1000) (hf : Bytes 8 f) (hg : Bytes 8 g) :
    Calls Tryz.prog 66 #[.int .i64 p, .agg (row 8 f), .agg (row 8 g), .int .i64 c] w fun e w' => e = .returned (.agg (row 8 (addm p 0 8 c f g))) ∧ Below w.heap.size w w' := by
  have Hf := Lib.hid hf
  have Hg := Lib.hid hg
  clear hf hg
  have H0 : Hid (row 8 f = row 8 (addm p 0 0 c f g)) := by
    have : row 8 f = row 8 (addm p 0 0 c f g) := by rw [addm_zero]
    exact Lib.hid this
  go_enter Tryz.func66, Tryz.ntmps66
  go_wp2
  go_loopw [9] (fun i wr => ∃ k : Nat, k ≤ 8 ∧ i = .int .i64 k ∧ Below w.heap.size w wr ∧ IsRow wr w.heap.size ∧ blk wr w.heap.size = row 8 (addm p 0 k c f g) ∧
      IsRow wr (w.heap.size + 1) ∧ blk wr (w.heap.size + 1) = row 8 g ∧ IsRow wr (w.heap.size + 2) ∧ blk wr (w.heap.size + 2) = row 8 zf) (fun i _ => 8 - (intOf i).toNat)
  case atStart =>
    refine ⟨0, by omega, rfl, (((Below.refl _ _).alloc (Nat.le_refl _) _).alloc (by simp) _).alloc (by simp; omega) _, by simp [go_sem], ?_, by simp [go_sem], ?_, by simp [go_sem], ?_⟩
    · rw [← H0.out]; simp [go_sem]
    · simp [go_sem]
    · simp [go_sem]
  case round =>
    obtain ⟨k, hk, rfl, hb, r0, c0, r1, c1, r2, c2⟩ := hrel
    by_cases hlt : k < 8
    · have e1 := addm_at p 0 k c f g
      rw [Nat.zero_add] at e1
      have b1 := (Hf.out k hlt).1
      have b2 := (Hf.out k hlt).2
      have b3 := (Hg.out k hlt).1
      have b4 := (Hg.out k hlt).2
      have z0 := isRow_lt r0
      have z1 := isRow_lt r1
      have z2 := isRow_lt r2
      have p1 : -255000 ≤ c * g k := by
        have := Int.mul_le_mul_of_nonneg_right hc b3
        have : (-1000 : Int) * 255 ≤ -1000 * g k := by omega
        omega
      have p2 : c * g k ≤ 255000 := by
        have := Int.mul_le_mul_of_nonneg_right hc' b3
        omega
      have q3 : IntKind.i64.wrap (f k) = f k := IntWalk.i64_in _ (by omega)
      have q4 : IntKind.i64.wrap (g k) = g k := IntWalk.i64_in _ (by omega)
      have q1 : IntKind.i64.wrap (c * g k) = c * g k := IntWalk.i64_in _ (by omega)
      have q2 : IntKind.i64.wrap (f k + c * g k) = f k + c * g k := IntWalk.i64_in _ (by omega)
      have HC : ∀ W, Below wr.heap.size wr W → (IsRow W w.heap.size ∧ blk W w.heap.size = row 8 (addm p 0 k c f g)) ∧ (IsRow W (w.heap.size + 1) ∧ blk W (w.heap.size + 1) = row 8 g) := fun W h => ⟨keepB h z0 r0 c0, keepB h z1 r1 c1⟩
      go_wp2
      refine wp_quiet_tail 15 (Below wr.heap.size wr) (by kernel_rfl) (by kernel_rfl) (Below.refl _ _).drew ?_
      simp only [List.take_succ_cons, List.take_zero, List.drop_succ_cons, List.drop_zero]
      repeat (first | (refine q_skip (by rfl) ?_; simp only [Act.put, List.setIfInBounds_toArray, List.set_cons_zero, List.set_cons_succ]) | (refine q_want (by rfl) ?_; apply Exists.intro; refine ⟨fun W hW => ?_, ?_⟩; (focus (obtain ⟨⟨x1, x2⟩, x3, x4⟩ := HC W hW; go_simp; first | done | rfl | ((go_at_call 96; exact (l01Mod_any _ _ _ hp hp' (by omega) (by omega)).mono fun e w2 ⟨he, hw2⟩ => ⟨he, hw2 ▸ hW⟩)))); simp only [Act.put, List.setIfInBounds_toArray, List.set_cons_zero, List.set_cons_succ]))
      refine wpQuiet_nil ?_
      intro W hW
      obtain ⟨⟨x1, x2⟩, x3, x4⟩ := HC W hW
      have y1 := keepB hW z2 r2 c2
      clear q1 q2 q3 q4
      go_wp2
      have hs := addm_succ p 0 k c f g
      rw [Nat.zero_add] at hs
      go_roundw
      case rel =>
        refine ⟨k + 1, by omega, by go_num, (hb.trans (hW.mono hb.size)).trans (below_setRow (Below.refl _ _) (Nat.le_refl _) _), by simp [go_sem, x1], by simp [go_sem, x1, hs], by simp [go_sem, x3], by simp [go_sem, x1, x4], by simp [go_sem, y1.1], by simp [go_sem, x1, y1.2]⟩
      case measure => simp [intOf]; omega
    · obtain rfl : k = 8 := by omega
      go_wp2
      refine bodyPost_ret (result_cell rfl aggVec _ _ (row 8 (addm p 0 8 c f g)) _ rfl ?_ ?_) rfl ⟨rfl, ?_⟩
      · simp [go_sem, r2, c2]
      · simp [go_sem, r2, c2]
      · exact hb.trans (below_setRow (Below.refl _ _) (by omega) _)
end
section
open Go.RowKit
set_option linter.unusedSimpArgs false
set_option linter.unusedVariables false

theorem bytes_mod {p : Int} (hp : 0 < p) (hp' : p ≤ 255) (g : Nat → Int) : Bytes 8 fun k => g k % p := fun i _ => ⟨(mod_range (g i) p hp).1, Int.le_trans (Int.le_of_lt (mod_range (g i) p hp).2) hp'⟩
theorem addm_row {p c : Int} {f g h : Nat → Int} (e : ∀ i, i < 8 → (f i + c * g i) % p = h i) : row 8 (addm p 0 8 c f g) = row 8 h :=
  row_congr fun i hi => by
    unfold addm
    rw [if_pos (by omega), Nat.sub_zero, e i hi]

set_option maxRecDepth 100000 in
set_option maxHeartbeats 1000000 in
theorem l01Apply_any (p : Int) (n : Nat) (F v : Nat → Int) (w : World) (hp : 0 < p) (hp' : p ≤ 255) (hn : n ≤ 8) (hF : Bytes 64 F) (hv : Bytes 8 v) :
    Calls Tryz.prog 33 #[.int .i64 p, .int .i64 n, .agg (row 64 F), .agg (row 8 v)] w fun e w' =>
      e = .returned (.agg (row 8 (appF p n (fun j k => F (j * 8 + k)) v))) ∧ Below w.heap.size w w' := by
  have HF := Lib.hid hF
  have Hv := Lib.hid hv
  clear hF hv
  have H0 : Hid (row 8 zf = row 8 (appF p 0 (fun j k => F (j * 8 + k)) v)) := by
    have : row 8 zf = row 8 (appF p 0 (fun j k => F (j * 8 + k)) v) := row_congr fun i _ => by simp [appF, sumTo, zf]
    exact Lib.hid this
  go_enter Tryz.func33, Tryz.ntmps33
  go_wp2
  go_loopw [10] (fun i wr => ∃ k : Nat, k ≤ n ∧ i = .int .i64 k ∧ Below w.heap.size w wr ∧ (IsRow wr w.heap.size ∧ blk wr w.heap.size = row 64 F) ∧ (IsRow wr (w.heap.size + 1) ∧ blk wr (w.heap.size + 1) = row 8 v) ∧
      (IsRow wr (w.heap.size + 2) ∧ blk wr (w.heap.size + 2) = row 8 zf) ∧ (IsRow wr (w.heap.size + 3) ∧ blk wr (w.heap.size + 3) = row 8 (appF p k (fun j k => F (j * 8 + k)) v))) (fun i _ => n - (intOf i).toNat)
  case atStart =>
    refine ⟨0, by omega, rfl, ((((Below.refl _ _).alloc (Nat.le_refl _) _).alloc (by simp) _).alloc (by simp; omega) _).alloc (by simp; omega) _, by simp [go_sem], by simp [go_sem], by simp [go_sem], by simp [go_sem], ?_⟩
    rw [← H0.out]; simp [go_sem]
  case round =>
    obtain ⟨k, hk, rfl, hb, ⟨r0, c0⟩, ⟨r1, c1⟩, ⟨r2, c2⟩, ⟨r3, c3⟩⟩ := hrel
    have z0 := isRow_lt r0
    have z1 := isRow_lt r1
    have z2 := isRow_lt r2
    have z3 := isRow_lt r3
    by_cases hlt : k < n
    · have hlt8 : k < 8 := by omega
      have hi8 : (k : Int) < 8 := by omega
      have hk8 : k * 8 + 8 ≤ 64 := by omega
      have b1 := (Hv.out k hlt8).1
      have b2 := (Hv.out k hlt8).2
      by_cases hv0 : v k = 0
      · have H := Lib.hid (fun i => app_skip p k (fun j k => F (j * 8 + k)) v i hv0)
        have hv1 : (v k != 0) = false := by simpa using hv0
        clear hv0
        go_wp2
        go_roundw
        case rel => exact ⟨k + 1, by omega, by go_num, hb, ⟨r0, c0⟩, ⟨r1, c1⟩, ⟨r2, c2⟩, r3, by rw [c3]; exact row_congr fun i _ => H.out i⟩
        case measure => simp [intOf]; omega
      · have hv1 : (v k != 0) = true := by simpa using hv0
        clear hv0
        have q1 : IntKind.i64.wrap (v k) = v k := IntWalk.i64_in _ (by omega)
        have HG : Hid (Bytes 8 fun i => F (k * 8 + i)) := Lib.hid fun i hi => HF.out (k * 8 + i) (by omega)
        have HA : Hid (Bytes 8 (appF p k (fun j k => F (j * 8 + k)) v)) := Lib.hid (bytes_mod hp hp' _)
        have HC : ∀ W, Below wr.heap.size wr W → (IsRow W w.heap.size ∧ blk W w.heap.size = row 64 F) ∧ (IsRow W (w.heap.size + 1) ∧ blk W (w.heap.size + 1) = row 8 v) ∧ (IsRow W (w.heap.size + 3) ∧ blk W (w.heap.size + 3) = row 8 (appF p k (fun j k => F (j * 8 + k)) v)) :=
          fun W h => ⟨keepB h z0 r0 c0, keepB h z1 r1 c1, keepB h z3 r3 c3⟩
        go_wp2
        refine wp_quiet_tail 10 (Below wr.heap.size wr) (by kernel_rfl) (by kernel_rfl) (Below.refl _ _).drew ?_
        simp only [List.take_succ_cons, List.take_zero, List.drop_succ_cons, List.drop_zero]
        repeat (first | (refine q_skip (by rfl) ?_; simp only [Act.put, List.setIfInBounds_toArray, List.set_cons_zero, List.set_cons_succ]) | (refine q_want (by rfl) ?_; apply Exists.intro; refine ⟨fun W hW => ?_, ?_⟩; (focus (obtain ⟨⟨x1, x2⟩, ⟨x3, x4⟩, x5, x6⟩ := HC W hW; go_simp; first | done | rfl | ((go_at_call 66; exact (l01Add_any _ _ _ _ _ hp hp' (by omega) (by omega) HA.out HG.out).mono fun e w2 ⟨he, hw2⟩ => ⟨he, hW.trans (hw2.mono hW.size)⟩)))); simp only [Act.put, List.setIfInBounds_toArray, List.set_cons_zero, List.set_cons_succ]))
        refine wpQuiet_nil ?_
        intro W hW
        obtain ⟨⟨x1, x2⟩, ⟨x3, x4⟩, x5, x6⟩ := HC W hW
        have y1 := keepB hW z2 r2 c2
        go_wp2
        go_roundw
        case rel =>
          refine ⟨k + 1, by omega, by go_num, (hb.trans (hW.mono hb.size)).trans (below_setRow (Below.refl _ _) (by omega) _), by simp [go_sem, x1, x2, x5], by simp [go_sem, x3, x4, x5], by simp [go_sem, y1, x5], by simp [go_sem, x5], ?_⟩
          rw [blk_setRow _ _ _ _ x5, if_pos rfl]
          exact addm_row fun i _ => app_step p k (fun j k => F (j * 8 + k)) v i
        case measure => simp [intOf]; omega
    · obtain rfl : k = n := by omega
      go_wp2
      refine bodyPost_ret (result_cell rfl aggVec _ _ (row 8 (appF p k (fun j k => F (j * 8 + k)) v)) _ rfl ?_ ?_) rfl ⟨rfl, ?_⟩
      · simp [go_sem, r2, c2]
      · simp [go_sem, r2, c2]
      · exact hb.trans (below_setRow (Below.refl _ _) (by omega) _)
end
section
open Go.RowKit
set_option linter.unusedSimpArgs false
set_option linter.unusedVariables false

/-- the entry k of the product of e(i) and e(j) -/
def mtab (f : Nat → Int) (i j k : Nat) : Int := tab f (i * 64 + (j * 8 + k))
theorem tab_bytes {f : Nat → Int} (h : Bytes 520 f) : Bytes 512 (tab f) := fun i hi => h (8 + i) (by omega)

set_option maxRecDepth 100000 in
set_option maxHeartbeats 600000 in
theorem l01Times_any (p : Int) (n : Nat) (f v u : Nat → Int) (w : World) (hp : 0 < p) (hp' : p ≤ 255) (hn : n ≤ 8) (hF : Bytes 520 f) (hv : Bytes 8 v) (hu : Bytes 8 u) :
    Calls Tryz.prog 85 #[.agg (alg p n f), .agg (row 8 v), .agg (row 8 u)] w fun e w' =>
      e = .returned (.agg (row 8 (mulF p n (mtab f) v u))) ∧ Below w.heap.size w w' := by
  have HF := Lib.hid hF
  have Hv := Lib.hid hv
  have Hu := Lib.hid hu
  clear hF hv hu
  have H0 : Hid (row 8 zf = row 8 (timesF p n (mtab f) v u 0)) := by
    have : row 8 zf = row 8 (timesF p n (mtab f) v u 0) := row_congr fun i _ => by simp [timesF, sumTo, zf]
    exact Lib.hid this
  go_enter Tryz.func85, Tryz.ntmps85
  go_wp2
  go_loopw [8] (fun i wr => ∃ k : Nat, k ≤ n ∧ i = .int .i64 k ∧ Below w.heap.size w wr ∧ (IsRow wr w.heap.size ∧ blk wr w.heap.size = alg p n f) ∧ (IsRow wr (w.heap.size + 1) ∧ blk wr (w.heap.size + 1) = row 8 v) ∧
      (IsRow wr (w.heap.size + 2) ∧ blk wr (w.heap.size + 2) = row 8 u) ∧ (IsRow wr (w.heap.size + 3) ∧ blk wr (w.heap.size + 3) = row 8 zf) ∧ (IsRow wr (w.heap.size + 4) ∧ blk wr (w.heap.size + 4) = row 8 (timesF p n (mtab f) v u k))) (fun i _ => n - (intOf i).toNat)
  case atStart =>
    refine ⟨0, by omega, rfl, (((((Below.refl _ _).alloc (Nat.le_refl _) _).alloc (by simp) _).alloc (by simp; omega) _).alloc (by simp; omega) _).alloc (by simp; omega) _, by simp [go_sem], by simp [go_sem], by simp [go_sem], by simp [go_sem], by simp [go_sem], ?_⟩
    rw [← H0.out]; simp [go_sem]
  case round =>
    obtain ⟨k, hk, rfl, hb, ⟨r0, c0⟩, ⟨r1, c1⟩, ⟨r2, c2⟩, ⟨r3, c3⟩, ⟨r4, c4⟩⟩ := hrel
    have z0 := isRow_lt r0
    have z1 := isRow_lt r1
    have z2 := isRow_lt r2
    have z3 := isRow_lt r3
    have z4 := isRow_lt r4
    by_cases hlt : k < n
    · have hlt8 : k < 8 := by omega
      have hi8 : (k : Int) < 8 := by omega
      have hk8 : 10 + k * 64 + 64 ≤ 522 := by omega
      have b1 := (Hv.out k hlt8).1
      have b2 := (Hv.out k hlt8).2
      by_cases hv0 : v k = 0
      · have H := Lib.hid (fun i => times_skip p n (mtab f) v u k i hv0)
        have hv1 : (v k != 0) = false := by simpa using hv0
        clear hv0
        go_wp2
        go_roundw
        case rel => exact ⟨k + 1, by omega, by go_num, hb, ⟨r0, c0⟩, ⟨r1, c1⟩, ⟨r2, c2⟩, ⟨r3, c3⟩, r4, by rw [c4]; exact row_congr fun i _ => H.out i⟩
        case measure => simp [intOf]; omega
      · have hv1 : (v k != 0) = true := by simpa using hv0
        clear hv0
        have q1 : IntKind.i64.wrap (v k) = v k := IntWalk.i64_in _ (by omega)
        have HG : Hid (Bytes 64 fun t => tab f (k * 64 + t)) := Lib.hid fun i hi => tab_bytes HF.out (k * 64 + i) (by omega)
        have HA : Hid (Bytes 8 (timesF p n (mtab f) v u k)) := Lib.hid (bytes_mod hp hp' _)
        have HB : Hid (Bytes 8 (appF p n (mtab f k) u)) := Lib.hid (bytes_mod hp hp' _)
        have HC : ∀ W, Below wr.heap.size wr W → (IsRow W w.heap.size ∧ blk W w.heap.size = alg p n f) ∧ (IsRow W (w.heap.size + 1) ∧ blk W (w.heap.size + 1) = row 8 v) ∧ (IsRow W (w.heap.size + 2) ∧ blk W (w.heap.size + 2) = row 8 u) ∧ (IsRow W (w.heap.size + 4) ∧ blk W (w.heap.size + 4) = row 8 (timesF p n (mtab f) v u k)) :=
          fun W h => ⟨keepB h z0 r0 c0, keepB h z1 r1 c1, keepB h z2 r2 c2, keepB h z4 r4 c4⟩
        go_wp2
        refine wp_quiet_tail 18 (Below wr.heap.size wr) (by kernel_rfl) (by kernel_rfl) (Below.refl _ _).drew ?_
        simp only [List.take_succ_cons, List.take_zero, List.drop_succ_cons, List.drop_zero]
        repeat (first | (refine q_skip (by rfl) ?_; simp only [Act.put, List.setIfInBounds_toArray, List.set_cons_zero, List.set_cons_succ]) | (refine q_want (by rfl) ?_; apply Exists.intro; refine ⟨fun W hW => ?_, ?_⟩; (focus (obtain ⟨⟨x1, x2⟩, ⟨x3, x4⟩, ⟨x5, x6⟩, x7, x8⟩ := HC W hW; go_simp; first | done | rfl | (first | (go_at_call 33; exact (l01Apply_any _ _ _ _ _ hp hp' hn HG.out Hu.out).mono fun e w2 ⟨he, hw2⟩ => ⟨he, hW.trans (hw2.mono hW.size)⟩) | (go_at_call 66; exact (l01Add_any _ _ _ _ _ hp hp' (by omega) (by omega) HA.out HB.out).mono fun e w2 ⟨he, hw2⟩ => ⟨he, hW.trans (hw2.mono hW.size)⟩)))); simp only [Act.put, List.setIfInBounds_toArray, List.set_cons_zero, List.set_cons_succ]))
        refine wpQuiet_nil ?_
        intro W hW
        obtain ⟨⟨x1, x2⟩, ⟨x3, x4⟩, ⟨x5, x6⟩, x7, x8⟩ := HC W hW
        have y1 := keepB hW z3 r3 c3
        go_wp2
        go_roundw
        case rel =>
          refine ⟨k + 1, by omega, by go_num, (hb.trans (hW.mono hb.size)).trans (below_setRow (Below.refl _ _) (by omega) _), by simp [go_sem, x1, x2, x7], by simp [go_sem, x3, x4, x7], by simp [go_sem, x5, x6, x7], by simp [go_sem, y1, x7], by simp [go_sem, x7], ?_⟩
          rw [blk_setRow _ _ _ _ x7, if_pos rfl]
          exact addm_row fun i _ => times_step p n (mtab f) v u k i
        case measure => simp [intOf]; omega
    · obtain rfl : k = n := by omega
      have HT : Hid (row 8 (timesF p k (mtab f) v u k) = row 8 (mulF p k (mtab f) v u)) := by
        have : row 8 (timesF p k (mtab f) v u k) = row 8 (mulF p k (mtab f) v u) := row_congr fun i _ => times_all p k (mtab f) v u i
        exact Lib.hid this
      rw [HT.out] at c4
      go_wp2
      refine bodyPost_ret (result_cell rfl aggVec _ _ (row 8 (mulF p k (mtab f) v u)) _ rfl ?_ ?_) rfl ⟨rfl, ?_⟩
      · simp [go_sem, r3, c3]
      · simp [go_sem, r3, c3]
      · exact hb.trans (below_setRow (Below.refl _ _) (by omega) _)

theorem alg_at (p n : Int) (f : Nat → Int) (i j t : Nat) (hi : i < 8) (hj : j < 8) (ht : t < 8) : (alg p n f)[10 + i * 64 + j * 8 + t]? = some (.int .u8 (mtab f i j t)) := by
  rw [alg_get p n f _ (by omega) (by omega)]
  unfold mtab tab
  congr 3
  omega

set_option maxRecDepth 100000 in
set_option maxHeartbeats 1000000 in
theorem multiply_any (p : Int) (n : Nat) (f v u : Nat → Int) (w : World) (hp : 0 < p) (hp' : p ≤ 255) (hn : n ≤ 8) (hF : Bytes 520 f) (hv : Bytes 8 v) (hu : Bytes 8 u) :
    Calls Tryz.prog 146 #[.agg (alg p n f), .agg (row 8 v), .agg (row 8 u)] w fun e w' =>
      e = .returned (.agg (row 8 (mulF p n (mtab f) v u))) ∧ Below w.heap.size w w' := by
  have HF := Lib.hid hF
  have Hv := Lib.hid hv
  have Hu := Lib.hid hu
  clear hF hv hu
  have H0 : Hid (row 8 zf = row 8 (accF p n (mtab f) v u 0 0)) := by
    have : row 8 zf = row 8 (accF p n (mtab f) v u 0 0) := row_congr fun i _ => by rw [acc_zero]; rfl
    exact Lib.hid this
  go_enter Tryz.func146, Tryz.ntmps146
  go_wp2
  go_loopw [12] (fun s wr => ∃ i : Nat, i ≤ n ∧ s = .int .i64 i ∧ Below w.heap.size w wr ∧ (IsRow wr w.heap.size ∧ blk wr w.heap.size = alg p n f) ∧ (IsRow wr (w.heap.size + 1) ∧ blk wr (w.heap.size + 1) = row 8 v) ∧
      (IsRow wr (w.heap.size + 2) ∧ blk wr (w.heap.size + 2) = row 8 u) ∧ (IsRow wr (w.heap.size + 3) ∧ blk wr (w.heap.size + 3) = row 8 zf) ∧ (IsRow wr (w.heap.size + 4) ∧ blk wr (w.heap.size + 4) = row 8 (accF p n (mtab f) v u i 0))) (fun s _ => n - (intOf s).toNat)
  case atStart =>
    refine ⟨0, by omega, rfl, (((((Below.refl _ _).alloc (Nat.le_refl _) _).alloc (by simp) _).alloc (by simp; omega) _).alloc (by simp; omega) _).alloc (by simp; omega) _, by simp [go_sem], by simp [go_sem], by simp [go_sem], by simp [go_sem], by simp [go_sem], ?_⟩
    rw [← H0.out]; simp [go_sem]
  case round =>
    obtain ⟨i, hi, rfl, hb, ⟨r0, c0⟩, ⟨r1, c1⟩, ⟨r2, c2⟩, ⟨r3, c3⟩, ⟨r4, c4⟩⟩ := hrel
    by_cases hlt : i < n
    · have hlt8 : i < 8 := by omega
      have hi8 : (i : Int) < 8 := by omega
      have b1 := (Hv.out i hlt8).1
      have b2 := (Hv.out i hlt8).2
      by_cases hv0 : v i = 0
      · have HT : Hid (row 8 (accF p n (mtab f) v u i 0) = row 8 (accF p n (mtab f) v u (i + 1) 0)) := by
          have : row 8 (accF p n (mtab f) v u i 0) = row 8 (accF p n (mtab f) v u (i + 1) 0) := row_congr fun t _ => acc_skip p n (mtab f) v u i t hv0
          exact Lib.hid this
        rw [HT.out] at c4
        have hv1 : (v i == 0) = true := by simpa using hv0
        clear hv0 HT
        go_wp2
        go_roundw
        case rel => exact ⟨i + 1, by omega, by go_num, hb, ⟨r0, c0⟩, ⟨r1, c1⟩, ⟨r2, c2⟩, ⟨r3, c3⟩, r4, c4⟩
        case measure => simp [intOf]; omega
      have hv1 : (v i == 0) = false := by simpa using hv0
      clear hv0
      go_wp2
      obtain ⟨wo, rfl⟩ : ∃ wo : World, wo = wr := ⟨_, rfl⟩
      go_loopw [21] (fun s wr => ∃ j : Nat, j ≤ n ∧ s = .int .i64 j ∧ Below w.heap.size w wr ∧ (IsRow wr w.heap.size ∧ blk wr w.heap.size = alg p n f) ∧ (IsRow wr (w.heap.size + 1) ∧ blk wr (w.heap.size + 1) = row 8 v) ∧
          (IsRow wr (w.heap.size + 2) ∧ blk wr (w.heap.size + 2) = row 8 u) ∧ (IsRow wr (w.heap.size + 3) ∧ blk wr (w.heap.size + 3) = row 8 zf) ∧ (IsRow wr (w.heap.size + 4) ∧ blk wr (w.heap.size + 4) = row 8 (accF p n (mtab f) v u i j))) (fun s _ => n - (intOf s).toNat)
      case atStart => exact ⟨0, by omega, rfl, hb, ⟨r0, c0⟩, ⟨r1, c1⟩, ⟨r2, c2⟩, ⟨r3, c3⟩, r4, c4⟩
      case round =>
        obtain ⟨j, hj, rfl, hb', ⟨s0, d0⟩, ⟨s1, d1⟩, ⟨s2, d2⟩, ⟨s3, d3⟩, ⟨s4, d4⟩⟩ := hrel
        clear hb r0 c0 r1 c1 r2 c2 r3 c3 r4 c4
        have z0 := isRow_lt s0
        have z1 := isRow_lt s1
        have z2 := isRow_lt s2
        have z3 := isRow_lt s3
        have z4 := isRow_lt s4
        by_cases hjt : j < n
        · have hj8' : j < 8 := by omega
          have hj8 : (j : Int) < 8 := by omega
          have b3 := (Hu.out j hj8').1
          have b4 := (Hu.out j hj8').2
          have m1 := (mod_range (v i * u j) p hp).1
          have m2 := (mod_range (v i * u j) p hp).2
          have HG : Hid (∀ t, t < 8 → 0 ≤ mtab f i j t ∧ mtab f i j t ≤ 255) := Lib.hid fun t ht => tab_bytes HF.out (i * 64 + (j * 8 + t)) (by omega)
          have HA : Hid (∀ t, 0 ≤ t → t < 0 + 8 → 0 ≤ accF p n (mtab f) v u i j t ∧ accF p n (mtab f) v u i j t < p) := Lib.hid fun t _ _ => acc_range p hp n (mtab f) v u i j t
          have HC : ∀ W, Below wr.heap.size wr W → (IsRow W w.heap.size ∧ blk W w.heap.size = alg p n f) ∧ (IsRow W (w.heap.size + 1) ∧ blk W (w.heap.size + 1) = row 8 v) ∧ (IsRow W (w.heap.size + 2) ∧ blk W (w.heap.size + 2) = row 8 u) ∧ (IsRow W (w.heap.size + 4) ∧ blk W (w.heap.size + 4) = row 8 (accF p n (mtab f) v u i j)) :=
            fun W h => ⟨keepB h z0 s0 d0, keepB h z1 s1 d1, keepB h z2 s2 d2, keepB h z4 s4 d4⟩
          go_wp2
          refine wp_quiet_tail 18 (Below wr.heap.size wr) (by kernel_rfl) (by kernel_rfl) (Below.refl _ _).drew ?_
          simp only [List.take_succ_cons, List.take_zero, List.drop_succ_cons, List.drop_zero]
          repeat (first | (refine q_skip (by rfl) ?_; simp only [Act.put, List.setIfInBounds_toArray, List.set_cons_zero, List.set_cons_succ]) | (refine q_want (by rfl) ?_; apply Exists.intro; refine ⟨fun W hW => ?_, ?_⟩; (focus (obtain ⟨⟨x1, x2⟩, ⟨x3, x4⟩, ⟨x5, x6⟩, x7, x8⟩ := HC W hW; go_simp; first | done | rfl | ((go_at_call 156; exact (timesNumber_any _ _ _ _ hp hp' b1 b2 b3 b4).mono fun e w2 ⟨he, hw2⟩ => ⟨he, hw2 ▸ hW⟩)))); simp only [Act.put, List.setIfInBounds_toArray, List.set_cons_zero, List.set_cons_succ]))
          refine wpQuiet_nil ?_
          intro W hW
          obtain ⟨⟨x1, x2⟩, ⟨x3, x4⟩, ⟨x5, x6⟩, x7, x8⟩ := HC W hW
          have y1 := keepB hW z3 s3 d3
          go_wp2_with (go_at_call 102; refine (addMultiple_any p _ _ 0 8 8 8 8 _ _ (accF p n (mtab f) v u i j) (mtab f i j) _ hp hp' m1 (by omega) x7 x8 (by omega) (by omega) HA.out (fun t ht => ⟨by rw [x2]; exact alg_at p n f i j t hlt8 hj8' ht, HG.out t ht⟩) (by omega)).mono ?_; rintro e w2 ⟨rfl, rfl⟩)
          go_roundw
          case rel =>
            refine ⟨j + 1, by omega, by go_num, (hb'.trans (hW.mono hb'.size)).trans (below_setRow (Below.refl _ _) (by omega) _), by simp [go_sem, x1, x2, x7], by simp [go_sem, x3, x4, x7], by simp [go_sem, x5, x6, x7], by simp [go_sem, y1, x7], by simp [go_sem, x7], ?_⟩
            rw [blk_setRow _ _ _ _ x7, if_pos rfl]
            exact addm_row fun t _ => acc_step p n (mtab f) v u i j t
          case measure => simp [intOf]; omega
        · obtain rfl : j = n := by omega
          have HT : Hid (row 8 (accF p j (mtab f) v u i j) = row 8 (accF p j (mtab f) v u (i + 1) 0)) := by
            have : row 8 (accF p j (mtab f) v u i j) = row 8 (accF p j (mtab f) v u (i + 1) 0) := row_congr fun t _ => acc_row p j (mtab f) v u i t
            exact Lib.hid this
          rw [HT.out] at d4
          go_wp2
          go_roundw
          case rel => exact ⟨i + 1, by omega, by go_num, hb', ⟨s0, d0⟩, ⟨s1, d1⟩, ⟨s2, d2⟩, ⟨s3, d3⟩, s4, d4⟩
          case measure => simp [intOf]; omega
    · obtain rfl : i = n := by omega
      have HT : Hid (row 8 (accF p i (mtab f) v u i 0) = row 8 (mulF p i (mtab f) v u)) := by
        have : row 8 (accF p i (mtab f) v u i 0) = row 8 (mulF p i (mtab f) v u) := row_congr fun t _ => acc_all p i (mtab f) v u t
        exact Lib.hid this
      rw [HT.out] at c4
      go_wp2
      refine bodyPost_ret (result_cell rfl aggVec _ _ (row 8 (mulF p i (mtab f) v u)) _ rfl ?_ ?_) rfl ⟨rfl, ?_⟩
      · simp [go_sem, r3, c3]
      · simp [go_sem, r3, c3]
      · exact hb.trans (below_setRow (Below.refl _ _) (by omega) _)
end
section
open Go.RowKit
set_option linter.unusedSimpArgs false
set_option linter.unusedVariables false

/-! ### plain -/
theorem sizes_range {p n : Int} (h : sizesB p n = true) : 2 ≤ p ∧ p ≤ 31 ∧ 1 ≤ n ∧ n ≤ 8 := by
  unfold sizesB prime31 at h
  simp only [Bool.and_eq_true, decide_eq_true_eq] at h
  exact ⟨h.1.1.1, h.1.1.2, h.2.1, h.2.2⟩
theorem vecB_iff (p n : Int) (v : Nat → Int) : vecB p n v = true ↔ ∀ i, i < 8 → v i < p ∧ ((i : Int) < n ∨ v i = 0) := by
  unfold vecB entB
  simp only [List.all_eq_true, List.mem_range, Bool.and_eq_true, Bool.or_eq_true, decide_eq_true_eq]
/-- row i of F as a vector -/
def rowOf (m : Nat) (F : Nat → Int) (i : Nat) : Nat → Int := fun t => F (i * m + t)
/-- row i of a linear map -/
def entL (p n : Int) (F : Nat → Int) (i : Nat) : Bool := vecB p n (rowOf 8 F i) && (decide ((i : Int) < n) || segEq 0 8 (rowOf 8 F i) zf)
def linB (p n : Int) (F : Nat → Int) : Bool := (List.range 8).all (entL p n F)
/-- row i of a table -/
def entT (p n : Int) (F : Nat → Int) (i : Nat) : Bool := linB p n (rowOf 64 F i) && (decide ((i : Int) < n) || segEq 0 64 (rowOf 64 F i) zf)
def tabB (p n : Int) (F : Nat → Int) : Bool := (List.range 8).all (entT p n F)
def shapeB (p n : Int) (f : Nat → Int) : Bool := sizesB p n && (vecB p n f && tabB p n (tab f))

theorem all_no {q : Nat → Bool} (k m : Nat) (hk : k < m) (h : q k = false) : (List.range m).all q = false := by
  rw [List.all_eq_false]; exact ⟨k, by simpa using hk, by simp [h]⟩
theorem all_yes {q : Nat → Bool} (m : Nat) (h : ∀ i, i < m → q i = true) : (List.range m).all q = true := by
  rw [List.all_eq_true]; intro i hi; exact h i (by simpa using hi)
theorem all_get {q : Nat → Bool} {m : Nat} (h : (List.range m).all q = true) (i : Nat) (hi : i < m) : q i = true := by
  rw [List.all_eq_true] at h; exact h i (by simpa using hi)
theorem upto_more {q : Nat → Bool} {k : Nat} (h : ∀ i, i < k → q i = true) (hk : q k = true) : ∀ i, i < k + 1 → q i = true := by
  intro i hi
  by_cases e : i = k
  · subst e; exact hk
  · exact h i (by omega)

/-! ### l01Linear, l01Table -/
set_option maxRecDepth 100000 in
set_option maxHeartbeats 1000000 in
theorem l01Linear_any (p n : Int) (F : Nat → Int) (w : World) (hF : Bytes 64 F) :
    Calls Tryz.prog 116 #[.int .i64 p, .int .i64 n, .agg (row 64 F)] w fun e w' => e = .returned (.bool (linB p n F)) ∧ Below w.heap.size w w' := by
  have HF := Lib.hid hF
  clear hF
  go_enter Tryz.func116, Tryz.ntmps116
  go_wp2
  go_loopw [7] (fun s wr => ∃ k : Nat, k ≤ 8 ∧ s = .int .i64 k ∧ Below w.heap.size w wr ∧ (IsRow wr w.heap.size ∧ blk wr w.heap.size = row 64 F) ∧ ∀ i, i < k → entL p n F i = true) (fun s _ => 8 - (intOf s).toNat)
  case atStart => exact ⟨0, by omega, rfl, (Below.refl _ _).alloc (Nat.le_refl _) _, by simp [go_sem], fun i hi => by omega⟩
  case round =>
    obtain ⟨k, hk, rfl, hb, ⟨r0, c0⟩, hn⟩ := hrel
    have Hn := Lib.hid hn
    clear hn
    have z0 := isRow_lt r0
    by_cases hlt : k < 8
    · have hi8 : (k : Int) < 8 := by omega
      have hk8 : k * 8 + 8 ≤ 64 := by omega
      have HG : Hid (Bytes 8 (rowOf 8 F k)) := Lib.hid fun t ht => HF.out (k * 8 + t) (by omega)
      have e0 : (row 64 F).extract (k * 8) (k * 8 + 8) = row 8 (rowOf 8 F k) := row_part 64 8 (k * 8) F hk8
      cases hv : vecB p n (rowOf 8 F k)
      · have H := Lib.hid (all_no (q := entL p n F) k 8 hlt (by unfold entL; rw [hv]; rfl))
        go_wp2_with (go_at_call 64; refine (l01Vector_any _ _ _ _ HG.out).mono ?_; rintro e w2 ⟨rfl, hw2⟩)
        go_ret
        exact ⟨ret_bool (by unfold linB; rw [H.out]), hb.trans (hw2.mono hb.size)⟩
      · by_cases hkn : (k : Int) < n
        · have hkn' : ¬ n ≤ (k : Int) := by omega
          have H := Lib.hid (upto_more Hn.out (show entL p n F k = true by unfold entL; rw [hv, decide_eq_true hkn]; rfl))
          go_wp2_with (go_at_call 64; refine (l01Vector_any _ _ _ _ HG.out).mono ?_; rintro e w2 ⟨rfl, hw2⟩)
          go_roundw
          case rel => exact ⟨k + 1, by omega, by go_num, hb.trans (hw2.mono hb.size), keepB hw2 z0 r0 c0, H.out⟩
          case measure => simp [intOf]; omega
        · have hkn' : n ≤ (k : Int) := by omega
          cases hz : segEq 0 8 (rowOf 8 F k) zf
          · have H := Lib.hid (all_no (q := entL p n F) k 8 hlt (by unfold entL; rw [hv, hz, decide_eq_false hkn]; rfl))
            go_wp2_with (go_at_call 64; refine (l01Vector_any _ _ _ _ HG.out).mono ?_; rintro e w2 ⟨rfl, hw2⟩; obtain ⟨x1, x2⟩ := keepB hw2 z0 r0 c0)
            go_ret
            exact ⟨ret_bool (by unfold linB; rw [H.out]), hb.trans (hw2.mono hb.size)⟩
          · have H := Lib.hid (upto_more Hn.out (show entL p n F k = true by unfold entL; rw [hv, hz, Bool.or_true]; rfl))
            go_wp2_with (go_at_call 64; refine (l01Vector_any _ _ _ _ HG.out).mono ?_; rintro e w2 ⟨rfl, hw2⟩; obtain ⟨x1, x2⟩ := keepB hw2 z0 r0 c0)
            go_roundw
            case rel => exact ⟨k + 1, by omega, by go_num, hb.trans (hw2.mono hb.size), keepB hw2 z0 r0 c0, H.out⟩
            case measure => simp [intOf]; omega
    · have H := Lib.hid (all_yes (q := entL p n F) 8 fun i hi => Hn.out i (by omega))
      go_wp2
      go_ret
      exact ⟨ret_bool (by unfold linB; rw [H.out]), hb⟩
set_option maxRecDepth 100000 in
set_option maxHeartbeats 1000000 in
theorem l01Table_any (p n : Int) (F : Nat → Int) (w : World) (hF : Bytes 512 F) :
    Calls Tryz.prog 115 #[.int .i64 p, .int .i64 n, .agg (row 512 F)] w fun e w' => e = .returned (.bool (tabB p n F)) ∧ Below w.heap.size w w' := by
  have HF := Lib.hid hF
  clear hF
  go_enter Tryz.func115, Tryz.ntmps115
  go_wp2
  go_loopw [7] (fun s wr => ∃ k : Nat, k ≤ 8 ∧ s = .int .i64 k ∧ Below w.heap.size w wr ∧ (IsRow wr w.heap.size ∧ blk wr w.heap.size = row 512 F) ∧ ∀ i, i < k → entT p n F i = true) (fun s _ => 8 - (intOf s).toNat)
  case atStart => exact ⟨0, by omega, rfl, (Below.refl _ _).alloc (Nat.le_refl _) _, by simp [go_sem], fun i hi => by omega⟩
  case round =>
    obtain ⟨k, hk, rfl, hb, ⟨r0, c0⟩, hn⟩ := hrel
    have Hn := Lib.hid hn
    clear hn
    have z0 := isRow_lt r0
    by_cases hlt : k < 8
    · have hi8 : (k : Int) < 8 := by omega
      have hk8 : k * 64 + 64 ≤ 512 := by omega
      have HG : Hid (Bytes 64 (rowOf 64 F k)) := Lib.hid fun t ht => HF.out (k * 64 + t) (by omega)
      have e0 : (row 512 F).extract (k * 64) (k * 64 + 64) = row 64 (rowOf 64 F k) := row_part 512 64 (k * 64) F hk8
      cases hv : linB p n (rowOf 64 F k)
      · have H := Lib.hid (all_no (q := entT p n F) k 8 hlt (by unfold entT; rw [hv]; rfl))
        go_wp2_with (go_at_call 116; refine (l01Linear_any _ _ _ _ HG.out).mono ?_; rintro e w2 ⟨rfl, hw2⟩)
        go_ret
        exact ⟨ret_bool (by unfold tabB; rw [H.out]), hb.trans (hw2.mono hb.size)⟩
      · by_cases hkn : (k : Int) < n
        · have hkn' : ¬ n ≤ (k : Int) := by omega
          have H := Lib.hid (upto_more Hn.out (show entT p n F k = true by unfold entT; rw [hv, decide_eq_true hkn]; rfl))
          go_wp2_with (go_at_call 116; refine (l01Linear_any _ _ _ _ HG.out).mono ?_; rintro e w2 ⟨rfl, hw2⟩)
          go_roundw
          case rel => exact ⟨k + 1, by omega, by go_num, hb.trans (hw2.mono hb.size), keepB hw2 z0 r0 c0, H.out⟩
          case measure => simp [intOf]; omega
        · have hkn' : n ≤ (k : Int) := by omega
          cases hz : segEq 0 64 (rowOf 64 F k) zf
          · have H := Lib.hid (all_no (q := entT p n F) k 8 hlt (by unfold entT; rw [hv, hz, decide_eq_false hkn]; rfl))
            go_wp2_with (go_at_call 116; refine (l01Linear_any _ _ _ _ HG.out).mono ?_; rintro e w2 ⟨rfl, hw2⟩; obtain ⟨x1, x2⟩ := keepB hw2 z0 r0 c0)
            go_ret
            exact ⟨ret_bool (by unfold tabB; rw [H.out]), hb.trans (hw2.mono hb.size)⟩
          · have H := Lib.hid (upto_more Hn.out (show entT p n F k = true by unfold entT; rw [hv, hz, Bool.or_true]; rfl))
            go_wp2_with (go_at_call 116; refine (l01Linear_any _ _ _ _ HG.out).mono ?_; rintro e w2 ⟨rfl, hw2⟩; obtain ⟨x1, x2⟩ := keepB hw2 z0 r0 c0)
            go_roundw
            case rel => exact ⟨k + 1, by omega, by go_num, hb.trans (hw2.mono hb.size), keepB hw2 z0 r0 c0, H.out⟩
            case measure => simp [intOf]; omega
    · have H := Lib.hid (all_yes (q := entT p n F) 8 fun i hi => Hn.out i (by omega))
      go_wp2
      go_ret
      exact ⟨ret_bool (by unfold tabB; rw [H.out]), hb⟩

/-! ### areVectors, isLinear, isTable -/
/-- the first m of a list are vectors -/
def allV (p n : Int) (m : Nat) (g : Nat → Nat → Int) : Bool := (List.range m).all fun i => vecB p n (g i)
set_option maxRecDepth 100000 in
set_option maxHeartbeats 1000000 in
theorem areVectors_any (p n : Int) (b off m cap : Nat) (g : Nat → Nat → Int) (w : World) (hm : m ≤ 1000000) (hr : IsRow w b) (hg : ∀ i, i < m → off + i * 8 + 8 ≤ (blk w b).size ∧ (blk w b).extract (off + i * 8) (off + i * 8 + 8) = row 8 (g i) ∧ Bytes 8 (g i)) :
    Calls Tryz.prog 68 #[.int .i64 p, .int .i64 n, .slice (some ⟨b, off, none⟩) m cap] w fun e w' => e = .returned (.bool (sizesB p n && allV p n m g)) ∧ Below w.heap.size w w' := by
  have Hg := Lib.hid hg
  have hbw := isRow_lt hr
  clear hg
  go_enter Tryz.func68, Tryz.ntmps68
  go_wp2
  go_loopw [11] (fun s wr => ∃ k : Nat, k ≤ m ∧ s = .int .i64 k ∧ Below w.heap.size w wr ∧ (k = 0 ∨ sizesB p n = true) ∧ ∀ i, i < k → vecB p n (g i) = true) (fun s _ => m - (intOf s).toNat)
  case atStart => exact ⟨0, by omega, rfl, Below.refl _ _, .inl rfl, fun i hi => by omega⟩
  case round =>
    obtain ⟨k, hk, rfl, hb, hsz, hn⟩ := hrel
    have Hn := Lib.hid hn
    have Hs := Lib.hid hsz
    clear hn hsz
    by_cases hlt : k < m
    · have g1 := (Hg.out k hlt).1
      have g2 := (Hg.out k hlt).2.1
      have HG : Hid (Bytes 8 (g k)) := Lib.hid (Hg.out k hlt).2.2
      obtain ⟨r0, c0⟩ := keepB hb hbw hr rfl
      rw [← c0] at g1 g2
      clear c0
      have hb1 : Below w.heap.size w (wr.alloc (.cells (row 8 (g k)) 32)) := hb.alloc hb.size _
      cases hs : sizesB p n
      · go_wp2_with (go_at_call 97; refine (isVector_any _ _ _ _ HG.out).mono ?_; rintro e w2 ⟨rfl, hw2⟩)
        go_ret
        exact ⟨ret_bool (by rw [hs]; rfl), hb1.trans (hw2.mono (by have := hb.size; simp; omega))⟩
      · cases hv : vecB p n (g k)
        · have H := Lib.hid (all_no (q := fun i => vecB p n (g i)) k m hlt hv)
          go_wp2_with (go_at_call 97; refine (isVector_any _ _ _ _ HG.out).mono ?_; rintro e w2 ⟨rfl, hw2⟩)
          go_ret
          exact ⟨ret_bool (by unfold allV; rw [H.out, Bool.and_false]), hb1.trans (hw2.mono (by have := hb.size; simp; omega))⟩
        · have H := Lib.hid (upto_more (q := fun i => vecB p n (g i)) Hn.out hv)
          go_wp2_with (go_at_call 97; refine (isVector_any _ _ _ _ HG.out).mono ?_; rintro e w2 ⟨rfl, hw2⟩)
          go_roundw
          case rel => exact ⟨k + 1, by omega, by go_num, hb1.trans (hw2.mono (by have := hb.size; simp; omega)), .inr (by first | exact hs | trivial), H.out⟩
          case measure => simp [intOf]; omega
    · have H := Lib.hid (all_yes (q := fun i => vecB p n (g i)) m fun i hi => Hn.out i (by omega))
      go_wp2_with (go_at_call 98; refine (isField_any _ _ _).mono ?_; rintro e w' ⟨rfl, rfl⟩)
      go_ret
      exact ⟨ret_bool (by unfold allV; rw [H.out, Bool.and_true]), hb⟩

theorem zero_row {F : Nat → Int} {m i : Nat} (h : segEq 0 m (rowOf m F i) zf = true) : ∀ t, t < m → F (i * m + t) = 0 := by
  intro t ht
  have := (segEq_iff 0 m (rowOf m F i) zf).1 h t ht
  rw [Nat.zero_add] at this
  exact this
theorem vecB_zero {p n : Int} (hp : 0 < p) {v : Nat → Int} (h : ∀ t, t < 8 → v t = 0) : vecB p n v = true := by
  rw [vecB_iff]
  intro i hi
  rw [h i hi]
  exact ⟨hp, .inr rfl⟩
/-- the first n rows are vectors, those behind are zeros -/
theorem linB_of {p : Int} {n : Nat} (hp : 0 < p) {F : Nat → Int} (h1 : ∀ i, i < n → vecB p n (rowOf 8 F i) = true) (h2 : ∀ i, n ≤ i → i < 8 → segEq 0 8 (rowOf 8 F i) zf = true) : linB p n F = true := by
  refine all_yes 8 fun i hi => ?_
  unfold entL
  by_cases h : i < n
  · rw [h1 i h, decide_eq_true (by omega)]; rfl
  · have hz : vecB p n (rowOf 8 F i) = true := vecB_zero hp (zero_row (h2 i (by omega) hi))
    rw [h2 i (by omega) hi, hz, Bool.or_true]; rfl
theorem linB_not1 {p : Int} {n : Nat} {F : Nat → Int} (hn : n ≤ 8) (h : allV p n n (rowOf 8 F) = false) : linB p n F = false := by
  unfold allV at h
  rw [List.all_eq_false] at h
  obtain ⟨i, hi, hv⟩ := h
  have hi' : i < n := by simpa using hi
  refine all_no i 8 (by omega) ?_
  unfold entL
  rw [Bool.not_eq_true] at hv
  rw [hv]; rfl
theorem linB_not2 {p : Int} {n i : Nat} {F : Nat → Int} (h1 : n ≤ i) (h2 : i < 8) (h : segEq 0 8 (rowOf 8 F i) zf = false) : linB p n F = false := by
  refine all_no i 8 h2 ?_
  unfold entL
  rw [h, decide_eq_false (by omega), Bool.or_false, Bool.and_false]

/-- image i: a vector before the place c, zeros from there on -/
def entI (p n c : Int) (F : Nat → Int) (i : Nat) : Bool := (decide (c ≤ (i : Int)) || (sizesB p n && vecB p n (rowOf 8 F i))) && (decide ((i : Int) < c) || segEq 0 8 (rowOf 8 F i) zf)
def imgB (p n c : Int) (F : Nat → Int) : Bool := (List.range 8).all (entI p n c F)
theorem img_lin {p n : Int} (F : Nat → Int) (hs : sizesB p n = true) : imgB p n n F = linB p n F := by
  unfold imgB linB
  congr 1
  funext i
  unfold entI entL
  rw [hs, Bool.true_and]
  obtain ⟨hp, _⟩ := sizes_range hs
  by_cases h : (i : Int) < n
  · rw [decide_eq_true h, decide_eq_false (p := n ≤ (i : Int)) (by omega), Bool.false_or, Bool.true_or]
  · rw [decide_eq_false h, decide_eq_true (p := n ≤ (i : Int)) (by omega), Bool.true_or, Bool.true_and, Bool.false_or]
    cases hz : segEq 0 8 (rowOf 8 F i) zf
    · rw [Bool.and_false]
    · rw [show vecB p n (rowOf 8 F i) = true from vecB_zero (by omega) (zero_row hz)]; rfl

set_option maxRecDepth 100000 in
set_option maxHeartbeats 1000000 in
theorem hasImages_any (p n c : Int) (F : Nat → Int) (w : World) (hF : Bytes 64 F) :
    Calls Tryz.prog 158 #[.int .i64 p, .int .i64 n, .int .i64 c, .agg (row 64 F)] w fun e w' => e = .returned (.bool (imgB p n c F)) ∧ Below w.heap.size w w' := by
  have HF := Lib.hid hF
  clear hF
  go_enter Tryz.func158, Tryz.ntmps158
  go_wp2
  go_loopw [12] (fun s wr => ∃ k : Nat, k ≤ 8 ∧ s = .int .i64 k ∧ Below w.heap.size w wr ∧ ∀ i, i < k → entI p n c F i = true) (fun s _ => 8 - (intOf s).toNat)
  case atStart => exact ⟨0, by omega, rfl, (Below.refl _ _).alloc (Nat.le_refl _) _, fun i hi => by omega⟩
  case round =>
    obtain ⟨k, hk, rfl, hb, hn⟩ := hrel
    have Hn := Lib.hid hn
    clear hn
    by_cases hlt : k < 8
    · have hi8 : (k : Int) < 8 := by omega
      have hk8 : k * 8 + 8 ≤ 64 := by omega
      have HG : Hid (Bytes 8 (rowOf 8 F k)) := Lib.hid fun t ht => HF.out (k * 8 + t) (by omega)
      have e0 : (row 64 F).extract (k * 8) (k * 8 + 8) = row 8 (rowOf 8 F k) := row_part 64 8 (k * 8) F hk8
      have hb1 : Below w.heap.size w (wr.alloc (.cells (row 8 (rowOf 8 F k)) 32)) := hb.alloc hb.size _
      have hbz := hb.size
      by_cases hkc : (k : Int) < c
      · have hkc' : ¬ c ≤ (k : Int) := by omega
        cases hv : (sizesB p n && vecB p n (rowOf 8 F k))
        · have H := Lib.hid (all_no (q := entI p n c F) k 8 hlt (by unfold entI; rw [hv, decide_eq_false hkc']; rfl))
          go_wp2_with (go_at_call 97; refine (isVector_any _ _ _ _ HG.out).mono ?_; rintro e w2 ⟨rfl, hw2⟩)
          go_ret
          exact ⟨ret_bool (by unfold imgB; rw [H.out]), hb1.trans (hw2.mono (by simp; omega))⟩
        · have H := Lib.hid (upto_more (q := entI p n c F) Hn.out (by unfold entI; rw [hv, decide_eq_true hkc, Bool.or_true]; rfl))
          go_wp2_with (go_at_call 97; refine (isVector_any _ _ _ _ HG.out).mono ?_; rintro e w2 ⟨rfl, hw2⟩)
          go_roundw
          case rel => exact ⟨k + 1, by omega, by go_num, hb1.trans (hw2.mono (by simp; omega)), H.out⟩
          case measure => simp [intOf]; omega
      · have hkc' : c ≤ (k : Int) := by omega
        cases hz : segEq 0 8 (rowOf 8 F k) zf
        · have H := Lib.hid (all_no (q := entI p n c F) k 8 hlt (by unfold entI; rw [hz, decide_eq_false hkc, Bool.or_false, Bool.and_false]))
          go_wp2
          go_ret
          exact ⟨ret_bool (by unfold imgB; rw [H.out]), hb1⟩
        · have H := Lib.hid (upto_more (q := entI p n c F) Hn.out (by unfold entI; rw [hz, decide_eq_true hkc', Bool.or_true, Bool.true_or]; rfl))
          go_wp2
          go_roundw
          case rel => exact ⟨k + 1, by omega, by go_num, hb1, H.out⟩
          case measure => simp [intOf]; omega
    · have H : Hid (imgB p n c F = true) := Lib.hid (all_yes (q := entI p n c F) 8 fun i hi => Hn.out i (by omega))
      go_wp2
      go_ret
      exact ⟨ret_bool (by rw [H.out] <;> rfl), hb⟩

set_option maxRecDepth 100000 in
theorem isLinear_any (p n : Int) (F : Nat → Int) (w : World) (hF : Bytes 64 F) :
    Calls Tryz.prog 137 #[.int .i64 p, .int .i64 n, .agg (row 64 F)] w fun e w' => e = .returned (.bool (sizesB p n && linB p n F)) ∧ Below w.heap.size w w' := by
  have HF := Lib.hid hF
  clear hF
  cases hs : sizesB p n
  · go_enter Tryz.func137, Tryz.ntmps137
    go_wp2_with (go_at_call 98; refine (isField_any _ _ _).mono ?_; rintro e w' ⟨rfl, rfl⟩)
    go_ret
    exact ⟨rfl, (Below.refl _ _).alloc (Nat.le_refl _) _⟩
  · have H := Lib.hid (img_lin F hs)
    go_enter Tryz.func137, Tryz.ntmps137
    go_wp2_with (first | (go_at_call 98; refine (isField_any _ _ _).mono ?_; rintro e w' ⟨rfl, rfl⟩) | (go_at_call 158; refine (hasImages_any _ _ _ _ _ HF.out).mono ?_; rintro e w2 ⟨rfl, hw2⟩))
    go_ret
    exact ⟨ret_bool (by rw [H.out] <;> rfl), ((Below.refl _ _).alloc (Nat.le_refl _) _).trans (hw2.mono (by simp))⟩

theorem tabB_no {p n : Int} {F : Nat → Int} {i : Nat} (hi : i < 8) (h : entT p n F i = false) : tabB p n F = false := all_no i 8 hi h
theorem linB_zero {p n : Int} (hp : 0 < p) {F : Nat → Int} {i : Nat} (h : segEq 0 64 (rowOf 64 F i) zf = true) : linB p n (rowOf 64 F i) = true := by
  have hz := zero_row h
  refine all_yes 8 fun j hj => ?_
  have h0 : ∀ t, t < 8 → rowOf 8 (rowOf 64 F i) j t = 0 := fun t ht => hz (j * 8 + t) (by omega)
  have h1 : vecB p n (rowOf 8 (rowOf 64 F i) j) = true := vecB_zero hp h0
  have h2 : segEq 0 8 (rowOf 8 (rowOf 64 F i) j) zf = true := (segEq_iff 0 8 _ _).2 fun t ht => by rw [Nat.zero_add]; exact h0 t ht
  unfold entL
  rw [h1, h2, Bool.or_true]; rfl

/-- map i of a list: a linear map before the place c, zeros from there on -/
def entM (p n c : Int) (F : Nat → Int) (i : Nat) : Bool := (decide (c ≤ (i : Int)) || (sizesB p n && linB p n (rowOf 64 F i))) && (decide ((i : Int) < c) || segEq 0 64 (rowOf 64 F i) zf)
def mapsB (p n c : Int) (F : Nat → Int) : Bool := (List.range 8).all (entM p n c F)
theorem maps_tab {p n : Int} (F : Nat → Int) (hs : sizesB p n = true) : mapsB p n n F = tabB p n F := by
  unfold mapsB tabB
  congr 1
  funext i
  unfold entM entT
  rw [hs, Bool.true_and]
  obtain ⟨hp, _⟩ := sizes_range hs
  by_cases h : (i : Int) < n
  · rw [decide_eq_true h, decide_eq_false (p := n ≤ (i : Int)) (by omega), Bool.false_or, Bool.true_or]
  · rw [decide_eq_false h, decide_eq_true (p := n ≤ (i : Int)) (by omega), Bool.true_or, Bool.true_and, Bool.false_or]
    cases hz : segEq 0 64 (rowOf 64 F i) zf
    · rw [Bool.and_false]
    · rw [linB_zero (by omega) hz]; rfl

set_option maxRecDepth 100000 in
set_option maxHeartbeats 1000000 in
theorem hasMaps_any (p n c : Int) (F : Nat → Int) (w : World) (hF : Bytes 512 F) :
    Calls Tryz.prog 127 #[.int .i64 p, .int .i64 n, .int .i64 c, .agg (row 512 F)] w fun e w' => e = .returned (.bool (mapsB p n c F)) ∧ Below w.heap.size w w' := by
  have HF := Lib.hid hF
  clear hF
  go_enter Tryz.func127, Tryz.ntmps127
  go_wp2
  go_loopw [12] (fun s wr => ∃ k : Nat, k ≤ 8 ∧ s = .int .i64 k ∧ Below w.heap.size w wr ∧ ∀ i, i < k → entM p n c F i = true) (fun s _ => 8 - (intOf s).toNat)
  case atStart => exact ⟨0, by omega, rfl, (Below.refl _ _).alloc (Nat.le_refl _) _, fun i hi => by omega⟩
  case round =>
    obtain ⟨k, hk, rfl, hb, hn⟩ := hrel
    have Hn := Lib.hid hn
    clear hn
    by_cases hlt : k < 8
    · have hi8 : (k : Int) < 8 := by omega
      have hk8 : k * 64 + 64 ≤ 512 := by omega
      have HG : Hid (Bytes 64 (rowOf 64 F k)) := Lib.hid fun t ht => HF.out (k * 64 + t) (by omega)
      have e0 : (row 512 F).extract (k * 64) (k * 64 + 64) = row 64 (rowOf 64 F k) := row_part 512 64 (k * 64) F hk8
      have hb1 : Below w.heap.size w (wr.alloc (.cells (row 64 (rowOf 64 F k)) 34)) := hb.alloc hb.size _
      have hbz := hb.size
      by_cases hkc : (k : Int) < c
      · have hkc' : ¬ c ≤ (k : Int) := by omega
        cases hv : (sizesB p n && linB p n (rowOf 64 F k))
        · have H := Lib.hid (all_no (q := entM p n c F) k 8 hlt (by unfold entM; rw [hv, decide_eq_false hkc']; rfl))
          go_wp2_with (go_at_call 137; refine (isLinear_any _ _ _ _ HG.out).mono ?_; rintro e w2 ⟨rfl, hw2⟩)
          go_ret
          exact ⟨ret_bool (by unfold mapsB; rw [H.out]), hb1.trans (hw2.mono (by simp; omega))⟩
        · have H := Lib.hid (upto_more (q := entM p n c F) Hn.out (by unfold entM; rw [hv, decide_eq_true hkc, Bool.or_true]; rfl))
          go_wp2_with (go_at_call 137; refine (isLinear_any _ _ _ _ HG.out).mono ?_; rintro e w2 ⟨rfl, hw2⟩)
          go_roundw
          case rel => exact ⟨k + 1, by omega, by go_num, hb1.trans (hw2.mono (by simp; omega)), H.out⟩
          case measure => simp [intOf]; omega
      · have hkc' : c ≤ (k : Int) := by omega
        cases hz : segEq 0 64 (rowOf 64 F k) zf
        · have H := Lib.hid (all_no (q := entM p n c F) k 8 hlt (by unfold entM; rw [hz, decide_eq_false hkc, Bool.or_false, Bool.and_false]))
          go_wp2
          go_ret
          exact ⟨ret_bool (by unfold mapsB; rw [H.out]), hb1⟩
        · have H := Lib.hid (upto_more (q := entM p n c F) Hn.out (by unfold entM; rw [hz, decide_eq_true hkc', Bool.or_true, Bool.true_or]; rfl))
          go_wp2
          go_roundw
          case rel => exact ⟨k + 1, by omega, by go_num, hb1, H.out⟩
          case measure => simp [intOf]; omega
    · have H : Hid (mapsB p n c F = true) := Lib.hid (all_yes (q := entM p n c F) 8 fun i hi => Hn.out i (by omega))
      go_wp2
      go_ret
      exact ⟨ret_bool (by rw [H.out] <;> rfl), hb⟩

set_option maxRecDepth 100000 in
theorem isTable_any (p n : Int) (F : Nat → Int) (w : World) (hF : Bytes 512 F) :
    Calls Tryz.prog 157 #[.int .i64 p, .int .i64 n, .agg (row 512 F)] w fun e w' => e = .returned (.bool (sizesB p n && tabB p n F)) ∧ Below w.heap.size w w' := by
  have HF := Lib.hid hF
  clear hF
  cases hs : sizesB p n
  · go_enter Tryz.func157, Tryz.ntmps157
    go_wp2_with (go_at_call 98; refine (isField_any _ _ _).mono ?_; rintro e w' ⟨rfl, rfl⟩)
    go_ret
    exact ⟨rfl, (Below.refl _ _).alloc (Nat.le_refl _) _⟩
  · have H := Lib.hid (maps_tab F hs)
    go_enter Tryz.func157, Tryz.ntmps157
    go_wp2_with (first | (go_at_call 98; refine (isField_any _ _ _).mono ?_; rintro e w' ⟨rfl, rfl⟩) | (go_at_call 127; refine (hasMaps_any _ _ _ _ _ HF.out).mono ?_; rintro e w2 ⟨rfl, hw2⟩))
    go_ret
    exact ⟨ret_bool (by rw [H.out] <;> rfl), ((Below.refl _ _).alloc (Nat.le_refl _) _).trans (hw2.mono (by simp))⟩
end
section
open Go.RowKit
set_option linter.unusedSimpArgs false
set_option linter.unusedVariables false

/-! ### the shape -/
theorem unit_bytes {f : Nat → Int} (h : Bytes 520 f) : Bytes 8 f := fun i hi => h i (by omega)

set_option maxRecDepth 100000 in
theorem isShaped_any (p n : Int) (f : Nat → Int) (w : World) (hF : Bytes 520 f) :
    Calls Tryz.prog 134 #[.agg (alg p n f)] w fun e w' => e = .returned (.bool (shapeB p n f)) ∧ Below w.heap.size w w' := by
  have HU : Hid (Bytes 8 f) := Lib.hid (unit_bytes hF)
  have HT : Hid (Bytes 512 (tab f)) := Lib.hid (tab_bytes hF)
  clear hF
  have H : Hid (shapeB p n f = ((sizesB p n && vecB p n f) && (sizesB p n && tabB p n (tab f)))) := Lib.hid (by
    unfold shapeB; cases sizesB p n <;> cases vecB p n f <;> rfl)
  cases hv : (sizesB p n && vecB p n f)
  · go_enter Tryz.func134, Tryz.ntmps134
    go_wp2_with (go_at_call 97; refine (isVector_any _ _ _ _ HU.out).mono ?_; rintro e w1 ⟨rfl, hw1⟩)
    go_ret
    exact ⟨ret_bool (by rw [H.out, hv] <;> rfl), ((Below.refl _ _).alloc (Nat.le_refl _) _).trans (hw1.mono (by simp))⟩
  · go_enter Tryz.func134, Tryz.ntmps134
    go_wp2_with (first | (go_at_call 97; refine (isVector_any _ _ _ _ HU.out).mono ?_; rintro e w1 ⟨rfl, hw1⟩; obtain ⟨x1, x2⟩ := keepB (b := w.heap.size) (c := alg p n f) hw1 (by simp) (by simp [go_sem]) (by simp [go_sem])) | (go_at_call 157; refine (isTable_any _ _ _ _ HT.out).mono ?_; rintro e w2 ⟨rfl, hw2⟩))
    go_ret
    exact ⟨ret_bool (by rw [H.out, hv] <;> rfl), (((Below.refl _ _).alloc (Nat.le_refl _) _).trans (hw1.mono (by simp))).trans (hw2.mono (by have := hw1.size; simp at this; omega))⟩

set_option maxRecDepth 100000 in
theorem l01Shape_any (p n : Int) (f : Nat → Int) (w : World) (hF : Bytes 520 f) :
    Calls Tryz.prog 114 #[.agg (alg p n f)] w fun e w' => e = .returned (.bool (shapeB p n f)) ∧ Below w.heap.size w w' := by
  have HU : Hid (Bytes 8 f) := Lib.hid (unit_bytes hF)
  have HT : Hid (Bytes 512 (tab f)) := Lib.hid (tab_bytes hF)
  clear hF
  have H : Hid (shapeB p n f = (sizesB p n && (vecB p n f && tabB p n (tab f)))) := Lib.hid rfl
  cases hs : sizesB p n
  · go_enter Tryz.func114, Tryz.ntmps114
    go_wp2_with (go_at_call 147; refine (l01Sizes_any _ _ _).mono ?_; rintro e w' ⟨rfl, rfl⟩)
    go_ret
    exact ⟨ret_bool (by rw [H.out, hs] <;> rfl), (Below.refl _ _).alloc (Nat.le_refl _) _⟩
  · cases hv : vecB p n f
    · go_enter Tryz.func114, Tryz.ntmps114
      go_wp2_with (first | (go_at_call 147; refine (l01Sizes_any _ _ _).mono ?_; rintro e w' ⟨rfl, rfl⟩) | (go_at_call 64; refine (l01Vector_any _ _ _ _ HU.out).mono ?_; rintro e w1 ⟨rfl, hw1⟩))
      go_ret
      exact ⟨ret_bool (by rw [H.out, hs, hv] <;> rfl), ((Below.refl _ _).alloc (Nat.le_refl _) _).trans (hw1.mono (by simp))⟩
    · go_enter Tryz.func114, Tryz.ntmps114
      go_wp2_with (first | (go_at_call 147; refine (l01Sizes_any _ _ _).mono ?_; rintro e w' ⟨rfl, rfl⟩) | (go_at_call 64; refine (l01Vector_any _ _ _ _ HU.out).mono ?_; rintro e w1 ⟨rfl, hw1⟩; obtain ⟨x1, x2⟩ := keepB (b := w.heap.size) (c := alg p n f) hw1 (by simp) (by simp [go_sem]) (by simp [go_sem])) | (go_at_call 115; refine (l01Table_any _ _ _ _ HT.out).mono ?_; rintro e w2 ⟨rfl, hw2⟩))
      go_ret
      exact ⟨ret_bool (by rw [H.out, hs, hv] <;> rfl), (((Below.refl _ _).alloc (Nat.le_refl _) _).trans (hw1.mono (by simp))).trans (hw2.mono (by have := hw1.size; simp at this; omega))⟩

/-! ### the unit -/
theorem ebas_bytes (i : Nat) : Bytes 8 (ebas i) := fun t _ => by unfold ebas upd zf; split <;> omega
theorem basisAt (k : Nat) (hk : k < 8) (w : World) : Calls Tryz.prog 71 #[.int .i64 (k : Int)] w fun e w' => e = .returned (.agg (row 8 (ebas k))) ∧ Below w.heap.size w w' :=
  basisVector_any k w (by omega) (by omega)
theorem l01BasisAt (k : Nat) (hk : k < 8) (w : World) : Calls Tryz.prog 124 #[.int .i64 (k : Int)] w fun e w' => e = .returned (.agg (row 8 (ebas k))) ∧ Below w.heap.size w w' :=
  l01Basis_any k w (by omega) (by omega)
/-- the unit times e(i), and e(i) times the unit, are e(i) -/
def unitAt (p : Int) (n : Nat) (f : Nat → Int) (i : Nat) : Bool := segEq 0 8 (mulF p n (mtab f) f (ebas i)) (ebas i) && segEq 0 8 (mulF p n (mtab f) (ebas i) f) (ebas i)
def unitB (p : Int) (n : Nat) (f : Nat → Int) : Bool := (List.range n).all (unitAt p n f)

set_option maxRecDepth 100000 in
set_option maxHeartbeats 1000000 in
theorem hasUnit_any (p : Int) (n : Nat) (f : Nat → Int) (w : World) (hp : 0 < p) (hp' : p ≤ 255) (hn : n ≤ 8) (hF : Bytes 520 f) :
    Calls Tryz.prog 171 #[.agg (alg p n f)] w fun e w' => e = .returned (.bool (unitB p n f)) ∧ Below w.heap.size w w' := by
  have HF := Lib.hid hF
  clear hF
  go_enter Tryz.func171, Tryz.ntmps171
  go_wp2
  go_loopw [7] (fun s wr => ∃ k : Nat, k ≤ n ∧ s = .int .i64 k ∧ Below w.heap.size w wr ∧ (IsRow wr w.heap.size ∧ blk wr w.heap.size = alg p n f) ∧ ∀ i, i < k → unitAt p n f i = true) (fun s _ => n - (intOf s).toNat)
  case atStart => exact ⟨0, by omega, rfl, (Below.refl _ _).alloc (Nat.le_refl _) _, by simp [go_sem], fun i hi => by omega⟩
  case round =>
    obtain ⟨k, hk, rfl, hb, ⟨r0, c0⟩, hn'⟩ := hrel
    have Hn := Lib.hid hn'
    clear hn'
    have z0 := isRow_lt r0
    by_cases hlt : k < n
    · have hi8 : (k : Int) < 8 := by omega
      have hk0 : (0 : Int) ≤ (k : Int) := by omega
      have hk8 : k < 8 := by omega
      have HE : Hid (Bytes 8 (ebas k)) := Lib.hid (ebas_bytes k)
      have HU : Hid (Bytes 8 f) := Lib.hid (unit_bytes HF.out)
      cases hu1 : segEq 0 8 (mulF p n (mtab f) f (ebas k)) (ebas k)
      · have H : Hid (unitB p n f = false) := Lib.hid (all_no (q := unitAt p n f) k n hlt (by unfold unitAt; rw [hu1]; rfl))
        go_wp2_with (go_at_call 71; refine (basisAt k hk8 _).mono ?_; rintro e w1 ⟨rfl, hw1⟩; obtain ⟨s0, d0⟩ := keepB hw1 z0 r0 c0)
        have hb1 := (hb.trans (hw1.mono hb.size)).alloc (by have := hb.size; have := hw1.size; omega) (.cells (row 8 (ebas k)) 32)
        have y0 := isRow_lt s0
        have HC : ∀ W, Below (w1.heap.size + 1) (w1.alloc (.cells (row 8 (ebas k)) 32)) W → (IsRow W w.heap.size ∧ blk W w.heap.size = alg p n f) ∧ (IsRow W w1.heap.size ∧ blk W w1.heap.size = row 8 (ebas k)) :=
          fun W h => ⟨keepB h (by omega) (by simp [go_sem, s0]) (by simp [go_sem, d0, Nat.ne_of_lt y0]), keepB h (by omega) (by simp [go_sem]) (by simp [go_sem])⟩
        refine wp_quiet_all (Below (w1.heap.size + 1) (w1.alloc (.cells (row 8 (ebas k)) 32))) (by kernel_rfl) (by kernel_rfl) (Below.refl _ _).drew ?_
        repeat (first | (refine q_skip (by rfl) ?_; simp only [Act.put, List.setIfInBounds_toArray, List.set_cons_zero, List.set_cons_succ]) | (refine q_want (by rfl) ?_; apply Exists.intro; refine ⟨fun W hW => ?_, ?_⟩; (focus (obtain ⟨⟨x1, x2⟩, x3, x4⟩ := HC W hW; go_simp; first | done | rfl | ((go_at_call 146; refine (multiply_any p n f _ _ _ hp hp' hn HF.out ?_ ?_).mono (fun e w2 ⟨he, hw2⟩ => ⟨he, hW.trans (hw2.mono (by have := hW.size; simp at this; omega))⟩) <;> first | exact HU.out | exact HE.out)))); simp only [Act.put, List.setIfInBounds_toArray, List.set_cons_zero, List.set_cons_succ]))
        refine wpQuiet_nil ?_
        intro W hW
        obtain ⟨⟨x1, x2⟩, x3, x4⟩ := HC W hW
        have hb2 := hb1.trans (hW.mono (by have := hb1.size; simp at this; omega))
        go_wp2
        go_ret
        exact ⟨ret_bool (by rw [H.out] <;> rfl), hb2⟩
      · cases hu2 : segEq 0 8 (mulF p n (mtab f) (ebas k) f) (ebas k)
        · have H : Hid (unitB p n f = false) := Lib.hid (all_no (q := unitAt p n f) k n hlt (by unfold unitAt; rw [hu1, hu2]; rfl))
          go_wp2_with (go_at_call 71; refine (basisAt k hk8 _).mono ?_; rintro e w1 ⟨rfl, hw1⟩; obtain ⟨s0, d0⟩ := keepB hw1 z0 r0 c0)
          have hb1 := (hb.trans (hw1.mono hb.size)).alloc (by have := hb.size; have := hw1.size; omega) (.cells (row 8 (ebas k)) 32)
          have y0 := isRow_lt s0
          have HC : ∀ W, Below (w1.heap.size + 1) (w1.alloc (.cells (row 8 (ebas k)) 32)) W → (IsRow W w.heap.size ∧ blk W w.heap.size = alg p n f) ∧ (IsRow W w1.heap.size ∧ blk W w1.heap.size = row 8 (ebas k)) :=
            fun W h => ⟨keepB h (by omega) (by simp [go_sem, s0]) (by simp [go_sem, d0, Nat.ne_of_lt y0]), keepB h (by omega) (by simp [go_sem]) (by simp [go_sem])⟩
          refine wp_quiet_all (Below (w1.heap.size + 1) (w1.alloc (.cells (row 8 (ebas k)) 32))) (by kernel_rfl) (by kernel_rfl) (Below.refl _ _).drew ?_
          repeat (first | (refine q_skip (by rfl) ?_; simp only [Act.put, List.setIfInBounds_toArray, List.set_cons_zero, List.set_cons_succ]) | (refine q_want (by rfl) ?_; apply Exists.intro; refine ⟨fun W hW => ?_, ?_⟩; (focus (obtain ⟨⟨x1, x2⟩, x3, x4⟩ := HC W hW; go_simp; first | done | rfl | ((go_at_call 146; refine (multiply_any p n f _ _ _ hp hp' hn HF.out ?_ ?_).mono (fun e w2 ⟨he, hw2⟩ => ⟨he, hW.trans (hw2.mono (by have := hW.size; simp at this; omega))⟩) <;> first | exact HU.out | exact HE.out)))); simp only [Act.put, List.setIfInBounds_toArray, List.set_cons_zero, List.set_cons_succ]))
          refine wpQuiet_nil ?_
          intro W hW
          obtain ⟨⟨x1, x2⟩, x3, x4⟩ := HC W hW
          have hb2 := hb1.trans (hW.mono (by have := hb1.size; simp at this; omega))
          go_wp2
          go_ret
          exact ⟨ret_bool (by rw [H.out] <;> rfl), hb2⟩
        · have H := Lib.hid (upto_more (q := unitAt p n f) Hn.out (by unfold unitAt; rw [hu1, hu2]; rfl))
          go_wp2_with (go_at_call 71; refine (basisAt k hk8 _).mono ?_; rintro e w1 ⟨rfl, hw1⟩; obtain ⟨s0, d0⟩ := keepB hw1 z0 r0 c0)
          have hb1 := (hb.trans (hw1.mono hb.size)).alloc (by have := hb.size; have := hw1.size; omega) (.cells (row 8 (ebas k)) 32)
          have y0 := isRow_lt s0
          have HC : ∀ W, Below (w1.heap.size + 1) (w1.alloc (.cells (row 8 (ebas k)) 32)) W → (IsRow W w.heap.size ∧ blk W w.heap.size = alg p n f) ∧ (IsRow W w1.heap.size ∧ blk W w1.heap.size = row 8 (ebas k)) :=
            fun W h => ⟨keepB h (by omega) (by simp [go_sem, s0]) (by simp [go_sem, d0, Nat.ne_of_lt y0]), keepB h (by omega) (by simp [go_sem]) (by simp [go_sem])⟩
          refine wp_quiet_all (Below (w1.heap.size + 1) (w1.alloc (.cells (row 8 (ebas k)) 32))) (by kernel_rfl) (by kernel_rfl) (Below.refl _ _).drew ?_
          repeat (first | (refine q_skip (by rfl) ?_; simp only [Act.put, List.setIfInBounds_toArray, List.set_cons_zero, List.set_cons_succ]) | (refine q_want (by rfl) ?_; apply Exists.intro; refine ⟨fun W hW => ?_, ?_⟩; (focus (obtain ⟨⟨x1, x2⟩, x3, x4⟩ := HC W hW; go_simp; first | done | rfl | ((go_at_call 146; refine (multiply_any p n f _ _ _ hp hp' hn HF.out ?_ ?_).mono (fun e w2 ⟨he, hw2⟩ => ⟨he, hW.trans (hw2.mono (by have := hW.size; simp at this; omega))⟩) <;> first | exact HU.out | exact HE.out)))); simp only [Act.put, List.setIfInBounds_toArray, List.set_cons_zero, List.set_cons_succ]))
          refine wpQuiet_nil ?_
          intro W hW
          obtain ⟨⟨x1, x2⟩, x3, x4⟩ := HC W hW
          have hb2 := hb1.trans (hW.mono (by have := hb1.size; simp at this; omega))
          go_wp2
          go_roundw
          case rel => exact ⟨k + 1, by omega, by go_num, hb2, ⟨x1, x2⟩, H.out⟩
          case measure => simp [intOf]; omega
    · have H : Hid (unitB p n f = true) := Lib.hid (all_yes (q := unitAt p n f) n fun i hi => Hn.out i (by omega))
      go_wp2
      go_ret
      exact ⟨ret_bool (by rw [H.out] <;> rfl), hb⟩
end
section
open Go.RowKit
set_option linter.unusedSimpArgs false
set_option linter.unusedVariables false

/-- (e(i) e(j)) e(k) is not e(i) (e(j) e(k)) -/
def faultAt (p : Int) (n : Nat) (f : Nat → Int) (i j k : Nat) : Bool :=
  !segEq 0 8 (mulF p n (mtab f) (mtab f i j) (ebas k)) (mulF p n (mtab f) (ebas i) (mtab f j k))
/-- no fault before i, j, k -/
structure Clean3 (p : Int) (n : Nat) (f : Nat → Int) (i j k : Nat) : Prop where
  rows : ∀ i' j' k', i' < i → j' < n → k' < n → faultAt p n f i' j' k' = false
  cols : ∀ j' k', j' < j → k' < n → faultAt p n f i j' k' = false
  last : ∀ k', k' < k → faultAt p n f i j k' = false
theorem clean_start (p : Int) (n : Nat) (f : Nat → Int) : Clean3 p n f 0 0 0 := ⟨fun _ _ _ h _ _ => by omega, fun _ _ h _ => by omega, fun _ h => by omega⟩
theorem clean_step {p : Int} {n : Nat} {f : Nat → Int} {i j k : Nat} (h : Clean3 p n f i j k) (hk : faultAt p n f i j k = false) : Clean3 p n f i j (k + 1) :=
  ⟨h.rows, h.cols, fun k' hk' => by
    by_cases e : k' = k
    · subst e; exact hk
    · exact h.last k' (by omega)⟩
theorem clean_col {p : Int} {n : Nat} {f : Nat → Int} {i j : Nat} (h : Clean3 p n f i j n) : Clean3 p n f i (j + 1) 0 :=
  ⟨h.rows, fun j' k' hj hk => by
    by_cases e : j' = j
    · subst e; exact h.last k' hk
    · exact h.cols j' k' (by omega) hk, fun _ h => by omega⟩
theorem clean_row {p : Int} {n : Nat} {f : Nat → Int} {i : Nat} (h : Clean3 p n f i n 0) : Clean3 p n f (i + 1) 0 0 :=
  ⟨fun i' j' k' hi hj hk => by
    by_cases e : i' = i
    · subst e; exact h.cols j' k' hj hk
    · exact h.rows i' j' k' (by omega) hj hk, fun _ _ h _ => by omega, fun _ h => by omega⟩
/-- i, j, k is the first fault -/
structure FirstAt (p : Int) (n : Nat) (f : Nat → Int) (i j k : Nat) : Prop where
  i_lt : i < n
  j_lt : j < n
  k_lt : k < n
  fault : faultAt p n f i j k = true
  clean : Clean3 p n f i j k
/-- there is no fault -/
def NoFault (p : Int) (n : Nat) (f : Nat → Int) : Prop := ∀ i j k, i < n → j < n → k < n → faultAt p n f i j k = false
theorem first_not {p : Int} {n : Nat} {f : Nat → Int} {i j k : Nat} (h : FirstAt p n f i j k) (hn : NoFault p n f) : False := by
  have := h.fault
  rw [hn i j k h.i_lt h.j_lt h.k_lt] at this
  cases this
theorem first_le {p : Int} {n : Nat} {f : Nat → Int} {i j k i' j' k' : Nat} (h : FirstAt p n f i j k) (h' : FirstAt p n f i' j' k') : ¬ (i' < i ∨ (i' = i ∧ (j' < j ∨ (j' = j ∧ k' < k)))) := by
  rintro (h1 | ⟨rfl, h1 | ⟨rfl, h1⟩⟩)
  · have := h.clean.rows i' j' k' h1 h'.j_lt h'.k_lt; rw [h'.fault] at this; cases this
  · have := h.clean.cols j' k' h1 h'.k_lt; rw [h'.fault] at this; cases this
  · have := h.clean.last k' h1; rw [h'.fault] at this; cases this
theorem first_eq {p : Int} {n : Nat} {f : Nat → Int} {i j k i' j' k' : Nat} (h : FirstAt p n f i j k) (h' : FirstAt p n f i' j' k') : i = i' ∧ j = j' ∧ k = k' := by
  have h1 := first_le h h'
  have h2 := first_le h' h
  omega
/-- the three numbers as cells -/
def cells3 (i j k : Nat) : Array Value := #[.int .i64 (i : Int), .int .i64 (j : Int), .int .i64 (k : Int)]

theorem alg_at8 (p n : Int) (f : Nat → Int) (i j : Nat) (hi : i < 8) (hj : j < 8) : (alg p n f).extract (10 + i * 64 + j * 8) (10 + i * 64 + j * 8 + 8) = row 8 (mtab f i j) := by
  rw [alg_entry p n f (i * 64) (j * 8) 8 (by omega)]
  exact row_congr fun t _ => by unfold mtab; congr 1; omega
theorem mtab_bytes {f : Nat → Int} (h : Bytes 520 f) (i j : Nat) (hi : i < 8) (hj : j < 8) : Bytes 8 (mtab f i j) := fun t ht => tab_bytes h (i * 64 + (j * 8 + t)) (by omega)

set_option maxRecDepth 100000 in
set_option maxHeartbeats 4000000 in
theorem findFault_any (p : Int) (n : Nat) (f : Nat → Int) (w : World) (hp : 0 < p) (hp' : p ≤ 255) (hn : n ≤ 8) (hF : Bytes 520 f) :
    Calls Tryz.prog 172 #[.agg (alg p n f)] w fun e w' =>
      (e = .returned (.slice none 0 0) ∧ NoFault p n f ∧ Below w.heap.size w w') ∨
      (∃ b i j k, e = .returned (.slice (some ⟨b, 0, none⟩) 3 3) ∧ FirstAt p n f i j k ∧ Below w.heap.size w w' ∧ w.heap.size ≤ b ∧ IsRow w' b ∧ blk w' b = cells3 i j k) := by
  have HF := Lib.hid hF
  clear hF
  go_enter Tryz.func172, Tryz.ntmps172
  go_wp2
  go_loopw [10] (fun s wr => ∃ i : Nat, i ≤ n ∧ s = .int .i64 i ∧ Below w.heap.size w wr ∧ (IsRow wr w.heap.size ∧ blk wr w.heap.size = alg p n f) ∧ Clean3 p n f i 0 0) (fun s _ => n - (intOf s).toNat)
  case atStart => exact ⟨0, by omega, rfl, (Below.refl _ _).alloc (Nat.le_refl _) _, by simp [go_sem], clean_start p n f⟩
  case round =>
    obtain ⟨i, hi, rfl, hb, ⟨r0, c0⟩, hc⟩ := hrel
    have Hc := Lib.hid hc
    clear hc
    by_cases hlt : i < n
    · have hi8 : (i : Int) < 8 := by omega
      have hi8' : i < 8 := by omega
      go_wp2
      obtain ⟨wo, rfl⟩ : ∃ wo : World, wo = wr := ⟨_, rfl⟩
      go_loopw [15] (fun s wr => ∃ j : Nat, j ≤ n ∧ s = .int .i64 j ∧ Below w.heap.size w wr ∧ (IsRow wr w.heap.size ∧ blk wr w.heap.size = alg p n f) ∧ Clean3 p n f i j 0) (fun s _ => n - (intOf s).toNat)
      case atStart => exact ⟨0, by omega, rfl, hb, ⟨r0, c0⟩, Hc.out⟩
      case round =>
        obtain ⟨j, hj, rfl, hb', ⟨s0, d0⟩, hc⟩ := hrel
        have Hc2 := Lib.hid hc
        clear hc hb r0 c0
        by_cases hjt : j < n
        · have hj8 : (j : Int) < 8 := by omega
          have hj8' : j < 8 := by omega
          go_wp2
          obtain ⟨wo2, rfl⟩ : ∃ wo2 : World, wo2 = wr := ⟨_, rfl⟩
          go_loopw [20] (fun s wr => ∃ k : Nat, k ≤ n ∧ s = .int .i64 k ∧ Below w.heap.size w wr ∧ (IsRow wr w.heap.size ∧ blk wr w.heap.size = alg p n f) ∧ Clean3 p n f i j k) (fun s _ => n - (intOf s).toNat)
          case atStart => exact ⟨0, by omega, rfl, hb', ⟨s0, d0⟩, Hc2.out⟩
          case round =>
            obtain ⟨k, hk, rfl, hb, ⟨r0, c0⟩, hc⟩ := hrel
            have Hc3 := Lib.hid hc
            clear hc hb' s0 d0
            by_cases hkt : k < n
            · have hk8 : (k : Int) < 8 := by omega
              have hk8' : k < 8 := by omega
              have z0 := isRow_lt r0
              have hbz := hb.size
              have HM1 : Hid (Bytes 8 (mtab f i j)) := Lib.hid (mtab_bytes HF.out i j hi8' hj8')
              have HM2 : Hid (Bytes 8 (mtab f j k)) := Lib.hid (mtab_bytes HF.out j k hj8' hk8')
              have HE1 : Hid (Bytes 8 (ebas k)) := Lib.hid (ebas_bytes k)
              have HE2 : Hid (Bytes 8 (ebas i)) := Lib.hid (ebas_bytes i)
              have e1 := alg_at8 p n f i j hi8' hj8'
              have e2 := alg_at8 p n f j k hj8' hk8'
              have l1 : 10 + i * 64 + j * 8 + 8 ≤ 522 := by omega
              have l2 : 10 + j * 64 + k * 8 + 8 ≤ 522 := by omega
              have HC : ∀ W, Below wr.heap.size wr W → IsRow W w.heap.size ∧ blk W w.heap.size = alg p n f := fun W h => keepB h z0 r0 c0
              go_wp2
              refine wp_quiet_alloc 10 _ (.cells (row 8 zf) 32) (Below wr.heap.size wr) (Made wr (row 8 zf)) (by kernel_rfl) rfl rfl (by kernel_rfl) (fun a W => (xallocVec _ _ _ _ _ _ _).trans (allocVec W)) (closed_below wr) (closed_made wr _) (fun b W h => h.1) (fun W h => made_new wr _ _ W h) (Below.refl _ _).drew ?_
              simp only [List.take_succ_cons, List.take_zero, List.drop_succ_cons, List.drop_zero]
              repeat (first | (refine e_skip (by rfl) ?_; simp only [Act.put, List.setIfInBounds_toArray, List.set_cons_zero, List.set_cons_succ]) | (refine e_want (by rfl) ?_; apply Exists.intro; refine ⟨fun D hD hK W hW => ?_, ?_⟩; (focus (obtain ⟨x1, x2⟩ := HC W (hD W hW); unfold Oper.quietAt; go_simp; first | done | rfl | (first | (go_at_call 71; exact (basisAt k hk8' _).mono fun e w2 ⟨he, hw2⟩ => ⟨he, hK _ _ hW hw2⟩) | (go_at_call 146; exact (multiply_any p n f _ _ _ hp hp' hn HF.out HM1.out HE1.out).mono fun e w2 ⟨he, hw2⟩ => ⟨he, hK _ _ hW hw2⟩)))); simp only [Act.put, List.setIfInBounds_toArray, List.set_cons_zero, List.set_cons_succ]))
              refine e_nil ?_
              intro b W hW
              obtain ⟨hW1, hbb, m1, m2⟩ := hW
              obtain ⟨x1, x2⟩ := HC W hW1
              clear HC
              have hb0 : b ≠ w.heap.size := by omega
              have hb0' := Ne.symm hb0
              simp only [Act.put, List.setIfInBounds_toArray, List.set_cons_zero, List.set_cons_succ]
              go_wp2
              have F1 : Below w.heap.size w (W.setRow b (row 8 (mulF p n (mtab f) (mtab f i j) (ebas k)))) := (hb.trans (hW1.mono hbz)).trans (below_setRow (Below.refl _ _) (by omega) _)
              have F2 : IsRow (W.setRow b (row 8 (mulF p n (mtab f) (mtab f i j) (ebas k)))) w.heap.size ∧ blk (W.setRow b (row 8 (mulF p n (mtab f) (mtab f i j) (ebas k)))) w.heap.size = alg p n f := by simp [go_sem, x1, x2, m1, hb0']
              have F3 : IsRow (W.setRow b (row 8 (mulF p n (mtab f) (mtab f i j) (ebas k)))) b ∧ blk (W.setRow b (row 8 (mulF p n (mtab f) (mtab f i j) (ebas k)))) b = row 8 (mulF p n (mtab f) (mtab f i j) (ebas k)) := by simp [go_sem, m1]
              clear x1 x2 m1 m2
              generalize W.setRow b (row 8 (mulF p n (mtab f) (mtab f i j) (ebas k))) = W1 at F1 F2 F3 ⊢
              obtain ⟨x1, x2⟩ := F2
              obtain ⟨x3, x4⟩ := F3
              have y1 := isRow_lt x1
              have y3 := isRow_lt x3
              have HC2 : ∀ W, Below W1.heap.size W1 W → (IsRow W w.heap.size ∧ blk W w.heap.size = alg p n f) ∧ (IsRow W b ∧ blk W b = row 8 (mulF p n (mtab f) (mtab f i j) (ebas k))) :=
                fun W h => ⟨keepB h y1 x1 x2, keepB h y3 x3 x4⟩
              clear x1 x2 x3 x4
              refine wp_quiet_alloc 10 _ (.cells (row 8 zf) 32) (Below W1.heap.size W1) (Made W1 (row 8 zf)) (by kernel_rfl) rfl rfl (by kernel_rfl) (fun a W => (xallocVec _ _ _ _ _ _ _).trans (allocVec W)) (closed_below W1) (closed_made W1 _) (fun b W h => h.1) (fun W h => made_new W1 _ _ W h) (Below.refl _ _).drew ?_
              simp only [List.take_succ_cons, List.take_zero, List.drop_succ_cons, List.drop_zero]
              repeat (first | (refine e_skip (by rfl) ?_; simp only [Act.put, List.setIfInBounds_toArray, List.set_cons_zero, List.set_cons_succ]) | (refine e_want (by rfl) ?_; apply Exists.intro; refine ⟨fun D hD hK W hW => ?_, ?_⟩; (focus (obtain ⟨⟨x1, x2⟩, x3, x4⟩ := HC2 W (hD W hW); unfold Oper.quietAt; go_simp; first | done | rfl | (first | (go_at_call 71; exact (basisAt i hi8' _).mono fun e w2 ⟨he, hw2⟩ => ⟨he, hK _ _ hW hw2⟩) | (go_at_call 146; exact (multiply_any p n f _ _ _ hp hp' hn HF.out HE2.out HM2.out).mono fun e w2 ⟨he, hw2⟩ => ⟨he, hK _ _ hW hw2⟩)))); simp only [Act.put, List.setIfInBounds_toArray, List.set_cons_zero, List.set_cons_succ]))
              refine e_nil ?_
              intro b2 W hW
              obtain ⟨hW2, hbb2, m1, m2⟩ := hW
              obtain ⟨⟨x1, x2⟩, x3, x4⟩ := HC2 W hW2
              clear HC2
              have q1 : b2 ≠ w.heap.size := by omega
              have q1' := Ne.symm q1
              have q2 : b2 ≠ b := by omega
              have q2' := Ne.symm q2
              have hb2 : Below w.heap.size w (W.setRow b2 (row 8 (mulF p n (mtab f) (ebas i) (mtab f j k)))) := (F1.trans (hW2.mono F1.size)).trans (below_setRow (Below.refl _ _) (by omega) _)
              simp only [Act.put, List.setIfInBounds_toArray, List.set_cons_zero, List.set_cons_succ]
              cases hq : segEq 0 8 (mulF p n (mtab f) (mtab f i j) (ebas k)) (mulF p n (mtab f) (ebas i) (mtab f j k))
              · have H := Lib.hid (show FirstAt p n f i j k from ⟨hlt, hjt, hkt, by unfold faultAt; rw [hq]; rfl, Hc3.out⟩)
                go_wp2
                go_ret
                refine .inr ⟨_, i, j, k, rfl, H.out, hb2.alloc hb2.size _, ?_, ?_, ?_⟩
                · have := hb2.size; simp at this ⊢; omega
                · simp [go_sem]
                · simp [go_sem, cells3]
              · have H := Lib.hid (clean_step Hc3.out (by unfold faultAt; rw [hq]; rfl))
                go_wp2
                go_roundw
                case rel => exact ⟨k + 1, by omega, by go_num, hb2, by simp [go_sem, x1, x2, q1', m1], H.out⟩
                case measure => simp [intOf]; omega
            · obtain rfl : k = n := by omega
              go_wp2
              go_roundw
              case rel => exact ⟨j + 1, by omega, by go_num, hb, ⟨r0, c0⟩, clean_col Hc3.out⟩
              case measure => simp [intOf]; omega
        · obtain rfl : j = n := by omega
          go_wp2
          go_roundw
          case rel => exact ⟨i + 1, by omega, by go_num, hb', ⟨s0, d0⟩, clean_row Hc2.out⟩
          case measure => simp [intOf]; omega
    · obtain rfl : i = n := by omega
      go_wp2
      go_ret
      exact .inl ⟨rfl, fun i' j' k' h1 h2 h3 => Hc.out.rows i' j' k' h1 h2 h3, hb⟩
end
section
open Go.RowKit
set_option linter.unusedSimpArgs false
set_option linter.unusedVariables false

set_option maxRecDepth 100000 in
set_option maxHeartbeats 4000000 in
theorem l01Fault_any (p : Int) (n : Nat) (f : Nat → Int) (w : World) (hp : 0 < p) (hp' : p ≤ 255) (hn : n ≤ 8) (hF : Bytes 520 f) :
    Calls Tryz.prog 167 #[.agg (alg p n f)] w fun e w' =>
      (e = .returned (.tuple #[.slice none 0 0, .bool false]) ∧ NoFault p n f ∧ Below w.heap.size w w') ∨
      (∃ b i j k, e = .returned (.tuple #[.slice (some ⟨b, 0, none⟩) 3 3, .bool true]) ∧ FirstAt p n f i j k ∧ Below w.heap.size w w' ∧ w.heap.size ≤ b ∧ IsRow w' b ∧ blk w' b = cells3 i j k) := by
  have HF := Lib.hid hF
  clear hF
  go_enter Tryz.func167, Tryz.ntmps167
  go_wp2
  go_loopw [4] (fun s wr => ∃ i : Nat, i ≤ n ∧ s = .int .i64 i ∧ Below w.heap.size w wr ∧ (IsRow wr w.heap.size ∧ blk wr w.heap.size = alg p n f) ∧ Clean3 p n f i 0 0) (fun s _ => n - (intOf s).toNat)
  case atStart => exact ⟨0, by omega, rfl, (Below.refl _ _).alloc (Nat.le_refl _) _, by simp [go_sem], clean_start p n f⟩
  case round =>
    obtain ⟨i, hi, rfl, hb, ⟨r0, c0⟩, hc⟩ := hrel
    have Hc := Lib.hid hc
    clear hc
    by_cases hlt : i < n
    · have hi8 : (i : Int) < 8 := by omega
      have hi8' : i < 8 := by omega
      go_wp2
      obtain ⟨wo, rfl⟩ : ∃ wo : World, wo = wr := ⟨_, rfl⟩
      go_loopw [5] (fun s wr => ∃ j : Nat, j ≤ n ∧ s = .int .i64 j ∧ Below w.heap.size w wr ∧ (IsRow wr w.heap.size ∧ blk wr w.heap.size = alg p n f) ∧ Clean3 p n f i j 0) (fun s _ => n - (intOf s).toNat)
      case atStart => exact ⟨0, by omega, rfl, hb, ⟨r0, c0⟩, Hc.out⟩
      case round =>
        obtain ⟨j, hj, rfl, hb', ⟨s0, d0⟩, hc⟩ := hrel
        have Hc2 := Lib.hid hc
        clear hc hb r0 c0
        by_cases hjt : j < n
        · have hj8 : (j : Int) < 8 := by omega
          have hj8' : j < 8 := by omega
          go_wp2
          obtain ⟨wo2, rfl⟩ : ∃ wo2 : World, wo2 = wr := ⟨_, rfl⟩
          go_loopw [6] (fun s wr => ∃ k : Nat, k ≤ n ∧ s = .int .i64 k ∧ Below w.heap.size w wr ∧ (IsRow wr w.heap.size ∧ blk wr w.heap.size = alg p n f) ∧ Clean3 p n f i j k) (fun s _ => n - (intOf s).toNat)
          case atStart => exact ⟨0, by omega, rfl, hb', ⟨s0, d0⟩, Hc2.out⟩
          case round =>
            obtain ⟨k, hk, rfl, hb, ⟨r0, c0⟩, hc⟩ := hrel
            have Hc3 := Lib.hid hc
            clear hc hb' s0 d0
            by_cases hkt : k < n
            · have hk8 : (k : Int) < 8 := by omega
              have hk8' : k < 8 := by omega
              have z0 := isRow_lt r0
              have hbz := hb.size
              have HM1 : Hid (Bytes 8 (mtab f i j)) := Lib.hid (mtab_bytes HF.out i j hi8' hj8')
              have HM2 : Hid (Bytes 8 (mtab f j k)) := Lib.hid (mtab_bytes HF.out j k hj8' hk8')
              have HE1 : Hid (Bytes 8 (ebas k)) := Lib.hid (ebas_bytes k)
              have HE2 : Hid (Bytes 8 (ebas i)) := Lib.hid (ebas_bytes i)
              have e1 := alg_at8 p n f i j hi8' hj8'
              have e2 := alg_at8 p n f j k hj8' hk8'
              have l1 : 10 + i * 64 + j * 8 + 8 ≤ 522 := by omega
              have l2 : 10 + j * 64 + k * 8 + 8 ≤ 522 := by omega
              have HC : ∀ W, Below wr.heap.size wr W → IsRow W w.heap.size ∧ blk W w.heap.size = alg p n f := fun W h => keepB h z0 r0 c0
              go_wp2
              refine wp_quiet_all (Below wr.heap.size wr) (by kernel_rfl) (by kernel_rfl) (Below.refl _ _).drew ?_
              repeat (first | (refine q_skip (by rfl) ?_; simp only [Act.put, List.setIfInBounds_toArray, List.set_cons_zero, List.set_cons_succ]) | (refine q_want (by rfl) ?_; apply Exists.intro; refine ⟨fun W hW => ?_, ?_⟩; (focus (obtain ⟨x1, x2⟩ := HC W hW; go_simp; first | done | rfl | (first | (go_at_call 124; refine (l01BasisAt _ ?_ _).mono (fun e w2 ⟨he, hw2⟩ => ⟨he, hW.trans (hw2.mono hW.size)⟩); first | exact hk8' | exact hi8') | (go_at_call 85; refine (l01Times_any p n f _ _ _ hp hp' hn HF.out ?_ ?_).mono (fun e w2 ⟨he, hw2⟩ => ⟨he, hW.trans (hw2.mono hW.size)⟩) <;> first | exact HM1.out | exact HE1.out | exact HE2.out | exact HM2.out)))); simp only [Act.put, List.setIfInBounds_toArray, List.set_cons_zero, List.set_cons_succ]))
              refine wpQuiet_nil ?_
              intro W hW
              obtain ⟨x1, x2⟩ := HC W hW
              have hb2 := hb.trans (hW.mono hbz)
              cases hq : segEq 0 8 (mulF p n (mtab f) (mtab f i j) (ebas k)) (mulF p n (mtab f) (ebas i) (mtab f j k))
              · have H := Lib.hid (show FirstAt p n f i j k from ⟨hlt, hjt, hkt, by unfold faultAt; rw [hq]; rfl, Hc3.out⟩)
                go_wp2
                go_ret2
                refine .inr ⟨_, i, j, k, rfl, H.out, hb2.alloc hb2.size _, ?_, ?_, ?_⟩
                · have := hb2.size; simp at this ⊢; omega
                · simp [go_sem]
                · simp [go_sem, cells3]
              · have H := Lib.hid (clean_step Hc3.out (by unfold faultAt; rw [hq]; rfl))
                go_wp2
                go_roundw
                case rel => exact ⟨k + 1, by omega, by go_num, hb2, ⟨x1, x2⟩, H.out⟩
                case measure => simp [intOf]; omega
            · obtain rfl : k = n := by omega
              go_wp2
              go_roundw
              case rel => exact ⟨j + 1, by omega, by go_num, hb, ⟨r0, c0⟩, clean_col Hc3.out⟩
              case measure => simp [intOf]; omega
        · obtain rfl : j = n := by omega
          go_wp2
          go_roundw
          case rel => exact ⟨i + 1, by omega, by go_num, hb', ⟨s0, d0⟩, clean_row Hc2.out⟩
          case measure => simp [intOf]; omega
    · obtain rfl : i = n := by omega
      go_wp2
      go_ret2
      exact .inl ⟨rfl, fun i' j' k' h1 h2 h3 => Hc.out.rows i' j' k' h1 h2 h3, hb⟩
end
section
open Go.RowKit
-- an elaborator's whnf of the goal runs through a chain of skipped operations otherwise (120 s)
attribute [local irreducible] wpQuiet wpQE
set_option linter.unusedSimpArgs false
set_option linter.unusedVariables false

/-- there is no fault, as a Boolean -/
def noFaultB (p : Int) (n : Nat) (f : Nat → Int) : Bool := (List.range n).all fun i => (List.range n).all fun j => (List.range n).all fun k => !faultAt p n f i j k
theorem noFaultB_iff (p : Int) (n : Nat) (f : Nat → Int) : noFaultB p n f = true ↔ NoFault p n f := by
  unfold noFaultB NoFault
  simp only [List.all_eq_true, List.mem_range, Bool.not_eq_true']
  exact ⟨fun h i j k hi hj hk => h i hi j hj k hk, fun h i hi j hj k hk => h i j k hi hj hk⟩
theorem noFaultB_not {p : Int} {n : Nat} {f : Nat → Int} {i j k : Nat} (h : FirstAt p n f i j k) : noFaultB p n f = false := by
  cases hq : noFaultB p n f
  · rfl
  · exact (first_not h ((noFaultB_iff p n f).1 hq)).elim
/-- p, n, f are an algebra -/
def algB (p n : Int) (f : Nat → Int) : Bool := shapeB p n f && (unitB p n.toNat f && noFaultB p n.toNat f)
theorem shape_sizes {p n : Int} {f : Nat → Int} (h : shapeB p n f = true) : sizesB p n = true := by
  unfold shapeB at h
  simp only [Bool.and_eq_true] at h
  exact h.1

theorem nil_none (w : World) : (binOp .eql 76 (.slice none 0 0) (.slice none 0 0)).run Tryz.prog w = .ok (.bool true) w := by kernel_rfl
theorem nil_some (a : Addr) (n c : Nat) (w : World) : (binOp .eql 76 (.slice (some a) n c) (.slice none 0 0)).run Tryz.prog w = .ok (.bool false) w := by kernel_rfl

set_option maxRecDepth 100000 in
set_option maxHeartbeats 1000000 in
theorem isAlgebra_any (p n : Int) (f : Nat → Int) (w : World) (hF : Bytes 520 f) :
    Calls Tryz.prog 159 #[.agg (alg p n f)] w fun e w' => e = .returned (.bool (algB p n f)) ∧ Below w.heap.size w w' := by
  have HF := Lib.hid hF
  clear hF
  cases hs : shapeB p n f
  · have H : Hid (algB p n f = false) := Lib.hid (by unfold algB; rw [hs]; rfl)
    go_enter Tryz.func159, Tryz.ntmps159
    go_wp2_with (go_at_call 134; refine (isShaped_any _ _ _ _ HF.out).mono ?_; rintro e w1 ⟨rfl, hw1⟩)
    go_ret
    exact ⟨ret_bool (by rw [H.out] <;> rfl), ((Below.refl _ _).alloc (Nat.le_refl _) _).trans (hw1.mono (by simp))⟩
  · obtain ⟨hp2, hp31, hn1, hn8⟩ := sizes_range (shape_sizes hs)
    obtain ⟨n, rfl⟩ := Int.eq_ofNat_of_zero_le (show 0 ≤ n by omega)
    have hn : n ≤ 8 := by omega
    have ht : ((n : Nat) : Int).toNat = n := by omega
    cases hu : unitB p n f
    · have H : Hid (algB p n f = false) := Lib.hid (by unfold algB; rw [hs, ht, hu]; rfl)
      clear ht
      go_enter Tryz.func159, Tryz.ntmps159
      go_wp2_with (first | (go_at_call 134; refine (isShaped_any _ _ _ _ HF.out).mono ?_; rintro e w1 ⟨rfl, hw1⟩; obtain ⟨x1, x2⟩ := keepB (b := w.heap.size) (c := alg p n f) hw1 (by simp) (by simp [go_sem]) (by simp [go_sem])) | (go_at_call 171; refine (hasUnit_any p n f _ (by omega) (by omega) hn HF.out).mono ?_; rintro e w2 ⟨rfl, hw2⟩))
      go_ret
      have z1 := hw1.size
      simp only [World.size_alloc] at z1
      exact ⟨ret_bool (by rw [H.out] <;> rfl), (((Below.refl _ _).alloc (Nat.le_refl _) _).trans (hw1.mono (by simp))).trans (hw2.mono (by omega))⟩
    · have H : Hid (algB p n f = noFaultB p n f) := Lib.hid (by unfold algB; rw [hs, ht, hu]; rfl)
      clear ht
      go_enter Tryz.func159, Tryz.ntmps159
      go_wp2_with (first | (go_at_call 134; refine (isShaped_any _ _ _ _ HF.out).mono ?_; rintro e w1 ⟨rfl, hw1⟩; obtain ⟨x1, x2⟩ := keepB (b := w.heap.size) (c := alg p n f) hw1 (by simp) (by simp [go_sem]) (by simp [go_sem])) | (go_at_call 171; refine (hasUnit_any p n f _ (by omega) (by omega) hn HF.out).mono ?_; rintro e w2 ⟨rfl, hw2⟩; obtain ⟨x3, x4⟩ := keepB hw2 (isRow_lt x1) x1 x2))
      have z1 := hw1.size
      simp only [World.size_alloc] at z1
      have z2 := hw2.size
      have hb2 := (((Below.refl w.heap.size w).alloc (Nat.le_refl _) (.cells (alg p n f) 131)).trans (hw1.mono (by simp))).trans (hw2.mono (by omega))
      refine (findFault_any p n f _ (by omega) (by omega) hn HF.out).mono ?_
      have hn1 := nil_none
      have hn2 := nil_some
      rintro e w3 (⟨rfl, hno, hw3⟩ | ⟨b, i, j, k, rfl, hfi, hw3, hbb, r3, c3⟩)
      · have HN : Hid (noFaultB p n f = true) := Lib.hid ((noFaultB_iff p n f).2 hno)
        clear hno
        go_wp2
        go_ret
        exact ⟨ret_bool (by rw [H.out, HN.out] <;> rfl), hb2.trans (hw3.mono (by omega))⟩
      · have HN : Hid (noFaultB p n f = false) := Lib.hid (noFaultB_not hfi)
        clear hfi
        go_wp2
        go_ret
        exact ⟨ret_bool (by rw [H.out, HN.out] <;> rfl), hb2.trans (hw3.mono (by omega))⟩

set_option maxRecDepth 100000 in
set_option maxHeartbeats 2000000 in
theorem l01Is_any (p n : Int) (f : Nat → Int) (w : World) (hF : Bytes 520 f) :
    Calls Tryz.prog 148 #[.agg (alg p n f)] w fun e w' => e = .returned (.bool (algB p n f)) ∧ Below w.heap.size w w' := by
  have HF := Lib.hid hF
  clear hF
  cases hs : shapeB p n f
  · have H : Hid (algB p n f = false) := Lib.hid (by unfold algB; rw [hs]; rfl)
    go_enter Tryz.func148, Tryz.ntmps148
    go_wp2_with (go_at_call 114; refine (l01Shape_any _ _ _ _ HF.out).mono ?_; rintro e w1 ⟨rfl, hw1⟩)
    go_ret
    exact ⟨ret_bool (by rw [H.out] <;> rfl), ((Below.refl _ _).alloc (Nat.le_refl _) _).trans (hw1.mono (by simp))⟩
  · obtain ⟨hp2, hp31, hn1, hn8⟩ := sizes_range (shape_sizes hs)
    obtain ⟨n, rfl⟩ := Int.eq_ofNat_of_zero_le (show 0 ≤ n by omega)
    have hn : n ≤ 8 := by omega
    have hp : 0 < p := by omega
    have hp' : p ≤ 255 := by omega
    have ht : ((n : Nat) : Int).toNat = n := by omega
    have HA : Hid (algB p n f = (unitB p n f && noFaultB p n f)) := Lib.hid (by unfold algB; rw [hs, ht]; rfl)
    clear ht
    go_enter Tryz.func148, Tryz.ntmps148
    go_wp2_with (go_at_call 114; refine (l01Shape_any _ _ _ _ HF.out).mono ?_; rintro e w1 ⟨rfl, hw1⟩)
    obtain ⟨r0, c0⟩ := keepB (b := w.heap.size) (c := alg p n f) hw1 (by simp) (by simp [go_sem]) (by simp [go_sem])
    have hb0 := ((Below.refl w.heap.size w).alloc (Nat.le_refl _) (.cells (alg p n f) 131)).trans (hw1.mono (by simp))
    go_loopw [3] (fun s wr => ∃ k : Nat, k ≤ n ∧ s = .int .i64 k ∧ Below w.heap.size w wr ∧ (IsRow wr w.heap.size ∧ blk wr w.heap.size = alg p n f) ∧ ∀ i, i < k → unitAt p n f i = true) (fun s _ => n - (intOf s).toNat)
    case atStart => exact ⟨0, by omega, rfl, hb0, ⟨r0, c0⟩, fun i hi => by omega⟩
    case round =>
      obtain ⟨k, hk, rfl, hb, ⟨s0, d0⟩, hn'⟩ := hrel
      have Hn := Lib.hid hn'
      clear hn' r0 c0 hb0 hw1
      have z0 := isRow_lt s0
      have hbz := hb.size
      by_cases hlt : k < n
      · have hi8 : (k : Int) < 8 := by omega
        have hk8 : k < 8 := by omega
        have HE : Hid (Bytes 8 (ebas k)) := Lib.hid (ebas_bytes k)
        have HU : Hid (Bytes 8 f) := Lib.hid (unit_bytes HF.out)
        have HC : ∀ W, Below wr.heap.size wr W → IsRow W w.heap.size ∧ blk W w.heap.size = alg p n f := fun W h => keepB h z0 s0 d0
        cases hu1 : segEq 0 8 (mulF p n (mtab f) f (ebas k)) (ebas k)
        · have H : Hid (unitB p n f = false) := Lib.hid (all_no (q := unitAt p n f) k n hlt (by unfold unitAt; rw [hu1]; rfl))
          go_wp2
          refine wp_quiet_all (Below wr.heap.size wr) (by kernel_rfl) (by kernel_rfl) (Below.refl _ _).drew ?_
          repeat (first | (refine q_plain rfl ?_; apply Exists.intro; refine ⟨fun W hW => ?_, ?_⟩; (focus (obtain ⟨x1, x2⟩ := HC W hW; go_simp; first | done | rfl | (first | (go_at_call 124; exact (l01BasisAt k hk8 _).mono fun e w2 ⟨he, hw2⟩ => ⟨he, hW.trans (hw2.mono hW.size)⟩) | (go_at_call 85; refine (l01Times_any p n f _ _ _ hp hp' hn HF.out ?_ ?_).mono (fun e w2 ⟨he, hw2⟩ => ⟨he, hW.trans (hw2.mono hW.size)⟩) <;> first | exact HU.out | exact HE.out)))); simp only [Act.put, List.setIfInBounds_toArray, List.set_cons_zero, List.set_cons_succ]) | (refine q_skip (by rfl) ?_; simp only [Act.put, List.setIfInBounds_toArray, List.set_cons_zero, List.set_cons_succ]) | (refine q_want (by rfl) ?_; apply Exists.intro; refine ⟨fun W hW => ?_, ?_⟩; (focus (obtain ⟨x1, x2⟩ := HC W hW; go_simp; first | done | rfl | (first | (go_at_call 124; exact (l01BasisAt k hk8 _).mono fun e w2 ⟨he, hw2⟩ => ⟨he, hW.trans (hw2.mono hW.size)⟩) | (go_at_call 85; refine (l01Times_any p n f _ _ _ hp hp' hn HF.out ?_ ?_).mono (fun e w2 ⟨he, hw2⟩ => ⟨he, hW.trans (hw2.mono hW.size)⟩) <;> first | exact HU.out | exact HE.out)))); simp only [Act.put, List.setIfInBounds_toArray, List.set_cons_zero, List.set_cons_succ]))
          refine wpQuiet_nil ?_
          intro W hW
          obtain ⟨x1, x2⟩ := HC W hW
          have hb2 := hb.trans (hW.mono hbz)
          go_wp2
          go_ret
          exact ⟨ret_bool (by rw [HA.out, H.out] <;> rfl), hb2⟩
        · cases hu2 : segEq 0 8 (mulF p n (mtab f) (ebas k) f) (ebas k)
          · have H : Hid (unitB p n f = false) := Lib.hid (all_no (q := unitAt p n f) k n hlt (by unfold unitAt; rw [hu1, hu2]; rfl))
            go_wp2
            refine wp_quiet_all (Below wr.heap.size wr) (by kernel_rfl) (by kernel_rfl) (Below.refl _ _).drew ?_
            repeat (first | (refine q_plain rfl ?_; apply Exists.intro; refine ⟨fun W hW => ?_, ?_⟩; (focus (obtain ⟨x1, x2⟩ := HC W hW; go_simp; first | done | rfl | (first | (go_at_call 124; exact (l01BasisAt k hk8 _).mono fun e w2 ⟨he, hw2⟩ => ⟨he, hW.trans (hw2.mono hW.size)⟩) | (go_at_call 85; refine (l01Times_any p n f _ _ _ hp hp' hn HF.out ?_ ?_).mono (fun e w2 ⟨he, hw2⟩ => ⟨he, hW.trans (hw2.mono hW.size)⟩) <;> first | exact HU.out | exact HE.out)))); simp only [Act.put, List.setIfInBounds_toArray, List.set_cons_zero, List.set_cons_succ]) | (refine q_skip (by rfl) ?_; simp only [Act.put, List.setIfInBounds_toArray, List.set_cons_zero, List.set_cons_succ]) | (refine q_want (by rfl) ?_; apply Exists.intro; refine ⟨fun W hW => ?_, ?_⟩; (focus (obtain ⟨x1, x2⟩ := HC W hW; go_simp; first | done | rfl | (first | (go_at_call 124; exact (l01BasisAt k hk8 _).mono fun e w2 ⟨he, hw2⟩ => ⟨he, hW.trans (hw2.mono hW.size)⟩) | (go_at_call 85; refine (l01Times_any p n f _ _ _ hp hp' hn HF.out ?_ ?_).mono (fun e w2 ⟨he, hw2⟩ => ⟨he, hW.trans (hw2.mono hW.size)⟩) <;> first | exact HU.out | exact HE.out)))); simp only [Act.put, List.setIfInBounds_toArray, List.set_cons_zero, List.set_cons_succ]))
            refine wpQuiet_nil ?_
            intro W hW
            obtain ⟨x1, x2⟩ := HC W hW
            have hb2 := hb.trans (hW.mono hbz)
            go_wp2
            go_ret
            exact ⟨ret_bool (by rw [HA.out, H.out] <;> rfl), hb2⟩
          · have H := Lib.hid (upto_more (q := unitAt p n f) Hn.out (by unfold unitAt; rw [hu1, hu2]; rfl))
            go_wp2
            refine wp_quiet_all (Below wr.heap.size wr) (by kernel_rfl) (by kernel_rfl) (Below.refl _ _).drew ?_
            repeat (first | (refine q_plain rfl ?_; apply Exists.intro; refine ⟨fun W hW => ?_, ?_⟩; (focus (obtain ⟨x1, x2⟩ := HC W hW; go_simp; first | done | rfl | (first | (go_at_call 124; exact (l01BasisAt k hk8 _).mono fun e w2 ⟨he, hw2⟩ => ⟨he, hW.trans (hw2.mono hW.size)⟩) | (go_at_call 85; refine (l01Times_any p n f _ _ _ hp hp' hn HF.out ?_ ?_).mono (fun e w2 ⟨he, hw2⟩ => ⟨he, hW.trans (hw2.mono hW.size)⟩) <;> first | exact HU.out | exact HE.out)))); simp only [Act.put, List.setIfInBounds_toArray, List.set_cons_zero, List.set_cons_succ]) | (refine q_skip (by rfl) ?_; simp only [Act.put, List.setIfInBounds_toArray, List.set_cons_zero, List.set_cons_succ]) | (refine q_want (by rfl) ?_; apply Exists.intro; refine ⟨fun W hW => ?_, ?_⟩; (focus (obtain ⟨x1, x2⟩ := HC W hW; go_simp; first | done | rfl | (first | (go_at_call 124; exact (l01BasisAt k hk8 _).mono fun e w2 ⟨he, hw2⟩ => ⟨he, hW.trans (hw2.mono hW.size)⟩) | (go_at_call 85; refine (l01Times_any p n f _ _ _ hp hp' hn HF.out ?_ ?_).mono (fun e w2 ⟨he, hw2⟩ => ⟨he, hW.trans (hw2.mono hW.size)⟩) <;> first | exact HU.out | exact HE.out)))); simp only [Act.put, List.setIfInBounds_toArray, List.set_cons_zero, List.set_cons_succ]))
            refine wpQuiet_nil ?_
            intro W hW
            obtain ⟨x1, x2⟩ := HC W hW
            have hb2 := hb.trans (hW.mono hbz)
            go_wp2
            go_roundw
            case rel => exact ⟨k + 1, by omega, by go_num, hb2, ⟨x1, x2⟩, H.out⟩
            case measure => simp [intOf]; omega
      · have H : Hid (unitB p n f = true) := Lib.hid (all_yes (q := unitAt p n f) n fun i hi => Hn.out i (by omega))
        go_wp2_with fail
        refine (l01Fault_any p n f _ hp hp' hn HF.out).mono ?_
        rintro e w3 (⟨rfl, hno, hw3⟩ | ⟨b, i, j, l, rfl, hfi, hw3, hbb, r3, c3⟩)
        · have HN : Hid (noFaultB p n f = true) := Lib.hid ((noFaultB_iff p n f).2 hno)
          clear hno
          go_wp2
          go_ret
          exact ⟨ret_bool (by rw [HA.out, H.out, HN.out] <;> rfl), hb.trans (hw3.mono hbz)⟩
        · have HN : Hid (noFaultB p n f = false) := Lib.hid (noFaultB_not hfi)
          clear hfi
          go_wp2
          go_ret
          exact ⟨ret_bool (by rw [HA.out, H.out, HN.out] <;> rfl), hb.trans (hw3.mono hbz)⟩
end
section
open Go.RowKit
set_option linter.unusedSimpArgs false
set_option linter.unusedVariables false

/-! ### laws.Algebra -/
theorem cell_i64 {P : Program} {w : World} {r : Reach} {base u : Nat} {v : Value} (hu : P.underlying u = some (.int .i64)) (h : Cell.okWide P w r base u v) : ∃ n : Int, v = .int .i64 n ∧ (Lit.int .i64 n).wf = true := by
  unfold Cell.okWide at h
  rw [hu] at h
  cases v <;> simp [Cell.ok, hu] at h
  obtain ⟨rfl, h1⟩ := h
  exact ⟨_, rfl, by simp [Lit.wf, IntKind.has, IntKind.min, IntKind.max, IntKind.signed, IntKind.bits] at h1 ⊢; omega⟩
/-! ### the copies -/
theorem upto_part (n m k : Nat) (v : Nat → Int) (h : k * m + m ≤ n) : lay (row n (upto (k * m) v)) (k * m) (row m fun t => v (k * m + t)) = row n (upto ((k + 1) * m) v) := by
  rw [lay_row _ _ _ _ _ h]
  refine row_congr fun i _ => ?_
  unfold upto
  rw [Nat.add_mul, Nat.one_mul]
  by_cases h1 : k * m ≤ i ∧ i < k * m + m
  · rw [if_pos h1, if_pos h1.2, show k * m + (i - k * m) = i by omega]
  · rw [if_neg h1]
    by_cases h2 : i < k * m
    · rw [if_pos h2, if_pos (by omega)]
    · rw [if_neg h2, if_neg (by omega)]

set_option maxRecDepth 100000 in
theorem toLinear_any (v : Nat → Int) (w : World) :
    Calls Tryz.prog 35 #[.agg (row 64 v)] w fun e w' => e = .returned (.agg (row 64 v)) ∧ Below w.heap.size w w' := by
  go_enter Tryz.func35, Tryz.ntmps35
  go_wp2
  go_loopw [4] (fun i wr => ∃ k : Nat, k ≤ 8 ∧ i = .int .i64 k ∧ Below w.heap.size w wr ∧ (IsRow wr w.heap.size ∧ blk wr w.heap.size = row 64 v) ∧ (IsRow wr (w.heap.size + 1) ∧ blk wr (w.heap.size + 1) = row 64 zf) ∧
      (IsRow wr (w.heap.size + 2) ∧ blk wr (w.heap.size + 2) = row 64 (upto (k * 8) v))) (fun i _ => 8 - (intOf i).toNat)
  case atStart =>
    refine ⟨0, by omega, rfl, (((Below.refl _ _).alloc (Nat.le_refl _) _).alloc (by simp) _).alloc (by simp; omega) _, by simp [go_sem], by simp [go_sem], by simp [go_sem], ?_⟩
    rw [Nat.zero_mul, upto_zero]; simp [go_sem]
  case round =>
    obtain ⟨k, hk, rfl, hb, ⟨r0, c0⟩, ⟨r1, c1⟩, ⟨r2, c2⟩⟩ := hrel
    have z0 := isRow_lt r0
    have z1 := isRow_lt r1
    have z2 := isRow_lt r2
    by_cases hlt : k < 8
    · have hi8 : (k : Int) < 8 := by omega
      have hk8 : k * 8 + 8 ≤ 64 := by omega
      have H := Lib.hid (upto_part 64 8 k v hk8)
      go_wp2_with (go_at_call 12; refine (toVector_any (fun t => v (k * 8 + t)) _).mono ?_; rintro e w1 ⟨rfl, hw1⟩; obtain ⟨x0, y0⟩ := keepB hw1 z0 r0 c0; obtain ⟨x1, y1⟩ := keepB hw1 z1 r1 c1; obtain ⟨x2, y2⟩ := keepB hw1 z2 r2 c2)
      go_roundw
      case rel =>
        refine ⟨k + 1, by omega, by go_num, (hb.trans (hw1.mono hb.size)).trans (below_setRow (Below.refl _ _) (by omega) _), by simp [go_sem, x0, y0, x2], by simp [go_sem, x1, y1, x2], by simp [go_sem, x2], ?_⟩
        rw [blk_setRow _ _ _ _ x2, if_pos rfl]
        exact H.out
      case measure => simp [intOf]; omega
    · obtain rfl : k = 8 := by omega
      have HT : Hid (row 64 (upto (8 * 8) v) = row 64 v) := Lib.hid (upto_all 64 v)
      rw [HT.out] at c2
      go_wp2
      refine bodyPost_ret (result_cell rfl aggLin _ _ (row 64 v) _ rfl ?_ ?_) rfl ⟨rfl, ?_⟩
      · simp [go_sem, r1, c1]
      · simp [go_sem, r1, c1]
      · exact hb.trans (below_setRow (Below.refl _ _) (by omega) _)

set_option maxRecDepth 100000 in
theorem toTable_any (v : Nat → Int) (w : World) :
    Calls Tryz.prog 34 #[.agg (row 512 v)] w fun e w' => e = .returned (.agg (row 512 v)) ∧ Below w.heap.size w w' := by
  go_enter Tryz.func34, Tryz.ntmps34
  go_wp2
  go_loopw [4] (fun i wr => ∃ k : Nat, k ≤ 8 ∧ i = .int .i64 k ∧ Below w.heap.size w wr ∧ (IsRow wr w.heap.size ∧ blk wr w.heap.size = row 512 v) ∧ (IsRow wr (w.heap.size + 1) ∧ blk wr (w.heap.size + 1) = row 512 zf) ∧
      (IsRow wr (w.heap.size + 2) ∧ blk wr (w.heap.size + 2) = row 512 (upto (k * 64) v))) (fun i _ => 8 - (intOf i).toNat)
  case atStart =>
    refine ⟨0, by omega, rfl, (((Below.refl _ _).alloc (Nat.le_refl _) _).alloc (by simp) _).alloc (by simp; omega) _, by simp [go_sem], by simp [go_sem], by simp [go_sem], ?_⟩
    rw [Nat.zero_mul, upto_zero]; simp [go_sem]
  case round =>
    obtain ⟨k, hk, rfl, hb, ⟨r0, c0⟩, ⟨r1, c1⟩, ⟨r2, c2⟩⟩ := hrel
    have z0 := isRow_lt r0
    have z1 := isRow_lt r1
    have z2 := isRow_lt r2
    by_cases hlt : k < 8
    · have hi8 : (k : Int) < 8 := by omega
      have hk8 : k * 64 + 64 ≤ 512 := by omega
      have H := Lib.hid (upto_part 512 64 k v hk8)
      go_wp2_with (go_at_call 35; refine (toLinear_any (fun t => v (k * 64 + t)) _).mono ?_; rintro e w1 ⟨rfl, hw1⟩; obtain ⟨x0, y0⟩ := keepB hw1 z0 r0 c0; obtain ⟨x1, y1⟩ := keepB hw1 z1 r1 c1; obtain ⟨x2, y2⟩ := keepB hw1 z2 r2 c2)
      go_roundw
      case rel =>
        refine ⟨k + 1, by omega, by go_num, (hb.trans (hw1.mono hb.size)).trans (below_setRow (Below.refl _ _) (by omega) _), by simp [go_sem, x0, y0, x2], by simp [go_sem, x1, y1, x2], by simp [go_sem, x2], ?_⟩
        rw [blk_setRow _ _ _ _ x2, if_pos rfl]
        exact H.out
      case measure => simp [intOf]; omega
    · obtain rfl : k = 8 := by omega
      have HT : Hid (row 512 (upto (8 * 64) v) = row 512 v) := Lib.hid (upto_all 512 v)
      rw [HT.out] at c2
      go_wp2
      refine bodyPost_ret (result_cell rfl aggTab _ _ (row 512 v) _ rfl ?_ ?_) rfl ⟨rfl, ?_⟩
      · simp [go_sem, r1, c1]
      · simp [go_sem, r1, c1]
      · exact hb.trans (below_setRow (Below.refl _ _) (by omega) _)
end
end Go.Proofs.YtjmmmggnbndolaaGreat
