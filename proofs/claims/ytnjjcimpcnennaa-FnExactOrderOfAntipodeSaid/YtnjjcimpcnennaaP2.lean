/- Contracts of isField, l01Sizes, IsVector, l01Vector. -/
import Derived.Test.YtnjjcimpcnennaaP1
import Derived.Test.YtnjjcimpcnennaaArrT
namespace Go.Proofs.Ytnjjcimpcnennaa
open Go.RowKit
set_option linter.unusedSimpArgs false
set_option linter.unusedVariables false

/-- p is a prime in 2..31, n is in 1..8 -/
def sizesB (p n : Int) : Bool := prime31 p && (decide (1 ≤ n) && decide (n ≤ 8))

theorem sizes_no (p n : Int) (h : prime31 p = false) : sizesB p n = false := by simp [sizesB, h]
theorem sizes_of (p n : Int) (h : prime31 p = true) : sizesB p n = (decide (1 ≤ n) && decide (n ≤ 8)) := by simp [sizesB, h]

theorem isField_any (p n : Int) (w : World) :
    Calls Try.prog 80 #[.int .i64 p, .int .i64 n] w fun e w' => e = .returned (.bool (sizesB p n)) ∧ w = w' := by
  cases hp : prime31 p
  · have H := Lib.hid (sizes_no p n hp)
    go_enter Try.func80, Try.ntmps80
    go_wp2_with (go_at_call 95; refine (isPrime_any _ _).mono ?_; rintro e w' ⟨rfl, rfl⟩)
    go_ret
    exact ⟨ret_bool H.out.symm, rfl⟩
  · have H := Lib.hid (sizes_of p n hp)
    go_enter Try.func80, Try.ntmps80
    go_wp2_with (go_at_call 95; refine (isPrime_any _ _).mono ?_; rintro e w' ⟨rfl, rfl⟩)
    all_goals go_ret
    all_goals exact ⟨ret_bool (by rw [H.out]; simp <;> omega), rfl⟩

theorem l01Sizes_any (p n : Int) (w : World) :
    Calls Try.prog 89 #[.int .i64 p, .int .i64 n] w fun e w' => e = .returned (.bool (sizesB p n)) ∧ w = w' := by
  cases hp : prime31 p
  · have H := Lib.hid (sizes_no p n hp)
    go_enter Try.func89, Try.ntmps89
    go_wp2_with (go_at_call 102; refine (specPrime_any _ _).mono ?_; rintro e w' ⟨rfl, rfl⟩)
    go_ret
    exact ⟨ret_bool H.out.symm, rfl⟩
  · have H := Lib.hid (sizes_of p n hp)
    go_enter Try.func89, Try.ntmps89
    go_wp2_with (first | (go_at_call 102; refine (specPrime_any _ _).mono ?_; rintro e w' ⟨rfl, rfl⟩) | (go_at_call 103; refine (lin_any _ _ _ _).mono ?_; rintro e w' ⟨rfl, rfl⟩))
    go_ret
    exact ⟨ret_bool H.out.symm, rfl⟩

/-- each of the first n entries is a byte -/
def Bytes (n : Nat) (f : Nat → Int) : Prop := ∀ i, i < n → 0 ≤ f i ∧ f i ≤ 255

/-- entry i is a number modulo p, and 0 from n on -/
def entB (p n : Int) (v : Nat → Int) (i : Nat) : Bool := decide (v i < p) && (decide ((i : Int) < n) || decide (v i = 0))
/-- v is a vector for p and n -/
def vecB (p n : Int) (v : Nat → Int) : Bool := (List.range 8).all (entB p n v)

theorem vecB_no (p n : Int) (v : Nat → Int) (k : Nat) (hk : k < 8) (h : entB p n v k = false) : vecB p n v = false := by
  unfold vecB; rw [List.all_eq_false]; exact ⟨k, by simpa using hk, by simp [h]⟩
theorem vecB_yes (p n : Int) (v : Nat → Int) (h : ∀ i, i < 8 → entB p n v i = true) : vecB p n v = true := by
  unfold vecB; rw [List.all_eq_true]; intro i hi; exact h i (by simpa using hi)
theorem ent_succ {p n : Int} {v : Nat → Int} {k : Nat} (h : ∀ i, i < k → entB p n v i = true) (hk : entB p n v k = true) : ∀ i, i < k + 1 → entB p n v i = true := by
  intro i hi
  by_cases e : i = k
  · subst e; exact hk
  · exact h i (by omega)
theorem ent_ge {p n : Int} {v : Nat → Int} {k : Nat} (h : p ≤ v k) : entB p n v k = false := by
  unfold entB; rw [decide_eq_false (p := v k < p) (by omega), Bool.false_and]
theorem ent_lt {p n : Int} {v : Nat → Int} {k : Nat} (h : v k < p) (hn : (k : Int) < n) : entB p n v k = true := by
  simp [entB, h, hn]
theorem ent_zero {p n : Int} {v : Nat → Int} {k : Nat} (h : v k < p) (hn : v k = 0) : entB p n v k = true := by
  simp [entB, hn] at h ⊢; exact h
theorem ent_out {p n : Int} {v : Nat → Int} {k : Nat} (hk : n ≤ (k : Int)) (hn : v k ≠ 0) : entB p n v k = false := by
  unfold entB; rw [decide_eq_false (p := (k : Int) < n) (by omega), decide_eq_false hn]; simp

set_option maxRecDepth 100000 in
set_option maxHeartbeats 1000000 in
theorem isVector_any (p n : Int) (v : Nat → Int) (w : World) (hb : Bytes 8 v) :
    Calls Try.prog 78 #[.int .i64 p, .int .i64 n, .agg (row 8 v)] w fun e w' => e = .returned (.bool (sizesB p n && vecB p n v)) ∧ Below w.heap.size w w' := by
  have Hb := Lib.hid hb
  clear hb
  cases hs : sizesB p n
  · go_enter Try.func78, Try.ntmps78
    go_wp2_with (go_at_call 80; refine (isField_any _ _ _).mono ?_; rintro e w' ⟨rfl, rfl⟩)
    go_ret
    exact ⟨rfl, (Below.refl _ _).alloc (Nat.le_refl _) _⟩
  · go_enter Try.func78, Try.ntmps78
    go_wp2_with (go_at_call 80; refine (isField_any _ _ _).mono ?_; rintro e w' ⟨rfl, rfl⟩)
    go_loop [14] (fun i => ∃ k : Nat, k ≤ 8 ∧ i = .int .i64 k ∧ ∀ i, i < k → entB p n v i = true) (fun i => 8 - (intOf i).toNat)
    case atStart => exact ⟨0, by omega, rfl, fun i hi => by omega⟩
    case round =>
      obtain ⟨k, hk, rfl, hn⟩ := hrel
      have Hn := Lib.hid hn
      clear hn
      by_cases hlt : k < 8
      · have hb1 := (Hb.out k hlt).1
        have hb2 := (Hb.out k hlt).2
        by_cases h1 : p ≤ v k
        · have H := Lib.hid (vecB_no p n v k hlt (ent_ge h1))
          go_wp2
          go_ret
          exact ⟨ret_bool (by rw [H.out]), (Below.refl _ _).alloc (Nat.le_refl _) _⟩
        · have h1' : v k < p := by omega
          by_cases h2 : n ≤ (k : Int)
          · by_cases h3 : v k = 0
            · have H := Lib.hid (ent_succ Hn.out (ent_zero (n := n) h1' h3))
              have h3' : (v k != 0) = false := by simpa using h3
              have h3'' : (v k == 0) = true := by simpa using h3
              clear h3
              go_wp2
              go_round
              case rel => exact ⟨k + 1, by omega, by go_num, H.out⟩
              case measure => simp [intOf]; omega
            · have H := Lib.hid (vecB_no p n v k hlt (ent_out h2 h3))
              have h3' : (v k != 0) = true := by simpa using h3
              have h3'' : (v k == 0) = false := by simpa using h3
              clear h3
              go_wp2
              go_ret
              exact ⟨ret_bool (by rw [H.out]), (Below.refl _ _).alloc (Nat.le_refl _) _⟩
          · have H := Lib.hid (ent_succ Hn.out (ent_lt (n := n) h1' (by omega)))
            go_wp2
            go_round
            case rel => exact ⟨k + 1, by omega, by go_num, H.out⟩
            case measure => simp [intOf]; omega
      · have H := Lib.hid (vecB_yes p n v fun i hi => Hn.out i (by omega))
        go_wp2
        go_ret
        exact ⟨ret_bool (by rw [H.out]), (Below.refl _ _).alloc (Nat.le_refl _) _⟩

set_option maxRecDepth 100000 in
set_option maxHeartbeats 1000000 in
theorem l01Vector_any (p n : Int) (v : Nat → Int) (w : World) (hb : Bytes 8 v) :
    Calls Try.prog 69 #[.int .i64 p, .int .i64 n, .agg (row 8 v)] w fun e w' => e = .returned (.bool (vecB p n v)) ∧ Below w.heap.size w w' := by
  have Hb := Lib.hid hb
  clear hb
  go_enter Try.func69, Try.ntmps69
  go_wp2
  go_loop [7] (fun i => ∃ k : Nat, k ≤ 8 ∧ i = .int .i64 k ∧ ∀ i, i < k → entB p n v i = true) (fun i => 8 - (intOf i).toNat)
  case atStart => exact ⟨0, by omega, rfl, fun i hi => by omega⟩
  case round =>
    obtain ⟨k, hk, rfl, hn⟩ := hrel
    have Hn := Lib.hid hn
    clear hn
    by_cases hlt : k < 8
    · have hb1 := (Hb.out k hlt).1
      have hb2 := (Hb.out k hlt).2
      by_cases h1 : p ≤ v k
      · have H := Lib.hid (vecB_no p n v k hlt (ent_ge h1))
        go_wp2
        go_ret
        exact ⟨ret_bool (by rw [H.out]), (Below.refl _ _).alloc (Nat.le_refl _) _⟩
      · have h1' : v k < p := by omega
        by_cases h2 : n ≤ (k : Int)
        · by_cases h3 : v k = 0
          · have H := Lib.hid (ent_succ Hn.out (ent_zero (n := n) h1' h3))
            have h3' : (v k != 0) = false := by simpa using h3
            have h3'' : (v k == 0) = true := by simpa using h3
            clear h3
            go_wp2
            go_round
            case rel => exact ⟨k + 1, by omega, by go_num, H.out⟩
            case measure => simp [intOf]; omega
          · have H := Lib.hid (vecB_no p n v k hlt (ent_out h2 h3))
            have h3' : (v k != 0) = true := by simpa using h3
            have h3'' : (v k == 0) = false := by simpa using h3
            clear h3
            go_wp2
            go_ret
            exact ⟨ret_bool (by rw [H.out]), (Below.refl _ _).alloc (Nat.le_refl _) _⟩
        · have H := Lib.hid (ent_succ Hn.out (ent_lt (n := n) h1' (by omega)))
          go_wp2
          go_round
          case rel => exact ⟨k + 1, by omega, by go_num, H.out⟩
          case measure => simp [intOf]; omega
    · have H := Lib.hid (vecB_yes p n v fun i hi => Hn.out i (by omega))
      go_wp2
      go_ret
      exact ⟨ret_bool (by rw [H.out]), (Below.refl _ _).alloc (Nat.le_refl _) _⟩

/-! ### the laws' copies of arrays -/
/-- v up to k, zeros behind -/
def upto (k : Nat) (v : Nat → Int) : Nat → Int := fun j => if j < k then v j else 0
theorem upto_zero (v : Nat → Int) : upto 0 v = zf := by funext j; simp [upto, zf]
theorem upto_succ (k : Nat) (v : Nat → Int) : upd (upto k v) k (v k) = upto (k + 1) v := by
  funext j
  unfold upd upto
  by_cases e : j = k
  · subst e; simp
  · by_cases h : j < k
    · simp [e, h, show j < k + 1 by omega]
    · simp [e, h, show ¬ j < k + 1 by omega]
theorem upto_all (n : Nat) (v : Nat → Int) : row n (upto n v) = row n v := row_congr fun i hi => by simp [upto, hi]

set_option maxRecDepth 100000 in
set_option maxHeartbeats 1000000 in
theorem toVector_any (v : Nat → Int) (w : World) :
    Calls Try.prog 23 #[.agg (row 8 v)] w fun e w' => e = .returned (.agg (row 8 v)) ∧ Below w.heap.size w w' := by
  go_enter Try.func23, Try.ntmps23
  go_wp2
  go_loopw [4] (fun i wr => ∃ k : Nat, k ≤ 8 ∧ i = .int .i64 k ∧ wr = ((w.alloc (.cells (row 8 v) 22)).alloc (.cells (row 8 zf) 28)).alloc (.cells (row 8 (upto k v)) 28)) (fun i _ => 8 - (intOf i).toNat)
  case atStart => exact ⟨0, by omega, rfl, by rw [upto_zero]⟩
  case round =>
    obtain ⟨k, hk, rfl, rfl⟩ := hrel
    by_cases hlt : k < 8
    · go_wp2
      go_roundw
      case rel => exact ⟨k + 1, by omega, by go_num, by rw [upto_succ]⟩
      case measure => simp [intOf]; omega
    · obtain rfl : k = 8 := by omega
      rw [upto_all]
      go_wp2
      refine bodyPost_ret (result_cell rfl aggVec _ _ (row 8 v) _ rfl ?_ ?_) rfl ⟨rfl, ?_⟩
      · simp [go_sem]
      · simp [go_sem]
      · exact (((Below.refl _ _).alloc (Nat.le_refl _) _).alloc (by simp) _).alloc (by simp; omega) _

end Go.Proofs.Ytnjjcimpcnennaa
