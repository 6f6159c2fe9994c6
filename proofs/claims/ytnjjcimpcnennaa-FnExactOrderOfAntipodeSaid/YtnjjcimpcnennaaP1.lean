/- The contracts of impl.IsPrime and spec.IsPrime: each returns the Boolean function prime31 of its argument. No condition. -/
import Derived.Test.YtnjjcimpcnennaaRows
import Derived.WalkKit
import Derived.WalkSpells
import Derived.WalkLawsBesides
import Derived.Lib.Hide
namespace Go.Proofs.Ytnjjcimpcnennaa
open Go.RowKit

/-- no d from 2 up to k - 1 divides p -/
def noDiv (p : Int) (k : Nat) : Prop := ∀ d : Nat, 2 ≤ d → d < k → p % (d : Int) ≠ 0

/-- p is a prime in 2..31 -/
def prime31 (p : Int) : Bool := decide (2 ≤ p) && decide (p ≤ 31) && (List.range p.toNat).all fun d => decide (d < 2) || decide (p % (d : Int) ≠ 0)

theorem prime31_lo (p : Int) (h : p < 2) : prime31 p = false := by
  unfold prime31; rw [show decide (2 ≤ p) = false from by simp; omega]; simp
theorem prime31_hi (p : Int) (h : 31 < p) : prime31 p = false := by
  unfold prime31; rw [show decide (p ≤ 31) = false from by simp; omega]; simp
theorem prime31_yes (p : Int) (h : 2 ≤ p) (h' : p ≤ 31) (k : Nat) (hk : p = (k : Int)) (hn : noDiv p k) : prime31 p = true := by
  subst hk
  unfold prime31
  simp only [Bool.and_eq_true, decide_eq_true_eq, List.all_eq_true, List.mem_range, Bool.or_eq_true]
  refine ⟨⟨h, h'⟩, fun d hd => ?_⟩
  by_cases h2 : d < 2
  · exact .inl h2
  · exact .inr (hn d (by omega) (by simpa using hd))
theorem prime31_no (p : Int) (k : Nat) (h2 : 2 ≤ k) (hk : (k : Int) < p) (hd : p % (k : Int) = 0) : prime31 p = false := by
  unfold prime31
  rw [Bool.and_eq_false_iff]; right
  rw [List.all_eq_false]
  exact ⟨k, by simp; omega, by simp [hd]; omega⟩
theorem noDiv_succ {p : Int} {k : Nat} (h : noDiv p k) (hk : p % (k : Int) ≠ 0) : noDiv p (k + 1) := by
  intro d h2 hd
  by_cases e : d = k
  · subst e; exact hk
  · exact h d h2 (by omega)
theorem noDiv_two (p : Int) : noDiv p 2 := fun d h2 hd => by omega

theorem ret_bool {a b : Bool} (h : a = b) : Ending.returned (.bool a) = .returned (.bool b) := by rw [h]

theorem lin_any (n lo hi : Int) (w : World) :
    Calls Try.prog 103 #[.int .i64 n, .int .i64 lo, .int .i64 hi] w fun e w' => e = .returned (.bool (decide (lo ≤ n) && decide (n ≤ hi))) ∧ w = w' := by
  by_cases h1 : lo ≤ n <;> by_cases h2 : n ≤ hi
  all_goals
    go_enter Try.func103, Try.ntmps103
    go_wp2
    all_goals go_ret
    all_goals exact ⟨ret_bool (by simp <;> omega), rfl⟩

theorem isPrime_any (p : Int) (w : World) :
    Calls Try.prog 95 #[.int .i64 p] w fun e w' => e = .returned (.bool (prime31 p)) ∧ w = w' := by
  by_cases hlo : p < 2
  · have H := Lib.hid (prime31_lo p hlo)
    go_enter Try.func95, Try.ntmps95
    go_wp2
    go_ret
    exact ⟨ret_bool H.out.symm, rfl⟩
  by_cases hhi : 31 < p
  · have H := Lib.hid (prime31_hi p hhi)
    go_enter Try.func95, Try.ntmps95
    go_wp2
    go_ret
    exact ⟨ret_bool H.out.symm, rfl⟩
  go_enter Try.func95, Try.ntmps95
  go_wp2
  go_loop [3] (fun d => ∃ k : Nat, 2 ≤ k ∧ (k : Int) ≤ p ∧ d = .int .i64 k ∧ noDiv p k) (fun d => 31 - (intOf d).toNat)
  case atStart => exact ⟨2, by omega, by omega, rfl, noDiv_two p⟩
  case round =>
    obtain ⟨k, hk2, hkp, rfl, hn⟩ := hrel
    have Hn := Lib.hid hn
    clear hn
    by_cases hlt : (k : Int) < p
    · by_cases hd : p % (k : Int) = 0
      · have H := Lib.hid (prime31_no p k hk2 hlt hd)
        have hd' : (p % (k : Int) == 0) = true := by simpa using hd
        clear hd
        go_wp2
        go_ret
        exact ⟨ret_bool H.out.symm, rfl⟩
      · have hd' : (p % (k : Int) == 0) = false := by simpa using hd
        have H := Lib.hid (noDiv_succ Hn.out hd)
        clear hd
        go_wp2
        go_round
        case rel => exact ⟨k + 1, by omega, by omega, by go_num, H.out⟩
        case measure => simp [intOf]; omega
    · have H := Lib.hid (prime31_yes p (by omega) (by omega) k (by omega) Hn.out)
      go_wp2
      go_ret
      exact ⟨ret_bool H.out.symm, rfl⟩

theorem specPrime_any (p : Int) (w : World) :
    Calls Try.prog 102 #[.int .i64 p] w fun e w' => e = .returned (.bool (prime31 p)) ∧ w = w' := by
  go_enter Try.func102, Try.ntmps102
  go_wp2
  go_loop [3] (fun d => ∃ k : Nat, 2 ≤ k ∧ k ≤ 32 ∧ ((k : Int) ≤ p ∨ k = 2) ∧ d = .int .i64 k ∧ noDiv p k) (fun d => 32 - (intOf d).toNat)
  case atStart => exact ⟨2, by omega, by omega, .inr rfl, rfl, noDiv_two p⟩
  case round =>
    obtain ⟨k, hk2, hk32, hkp, rfl, hn⟩ := hrel
    have Hn := Lib.hid hn
    clear hn
    by_cases hlt : (k : Int) < p
    · by_cases hb : k ≤ 31
      · by_cases hd : p % (k : Int) = 0
        · have H := Lib.hid (prime31_no p k hk2 hlt hd)
          have hd' : (p % (k : Int) == 0) = true := by simpa using hd
          clear hd hkp
          go_wp2
          go_ret
          exact ⟨ret_bool H.out.symm, rfl⟩
        · have hd' : (p % (k : Int) == 0) = false := by simpa using hd
          have H := Lib.hid (noDiv_succ Hn.out hd)
          clear hd hkp
          go_wp2
          go_round
          case rel => exact ⟨k + 1, by omega, by omega, .inl (by omega), by go_num, H.out⟩
          case measure => simp [intOf]; omega
      · have H := Lib.hid (prime31_hi p (by omega))
        clear hkp
        go_wp2_with (go_at_call 103; refine (lin_any _ _ _ _).mono ?_; rintro e w' ⟨rfl, rfl⟩)
        go_ret
        exact ⟨ret_bool (by rw [H.out]; simp <;> omega), rfl⟩
    · have H0 : prime31 p = (decide (2 ≤ p) && decide (p ≤ 31)) := by
        rcases hkp with h | rfl
        · by_cases h31 : p ≤ 31
          · rw [prime31_yes p (by omega) h31 k (by omega) Hn.out, decide_eq_true (by omega), decide_eq_true (by omega)]; rfl
          · rw [prime31_hi p (by omega), decide_eq_false (p := p ≤ 31) (by omega), Bool.and_false]
        · by_cases h2 : p < 2
          · rw [prime31_lo p h2, decide_eq_false (p := 2 ≤ p) (by omega), Bool.false_and]
          · rw [prime31_yes p (by omega) (by omega) 2 (by omega) Hn.out, decide_eq_true (by omega), decide_eq_true (by omega)]; rfl
      have H := Lib.hid H0
      clear hkp H0
      go_wp2_with (go_at_call 103; refine (lin_any _ _ _ _).mono ?_; rintro e w' ⟨rfl, rfl⟩)
      go_ret
      exact ⟨ret_bool H.out.symm, rfl⟩

end Go.Proofs.Ytnjjcimpcnennaa
