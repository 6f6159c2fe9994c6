/- What moduleOf writes down. -/
import Derived.Test.YtjmmmggnbndolaaGreatM2
namespace Go.Proofs.YtjmmmggnbndolaaGreat
open Go.RowKit
set_option linter.unusedSimpArgs false
set_option linter.unusedVariables false
attribute [local irreducible] wpQuiet wpQE

/-! ### structs of a Hopf algebra and more -/
def hopx (p n : Int) (f : Nat → Int) (xs : Array Value) : Array Value := hop p n f ++ xs
@[go_sem] theorem hopx_size (p n : Int) (f : Nat → Int) (xs : Array Value) : (hopx p n f xs).size = 1106 + xs.size := by unfold hopx; rw [Array.size_append, hop_size]
theorem hopx_at (p n : Int) (f : Nat → Int) (xs : Array Value) {i : Nat} (h : i < 1106) : (hopx p n f xs)[i]? = (hop p n f)[i]? := by unfold hopx; rw [Array.getElem?_append, hop_size, if_pos h]
theorem hopx_more (p n : Int) (f : Nat → Int) (xs : Array Value) (i : Nat) : (hopx p n f xs)[1106 + i]? = xs[i]? := by unfold hopx; rw [Array.getElem?_append, hop_size, if_neg (by omega), Nat.add_sub_cancel_left]
@[go_sem] theorem hopx_prime (p n : Int) (f : Nat → Int) (xs : Array Value) : (hopx p n f xs)[0]? = some (.int .i64 p) := (hopx_at p n f xs (by omega)).trans (hop_prime p n f)
@[go_sem] theorem hopx_len (p n : Int) (f : Nat → Int) (xs : Array Value) : (hopx p n f xs)[1]? = some (.int .i64 n) := (hopx_at p n f xs (by omega)).trans (hop_len p n f)
@[go_sem] theorem hopx_prime' (p n : Int) (f : Nat → Int) (xs : Array Value) (h : 0 < (hopx p n f xs).size) : (hopx p n f xs)[0] = .int .i64 p := el_of (hopx_prime p n f xs) h
@[go_sem] theorem hopx_len' (p n : Int) (f : Nat → Int) (xs : Array Value) (h : 1 < (hopx p n f xs).size) : (hopx p n f xs)[1] = .int .i64 n := el_of (hopx_len p n f xs) h
@[go_sem] theorem hopx_one (p n : Int) (f : Nat → Int) (a : Value) : (hopx p n f #[a])[1106]? = some a := hopx_more p n f _ 0
@[go_sem] theorem hopx_one' (p n : Int) (f : Nat → Int) (a : Value) (h : 1106 < (hopx p n f #[a]).size) : (hopx p n f #[a])[1106] = a := el_of (hopx_one p n f a) h
@[go_sem] theorem hopx_two1 (p n : Int) (f : Nat → Int) (a b : Value) : (hopx p n f #[a, b])[1106]? = some a := hopx_more p n f _ 0
@[go_sem] theorem hopx_two2 (p n : Int) (f : Nat → Int) (a b : Value) : (hopx p n f #[a, b])[1107]? = some b := hopx_more p n f _ 1
@[go_sem] theorem hopx_two1' (p n : Int) (f : Nat → Int) (a b : Value) (h : 1106 < (hopx p n f #[a, b]).size) : (hopx p n f #[a, b])[1106] = a := el_of (hopx_two1 p n f a b) h
@[go_sem] theorem hopx_two2' (p n : Int) (f : Nat → Int) (a b : Value) (h : 1107 < (hopx p n f #[a, b]).size) : (hopx p n f #[a, b])[1107] = b := el_of (hopx_two2 p n f a b) h
/-- what a Hopf algebra and a module tell -/
theorem hm1_parts {p n : Int} {f : Nat → Int} {d : Int} {F : Nat → Int} (h : hm1 p n f d F = true) : hopfB p n f = true ∧ modB p n.toNat f d F = true := by
  unfold hm1 at h
  simpa only [Bool.and_eq_true] using h
end Go.Proofs.YtjmmmggnbndolaaGreat
