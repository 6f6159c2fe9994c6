/- What moduleOf writes down. -/
import Derived.Test.YtfmhgfnadgaiaaaGreatM2
namespace Go.Proofs.YtfmhgfnadgaiaaaGreat
open Go.RowKit
set_option linter.unusedSimpArgs false
set_option linter.unusedVariables false
attribute [local irreducible] wpQuiet wpQE

theorem ifj {P Q : Prop} [Decidable P] [Decidable Q] (h : P ↔ Q) (x : Int) : (if P then x else 0) = if Q then x else 0 := by
  by_cases hp : P
  · rw [if_pos hp, if_pos (h.1 hp)]
  · rw [if_neg hp, if_neg fun hq => hp (h.2 hq)]
/-- the tables of G for n and d -/
def finM (n d : Nat) (G : Nat → Nat → Nat → Int) : Nat → Int := fun u => if u / 64 < n ∧ u / 8 % 8 < d then G (u / 64) (u / 8 % 8) (u % 8) else 0
def finK (d : Nat) (G : Nat → Nat → Nat → Int) (i j : Nat) : Nat → Int := fun u => if u / 8 % 8 < d ∧ (u / 64 < i ∨ (u / 64 = i ∧ u / 8 % 8 < j)) then G (u / 64) (u / 8 % 8) (u % 8) else 0
theorem fin_zero (e : Int) (d : Nat) (G : Nat → Nat → Nat → Int) : mdl e zf = mdl e (finK d G 0 0) := mdl_congr fun u _ => by unfold finK zf; rw [if_neg (by omega)]
theorem fin_step {e : Int} {d : Nat} {G : Nat → Nat → Nat → Int} {i j : Nat} (hi : i < 8) (hj : j < d) (hd : d ≤ 8) : lay (mdl e (finK d G i j)) (1 + i * 64 + j * 8) (row 8 (G i j)) = mdl e (finK d G i (j + 1)) := by
  rw [show 1 + i * 64 + j * 8 = 1 + (i * 64 + j * 8) by omega, lay_mdl _ _ _ _ _ (by omega)]
  refine mdl_congr fun u hu => ?_
  by_cases h : i * 64 + j * 8 ≤ u ∧ u < i * 64 + j * 8 + 8
  · rw [if_pos h]
    unfold finK
    rw [if_pos (by omega), show u / 64 = i by omega, show u / 8 % 8 = j by omega, show u - (i * 64 + j * 8) = u % 8 by omega]
  · rw [if_neg h]
    unfold finK
    exact ifj (by omega) _
theorem fin_row (e : Int) (d : Nat) (G : Nat → Nat → Nat → Int) (i : Nat) : mdl e (finK d G i d) = mdl e (finK d G (i + 1) 0) := mdl_congr fun u hu => by
  unfold finK
  exact ifj (by omega) _
theorem fin_end (e : Int) (n d : Nat) (G : Nat → Nat → Nat → Int) : mdl e (finK d G n 0) = mdl e (finM n d G) := mdl_congr fun u hu => by
  unfold finK finM
  exact ifj (by omega) _
theorem fin_congr {e : Int} {n d : Nat} {G H : Nat → Nat → Nat → Int} (h : ∀ i j t, i < n → j < d → t < 8 → G i j t = H i j t) : mdl e (finM n d G) = mdl e (finM n d H) := mdl_congr fun u hu => by
  unfold finM
  by_cases h1 : u / 64 < n ∧ u / 8 % 8 < d
  · rw [if_pos h1, if_pos h1, h _ _ _ h1.1 h1.2 (by omega)]
  · rw [if_neg h1, if_neg h1]
/-- a module's tables, told by its own entries -/
theorem fin_self {p : Int} {e : Int} {n d : Nat} {F : Nat → Int} (hS : ModS p n d F) : mdl e (finM n d (act F)) = mdl e F := mdl_congr fun u hu => by
  unfold finM
  have e1 : act F (u / 64) (u / 8 % 8) (u % 8) = F u := by unfold act; congr 1; omega
  by_cases h1 : u / 64 < n ∧ u / 8 % 8 < d
  · rw [if_pos h1, e1]
  · rw [if_neg h1, ← e1]
    by_cases h2 : u / 64 < n
    · exact (hS.low _ _ _ (by omega) (by omega) (by omega) (by omega)).symm
    · exact (hS.far _ _ _ (by omega) (by omega) (by omega) (by omega)).symm

/-! ### structs of a Hopf algebra and more -/
def hopx (p n : Int) (f : Nat → Int) (xs : Array Value) : Array Value := hop p n f ++ xs
@[go_sem] theorem hopx_size (p n : Int) (f : Nat → Int) (xs : Array Value) : (hopx p n f xs).size = 1106 + xs.size := by unfold hopx; rw [Array.size_append, hop_size]
theorem hopx_at (p n : Int) (f : Nat → Int) (xs : Array Value) {i : Nat} (h : i < 1106) : (hopx p n f xs)[i]? = (hop p n f)[i]? := by unfold hopx; rw [Array.getElem?_append, hop_size, if_pos h]
theorem hopx_el (p n : Int) (f : Nat → Int) (xs : Array Value) {i : Nat} (h : i < 1106) {v : Value} (hv : (hop p n f)[i]? = some v) (h' : i < (hopx p n f xs).size) : (hopx p n f xs)[i] = v := el_of ((hopx_at p n f xs h).trans hv) h'
theorem hopx_more (p n : Int) (f : Nat → Int) (xs : Array Value) (i : Nat) : (hopx p n f xs)[1106 + i]? = xs[i]? := by unfold hopx; rw [Array.getElem?_append, hop_size, if_neg (by omega), Nat.add_sub_cancel_left]
theorem hopx_part (p n : Int) (f : Nat → Int) (xs : Array Value) {a b : Nat} (h : b ≤ 1106) : (hopx p n f xs).extract a b = (hop p n f).extract a b := by
  apply Array.ext_getElem?
  intro i
  rw [Array.getElem?_extract, Array.getElem?_extract, hopx_size, hop_size]
  by_cases hi : i < b - a
  · rw [if_pos (by omega), if_pos (by omega), hopx_at _ _ _ _ (by omega)]
  · rw [if_neg (by omega), if_neg (by omega)]
@[go_sem] theorem hopx_prime (p n : Int) (f : Nat → Int) (xs : Array Value) : (hopx p n f xs)[0]? = some (.int .i64 p) := (hopx_at p n f xs (by omega)).trans (hop_prime p n f)
@[go_sem] theorem hopx_len (p n : Int) (f : Nat → Int) (xs : Array Value) : (hopx p n f xs)[1]? = some (.int .i64 n) := (hopx_at p n f xs (by omega)).trans (hop_len p n f)
@[go_sem] theorem hopx_prime' (p n : Int) (f : Nat → Int) (xs : Array Value) (h : 0 < (hopx p n f xs).size) : (hopx p n f xs)[0] = .int .i64 p := el_of (hopx_prime p n f xs) h
@[go_sem] theorem hopx_len' (p n : Int) (f : Nat → Int) (xs : Array Value) (h : 1 < (hopx p n f xs).size) : (hopx p n f xs)[1] = .int .i64 n := el_of (hopx_len p n f xs) h
@[go_sem] theorem hopx_one (p n : Int) (f : Nat → Int) (a : Value) : (hopx p n f #[a])[1106]? = some a := hopx_more p n f _ 0
@[go_sem] theorem hopx_one' (p n : Int) (f : Nat → Int) (a : Value) (h : 1106 < (hopx p n f #[a]).size) : (hopx p n f #[a])[1106] = a := el_of (hopx_one p n f a) h
@[go_sem] theorem hopx_two1 (p n : Int) (f : Nat → Int) (a b : Value) : (hopx p n f #[a, b])[1106]? = some a := hopx_more p n f _ 0
@[go_sem] theorem hopx_two2 (p n : Int) (f : Nat → Int) (a b : Value) : (hopx p n f #[a, b])[1107]? = some b := hopx_more p n f _ 1
@[go_sem] theorem hopx_two1' (p n : Int) (f : Nat → Int) (a b : Value) (h : 1106 < (hopx p n f #[a, b]).size) : (hopx p n f #[a, b])[1106] = a := el_of (hopx_two1 p n f a b) h
@[go_sem] theorem hopx_two2' (p n : Int) (f : Nat → Int) (a b : Value) (h : 1107 < (hopx p n f #[a, b]).size) : (hopx p n f #[a, b])[1107] = b := el_of (hopx_two2 p n f a b) h
theorem hopx_z1 (a : Value) : hopx 0 0 zf #[a] = (([Value.int .i64 0, Value.int .i64 0] ++ List.replicate 1104 (Value.int .u8 0)) ++ [a]).toArray := by unfold hopx; rw [hop_zeros, List.append_toArray]
theorem hopx_z2 (a b : Value) : hopx 0 0 zf #[a, b] = (([Value.int .i64 0, Value.int .i64 0] ++ List.replicate 1104 (Value.int .u8 0)) ++ [a, b]).toArray := by unfold hopx; rw [hop_zeros, List.append_toArray]
theorem fill_cell {place : Nat → Option (Nat × Nat)} {c : Array Value} {i off : Nat} {v : Value} {rest : List (Nat × Value)} (hv : v.cells = #[v]) (hp : place i = some (off, 1)) (h : off + 1 ≤ c.size) : Instr.fill place c ((i, v) :: rest) = Instr.fill place (c.setIfInBounds off v) rest := by
  rw [Instr.fill, hp]
  simp only [hv]
  rw [if_neg (by simp; omega)]
  simp
theorem lay_hopx (p n q m : Int) (f g : Nat → Int) (xs : Array Value) : lay (hopx p n f xs) 0 (hop q m g) = hopx q m g xs := by
  apply Array.ext_getElem?
  intro i
  rw [lay_get _ _ _ _ (by rw [hopx_size, hop_size]; omega), hop_size]
  by_cases hi : i < 1106
  · rw [if_pos (by omega), hopx_at _ _ _ _ hi, Nat.sub_zero]
  · rw [if_neg (by omega), show i = 1106 + (i - 1106) by omega, hopx_more, hopx_more]
theorem hopx_set1 (p n : Int) (f : Nat → Int) (a x : Value) : (hopx p n f #[a]).setIfInBounds 1106 x = hopx p n f #[x] := by
  apply Array.ext_getElem?
  intro i
  rw [Array.getElem?_setIfInBounds, hopx_size]
  by_cases hi : i < 1106
  · rw [if_neg (by omega), hopx_at _ _ _ _ hi, hopx_at _ _ _ _ hi]
  · by_cases h2 : i = 1106
    · subst h2
      rw [if_pos rfl, if_pos (by simp), hopx_one]
    · rw [if_neg (by omega), Array.getElem?_eq_none (by rw [hopx_size]; simp; omega), Array.getElem?_eq_none (by rw [hopx_size]; simp; omega)]
theorem hopx_set21 (p n : Int) (f : Nat → Int) (a b x : Value) : (hopx p n f #[a, b]).setIfInBounds 1106 x = hopx p n f #[x, b] := by
  apply Array.ext_getElem?
  intro i
  rw [Array.getElem?_setIfInBounds, hopx_size]
  by_cases hi : i < 1106
  · rw [if_neg (by omega), hopx_at _ _ _ _ hi, hopx_at _ _ _ _ hi]
  · by_cases h2 : i = 1106
    · subst h2
      rw [if_pos rfl, if_pos (by simp), hopx_two1]
    · rw [if_neg (by omega)]
      by_cases h3 : i = 1107
      · subst h3; rw [hopx_two2, hopx_two2]
      · rw [Array.getElem?_eq_none (by rw [hopx_size]; simp; omega), Array.getElem?_eq_none (by rw [hopx_size]; simp; omega)]
theorem hopx_set22 (p n : Int) (f : Nat → Int) (a b x : Value) : (hopx p n f #[a, b]).setIfInBounds 1107 x = hopx p n f #[a, x] := by
  apply Array.ext_getElem?
  intro i
  rw [Array.getElem?_setIfInBounds, hopx_size]
  by_cases hi : i < 1106
  · rw [if_neg (by omega), hopx_at _ _ _ _ hi, hopx_at _ _ _ _ hi]
  · by_cases h2 : i = 1106
    · subst h2
      rw [if_neg (by omega), hopx_two1, hopx_two1]
    · by_cases h3 : i = 1107
      · subst h3; rw [if_pos rfl, if_pos (by simp), hopx_two2]
      · rw [if_neg (by omega), Array.getElem?_eq_none (by rw [hopx_size]; simp; omega), Array.getElem?_eq_none (by rw [hopx_size]; simp; omega)]
/-- what a Hopf algebra and a module tell -/
theorem hm1_parts {p n : Int} {f : Nat → Int} {d : Int} {F : Nat → Int} (h : hm1 p n f d F = true) : hopfB p n f = true ∧ modB p n.toNat f d F = true := by
  unfold hm1 at h
  simpa only [Bool.and_eq_true] using h
theorem hm2_parts {p n : Int} {f : Nat → Int} {d e : Int} {F G : Nat → Int} (h : hm2 p n f d e F G = true) : hopfB p n f = true ∧ modB p n.toNat f d F = true ∧ modB p n.toNat f e G = true := by
  unfold hm2 at h
  simpa only [Bool.and_eq_true] using h

end Go.Proofs.YtfmhgfnadgaiaaaGreat
