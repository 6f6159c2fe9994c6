/- The left table and the trace of a linear map, of the program and of the reference model. -/
import Derived.Test.YtfmhgfnadgaiaaaGreatEqs
import Derived.Test.YtfmhgfnadgaiaaaGreatP14
namespace Go.Proofs.YtfmhgfnadgaiaaaGreat
open Go.RowKit
set_option linter.unusedSimpArgs false
set_option linter.unusedVariables false
attribute [local irreducible] wpQuiet wpQE

/-- the first k rows of the left table of v -/
def leftK (p : Int) (n : Nat) (f v : Nat → Int) (k : Nat) : Nat → Int := fun t => if t < k * 8 then mulF p n (mtab f) v (ebas (t / 8)) (t % 8) else 0
theorem leftK_zero (p : Int) (n : Nat) (f v : Nat → Int) : leftK p n f v 0 = zf := by funext t; simp [leftK, zf]
theorem leftK_step (p : Int) (n : Nat) (f v : Nat → Int) (k : Nat) (h : k * 8 + 8 ≤ 64) : lay (row 64 (leftK p n f v k)) (k * 8) (row 8 (mulF p n (mtab f) v (ebas k))) = row 64 (leftK p n f v (k + 1)) := by
  rw [lay_row _ _ _ _ _ h]
  refine row_congr fun i _ => ?_
  unfold leftK
  by_cases h1 : k * 8 ≤ i ∧ i < k * 8 + 8
  · rw [if_pos h1, if_pos (by omega), show i / 8 = k by omega, show i - k * 8 = i % 8 by omega]
  · rw [if_neg h1]
    by_cases h2 : i < k * 8
    · rw [if_pos h2, if_pos (by omega)]
    · rw [if_neg h2, if_neg (by omega)]
theorem leftK_bytes {p : Int} (hp : 0 < p) (hp' : p ≤ 255) (n : Nat) (f v : Nat → Int) (k : Nat) : Bytes 64 (leftK p n f v k) := by
  intro t _
  unfold leftK
  split
  · exact mulF_bytes hp hp' n (mtab f) v (ebas (t / 8)) (t % 8) (by omega)
  · omega

/-! ### the trace -/
def dsum (F : Nat → Int) : Nat → Int
  | 0 => 0
  | k + 1 => dsum F k + F (k * 8 + k)
theorem dsum_le {F : Nat → Int} (h : Bytes 64 F) : ∀ k, k ≤ 8 → 0 ≤ dsum F k ∧ dsum F k ≤ 255 * k
  | 0, _ => by simp [dsum]
  | k + 1, hk => by
    have h1 := dsum_le h k (by omega)
    have h2 := h (k * 8 + k) (by omega)
    unfold dsum
    omega
set_option maxRecDepth 100000 in
theorem l01Trace_any (p : Int) (n : Nat) (F : Nat → Int) (w : World) (hp : 0 < p) (hp' : p ≤ 255) (hn : n ≤ 8) (hF : Bytes 64 F) :
    Calls Tryz.prog 69 #[.int .i64 p, .int .i64 n, .agg (row 64 F)] w fun e w' => e = .returned (.int .i64 (dsum F n % p)) ∧ Below w.heap.size w w' := by
  have HF := Lib.hid hF
  clear hF
  go_enter Tryz.func69, Tryz.ntmps69
  go_wp2
  go_loopw [7, 8] (fun s i wr => ∃ k : Nat, k ≤ n ∧ s = .int .i64 (dsum F k) ∧ i = .int .i64 k ∧ wr = w.alloc (.cells (row 64 F) 31)) (fun _ i _ => n - (intOf i).toNat)
  case atStart => exact ⟨0, by omega, rfl, rfl, rfl⟩
  case round =>
    obtain ⟨k, hk, rfl, rfl, rfl⟩ := hrel
    have b1 := (dsum_le HF.out k (by omega)).1
    have b2 := (dsum_le HF.out k (by omega)).2
    by_cases hlt : k < n
    · have hi8 : (k : Int) < 8 := by omega
      have hk8 : k * 8 + 8 ≤ 64 := by omega
      have hk9 : k * 8 + k < 64 := by omega
      have b3 := (HF.out (k * 8 + k) hk9).1
      have b4 := (HF.out (k * 8 + k) hk9).2
      go_wp2
      go_roundw
      case rel => exact ⟨k + 1, by omega, rfl, by go_num, by first | rfl | trivial⟩
      case measure => simp [intOf]; omega
    · obtain rfl : k = n := by omega
      have h3 := (mod_range (dsum F k) p hp).1
      have h4 := (mod_range (dsum F k) p hp).2
      go_wp2
      go_ret
      exact ⟨rfl, (Below.refl _ _).alloc (Nat.le_refl _) _⟩
end Go.Proofs.YtfmhgfnadgaiaaaGreat
