/- OppositeAlgebra of both, and the walk of the law. -/
import Derived.Test.YtnjjcimpcnennaaP23
import Derived.Test.YtnjjcimpcnennaaP21
namespace Go.Proofs.Ytnjjcimpcnennaa
open Go.RowKit
set_option linter.unusedSimpArgs false
set_option linter.unusedVariables false
attribute [local irreducible] wpQuiet wpQE

/-- as oppK, of a table, with zeros elsewhere -/
def outK (n i j : Nat) (F : Nat → Int) : Nat → Int := fun u =>
  if (u / 64 < i ∧ u / 8 % 8 < n) ∨ (u / 64 = i ∧ u / 8 % 8 < j) then F (u / 8 % 8 * 64 + (u / 64 * 8 + u % 8)) else 0
theorem out_zero (n : Nat) (F : Nat → Int) : outK n 0 0 F = zf := by
  funext t; unfold outK zf; rw [if_neg (by omega)]
theorem out_row (n i : Nat) (F : Nat → Int) : outK n i n F = outK n (i + 1) 0 F := by
  funext t
  unfold outK
  by_cases h : (t / 64 < i ∧ t / 8 % 8 < n) ∨ (t / 64 = i ∧ t / 8 % 8 < n)
  · rw [if_pos h, if_pos (by omega)]
  · rw [if_neg h, if_neg (by omega)]
theorem out_step (n i j : Nat) (F : Nat → Int) (hi : i < 8) (hj : j < 8) : lay (row 512 (outK n i j F)) (i * 64 + j * 8) (row 8 fun r => F (j * 64 + i * 8 + r)) = row 512 (outK n i (j + 1) F) := by
  rw [lay_row _ _ _ _ _ (by omega)]
  refine row_congr fun t _ => ?_
  unfold outK
  by_cases h : i * 64 + j * 8 ≤ t ∧ t < i * 64 + j * 8 + 8
  · rw [if_pos h, if_pos (by omega)]
    congr 1
    omega
  · rw [if_neg h]
    by_cases h2 : (t / 64 < i ∧ t / 8 % 8 < n) ∨ (t / 64 = i ∧ t / 8 % 8 < j)
    · rw [if_pos h2, if_pos (by omega)]
    · rw [if_neg h2, if_neg (by omega)]
/-- on an algebra's table both are the same -/
theorem opp_agree {p : Int} {n : Nat} {f : Nat → Int} (h : shapeB p n f = true) : lay (alg p n f) 10 (row 512 (outK n n 0 (tab f))) = alg p n (oppK n n 0 f) := by
  rw [show (10 : Nat) = 2 + 8 from rfl, lay_alg _ _ _ _ _ _ (by omega)]
  refine alg_congr fun t ht => ?_
  by_cases h8 : 8 ≤ t
  · rw [if_pos ⟨h8, by omega⟩]
    unfold outK oppK
    by_cases hc : ((t - 8) / 64 < n ∧ (t - 8) / 8 % 8 < n) ∨ ((t - 8) / 64 = n ∧ (t - 8) / 8 % 8 < 0)
    · rw [if_pos hc, if_pos ⟨h8, hc⟩]; rfl
    · rw [if_neg hc, if_neg (by omega)]
      have := tab_zero h (t - 8) (by omega) (by omega)
      unfold tab at this
      rw [show 8 + (t - 8) = t by omega] at this
      exact this.symm
  · rw [if_neg (by omega)]
    unfold oppK
    rw [if_neg (by omega)]

set_option maxRecDepth 100000 in
theorem eqTable_same (v : Nat → Int) (w : World) :
    Calls Try.prog 42 #[.agg (row 512 v), .agg (row 512 v)] w fun e w' => e = .returned (.bool true) ∧ Below w.heap.size w w' := by
  go_enter Try.func42, Try.ntmps42
  go_wp2
  go_loopw [5] (fun i wr => ∃ k : Nat, k ≤ 8 ∧ i = .int .i64 k ∧ Below w.heap.size w wr ∧ (IsRow wr w.heap.size ∧ blk wr w.heap.size = row 512 v) ∧ (IsRow wr (w.heap.size + 1) ∧ blk wr (w.heap.size + 1) = row 512 v)) (fun i _ => 8 - (intOf i).toNat)
  case atStart => exact ⟨0, by omega, rfl, ((Below.refl _ _).alloc (Nat.le_refl _) _).alloc (by simp) _, by simp [go_sem], by simp [go_sem]⟩
  case round =>
    obtain ⟨k, hk, rfl, hb, ⟨r0, c0⟩, ⟨r1, c1⟩⟩ := hrel
    by_cases hlt : k < 8
    · have hi8 : (k : Int) < 8 := by omega
      have hk8 : k * 64 + 64 ≤ 512 := by omega
      have z0 := isRow_lt r0
      have z1 := isRow_lt r1
      have HC : ∀ W, Below wr.heap.size wr W → (IsRow W w.heap.size ∧ blk W w.heap.size = row 512 v) ∧ (IsRow W (w.heap.size + 1) ∧ blk W (w.heap.size + 1) = row 512 v) := fun W h => ⟨keepB h z0 r0 c0, keepB h z1 r1 c1⟩
      have hbz := hb.size
      go_wp2
      refine wp_quiet_all (Below wr.heap.size wr) (by kernel_rfl) (by kernel_rfl) (Below.refl _ _).drew ?_
      repeat (first | (refine q_plain rfl ?_; apply Exists.intro; refine ⟨fun W hW => ?_, ?_⟩; (focus (obtain ⟨⟨x1, x2⟩, x3, x4⟩ := HC W hW; go_simp; first | done | rfl | ((go_at_call 25; exact (eqLinear_same _ _).mono fun e w2 ⟨he, hw2⟩ => ⟨he, hW.trans (hw2.mono hW.size)⟩)))); simp only [Act.put, List.setIfInBounds_toArray, List.set_cons_zero, List.set_cons_succ]) | (refine q_skip (by rfl) ?_; simp only [Act.put, List.setIfInBounds_toArray, List.set_cons_zero, List.set_cons_succ]) | (refine q_want (by rfl) ?_; apply Exists.intro; refine ⟨fun W hW => ?_, ?_⟩; (focus (obtain ⟨⟨x1, x2⟩, x3, x4⟩ := HC W hW; go_simp; first | done | rfl | ((go_at_call 25; exact (eqLinear_same _ _).mono fun e w2 ⟨he, hw2⟩ => ⟨he, hW.trans (hw2.mono hW.size)⟩)))); simp only [Act.put, List.setIfInBounds_toArray, List.set_cons_zero, List.set_cons_succ]))
      refine wpQuiet_nil ?_
      intro W hW
      obtain ⟨⟨x1, x2⟩, x3, x4⟩ := HC W hW
      have hb2 := hb.trans (hW.mono hbz)
      go_wp2
      go_roundw
      case rel => exact ⟨k + 1, by omega, by go_num, hb2, ⟨x1, x2⟩, x3, x4⟩
      case measure => simp [intOf]; omega
    · go_wp2
      go_ret
      exact ⟨rfl, hb⟩


set_option maxRecDepth 100000 in
theorem eqAlgebra_same (p n : Int) (f : Nat → Int) (w : World) :
    Calls Try.prog 18 #[.agg (alg p n f), .agg (alg p n f)] w fun e w' => e = .returned (.bool true) ∧ Below w.heap.size w w' := by
  go_enter Try.func18, Try.ntmps18
  go_wp2_with fail
  refine (eqVector_same _ _).mono ?_; rintro e w1 ⟨rfl, hw1⟩
  obtain ⟨x0, y0⟩ := keepB (b := w.heap.size) (c := alg p n f) hw1 (by simp <;> omega) (by simp [go_sem]) (by simp [go_sem])
  obtain ⟨x1, y1⟩ := keepB (b := w.heap.size + 1) (c := alg p n f) hw1 (by simp <;> omega) (by simp [go_sem]) (by simp [go_sem])
  have hb1 : Below w.heap.size w w1 := Below.trans (((Below.refl w.heap.size w).alloc (Nat.le_refl _) (.cells (alg p n f) 40)).alloc (by simp) (.cells (alg p n f) 40)) (hw1.mono (by simp <;> omega))
  clear hw1
  go_wp2_with fail
  refine (eqTable_same _ _).mono ?_; rintro e w2 ⟨rfl, hw2⟩
  have hb2 := hb1.trans (hw2.mono hb1.size)
  go_wp2_with fail
  go_ret
  exact ⟨rfl, hb2⟩

end Go.Proofs.Ytnjjcimpcnennaa
