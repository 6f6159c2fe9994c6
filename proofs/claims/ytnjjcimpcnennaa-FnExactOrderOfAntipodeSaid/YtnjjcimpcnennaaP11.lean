/- The laws' copies of arrays and algebras, and the walk of FnExactIsAlgebra. -/
import Derived.Test.YtnjjcimpcnennaaP10
import Derived.Test.YtnjjcimpcnennaaLift
namespace Go.Proofs.Ytnjjcimpcnennaa
open Go.RowKit
set_option linter.unusedSimpArgs false
set_option linter.unusedVariables false

/-! ### laws.Algebra -/
theorem cell_i64 {P : Program} {w : World} {r : Reach} {base u : Nat} {v : Value} (hu : P.underlying u = some (.int .i64)) (h : Cell.okWide P w r base u v) : ∃ n : Int, v = .int .i64 n ∧ (Lit.int .i64 n).wf = true := by
  unfold Cell.okWide at h
  rw [hu] at h
  cases v <;> simp [Cell.ok, hu] at h
  obtain ⟨rfl, h1⟩ := h
  exact ⟨_, rfl, by simp [Lit.wf, IntKind.has, IntKind.min, IntKind.max, IntKind.signed, IntKind.bits] at h1 ⊢; omega⟩
/-! ### the copies -/
theorem upto_part (n m k : Nat) (v : Nat → Int) (h : k * m + m ≤ n) : lay (row n (upto (k * m) v)) (k * m) (row m fun t => v (k * m + t)) = row n (upto ((k + 1) * m) v) := by
  rw [lay_row _ _ _ _ _ h]
  refine row_congr fun i _ => ?_
  unfold upto
  rw [Nat.add_mul, Nat.one_mul]
  by_cases h1 : k * m ≤ i ∧ i < k * m + m
  · rw [if_pos h1, if_pos h1.2, show k * m + (i - k * m) = i by omega]
  · rw [if_neg h1]
    by_cases h2 : i < k * m
    · rw [if_pos h2, if_pos (by omega)]
    · rw [if_neg h2, if_neg (by omega)]

set_option maxRecDepth 100000 in
theorem toLinear_any (v : Nat → Int) (w : World) :
    Calls Try.prog 35 #[.agg (row 64 v)] w fun e w' => e = .returned (.agg (row 64 v)) ∧ Below w.heap.size w w' := by
  go_enter Try.func35, Try.ntmps35
  go_wp2
  go_loopw [4] (fun i wr => ∃ k : Nat, k ≤ 8 ∧ i = .int .i64 k ∧ Below w.heap.size w wr ∧ (IsRow wr w.heap.size ∧ blk wr w.heap.size = row 64 v) ∧ (IsRow wr (w.heap.size + 1) ∧ blk wr (w.heap.size + 1) = row 64 zf) ∧
      (IsRow wr (w.heap.size + 2) ∧ blk wr (w.heap.size + 2) = row 64 (upto (k * 8) v))) (fun i _ => 8 - (intOf i).toNat)
  case atStart =>
    refine ⟨0, by omega, rfl, (((Below.refl _ _).alloc (Nat.le_refl _) _).alloc (by simp) _).alloc (by simp; omega) _, by simp [go_sem], by simp [go_sem], by simp [go_sem], ?_⟩
    rw [Nat.zero_mul, upto_zero]; simp [go_sem]
  case round =>
    obtain ⟨k, hk, rfl, hb, ⟨r0, c0⟩, ⟨r1, c1⟩, ⟨r2, c2⟩⟩ := hrel
    have z0 := isRow_lt r0
    have z1 := isRow_lt r1
    have z2 := isRow_lt r2
    by_cases hlt : k < 8
    · have hi8 : (k : Int) < 8 := by omega
      have hk8 : k * 8 + 8 ≤ 64 := by omega
      have H := Lib.hid (upto_part 64 8 k v hk8)
      go_wp2_with (go_at_call 23; refine (toVector_any (fun t => v (k * 8 + t)) _).mono ?_; rintro e w1 ⟨rfl, hw1⟩; obtain ⟨x0, y0⟩ := keepB hw1 z0 r0 c0; obtain ⟨x1, y1⟩ := keepB hw1 z1 r1 c1; obtain ⟨x2, y2⟩ := keepB hw1 z2 r2 c2)
      go_roundw
      case rel =>
        refine ⟨k + 1, by omega, by go_num, (hb.trans (hw1.mono hb.size)).trans (below_setRow (Below.refl _ _) (by omega) _), by simp [go_sem, x0, y0, x2], by simp [go_sem, x1, y1, x2], by simp [go_sem, x2], ?_⟩
        rw [blk_setRow _ _ _ _ x2, if_pos rfl]
        exact H.out
      case measure => simp [intOf]; omega
    · obtain rfl : k = 8 := by omega
      have HT : Hid (row 64 (upto (8 * 8) v) = row 64 v) := Lib.hid (upto_all 64 v)
      rw [HT.out] at c2
      go_wp2
      refine bodyPost_ret (result_cell rfl aggLin _ _ (row 64 v) _ rfl ?_ ?_) rfl ⟨rfl, ?_⟩
      · simp [go_sem, r1, c1]
      · simp [go_sem, r1, c1]
      · exact hb.trans (below_setRow (Below.refl _ _) (by omega) _)

set_option maxRecDepth 100000 in
theorem toTable_any (v : Nat → Int) (w : World) :
    Calls Try.prog 34 #[.agg (row 512 v)] w fun e w' => e = .returned (.agg (row 512 v)) ∧ Below w.heap.size w w' := by
  go_enter Try.func34, Try.ntmps34
  go_wp2
  go_loopw [4] (fun i wr => ∃ k : Nat, k ≤ 8 ∧ i = .int .i64 k ∧ Below w.heap.size w wr ∧ (IsRow wr w.heap.size ∧ blk wr w.heap.size = row 512 v) ∧ (IsRow wr (w.heap.size + 1) ∧ blk wr (w.heap.size + 1) = row 512 zf) ∧
      (IsRow wr (w.heap.size + 2) ∧ blk wr (w.heap.size + 2) = row 512 (upto (k * 64) v))) (fun i _ => 8 - (intOf i).toNat)
  case atStart =>
    refine ⟨0, by omega, rfl, (((Below.refl _ _).alloc (Nat.le_refl _) _).alloc (by simp) _).alloc (by simp; omega) _, by simp [go_sem], by simp [go_sem], by simp [go_sem], ?_⟩
    rw [Nat.zero_mul, upto_zero]; simp [go_sem]
  case round =>
    obtain ⟨k, hk, rfl, hb, ⟨r0, c0⟩, ⟨r1, c1⟩, ⟨r2, c2⟩⟩ := hrel
    have z0 := isRow_lt r0
    have z1 := isRow_lt r1
    have z2 := isRow_lt r2
    by_cases hlt : k < 8
    · have hi8 : (k : Int) < 8 := by omega
      have hk8 : k * 64 + 64 ≤ 512 := by omega
      have H := Lib.hid (upto_part 512 64 k v hk8)
      go_wp2_with (go_at_call 35; refine (toLinear_any (fun t => v (k * 64 + t)) _).mono ?_; rintro e w1 ⟨rfl, hw1⟩; obtain ⟨x0, y0⟩ := keepB hw1 z0 r0 c0; obtain ⟨x1, y1⟩ := keepB hw1 z1 r1 c1; obtain ⟨x2, y2⟩ := keepB hw1 z2 r2 c2)
      go_roundw
      case rel =>
        refine ⟨k + 1, by omega, by go_num, (hb.trans (hw1.mono hb.size)).trans (below_setRow (Below.refl _ _) (by omega) _), by simp [go_sem, x0, y0, x2], by simp [go_sem, x1, y1, x2], by simp [go_sem, x2], ?_⟩
        rw [blk_setRow _ _ _ _ x2, if_pos rfl]
        exact H.out
      case measure => simp [intOf]; omega
    · obtain rfl : k = 8 := by omega
      have HT : Hid (row 512 (upto (8 * 64) v) = row 512 v) := Lib.hid (upto_all 512 v)
      rw [HT.out] at c2
      go_wp2
      refine bodyPost_ret (result_cell rfl aggTab _ _ (row 512 v) _ rfl ?_ ?_) rfl ⟨rfl, ?_⟩
      · simp [go_sem, r1, c1]
      · simp [go_sem, r1, c1]
      · exact hb.trans (below_setRow (Below.refl _ _) (by omega) _)

end Go.Proofs.Ytnjjcimpcnennaa
