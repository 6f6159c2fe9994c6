/- FirstFault of both, and the walk of FnExactFirstFault. -/
import Derived.Test.YtkcddfpchkjcgaaP12
import Derived.Test.YtkcddfpchkjcgaaP19
namespace Go.Proofs.Ytkcddfpchkjcgaa
open Go.RowKit
set_option linter.unusedSimpArgs false
set_option linter.unusedVariables false

def t3 (i j k : Nat) : Nat → Int := fun t => match t with | 0 => (i : Int) | 1 => (j : Int) | _ => (k : Int)
theorem cells3_nums (i j k : Nat) : cells3 i j k = nums 3 (t3 i j k) := by kernel_rfl

set_option maxRecDepth 100000 in
theorem specFirstFault_bad (p : Int) (n : Int) (f : Nat → Int) (w : World) (hF : Bytes 520 f) (hs : shapeB p n f = false) :
    Calls Try.prog 46 #[.agg (alg p n f)] w fun e w' => e = .returned (.tuple #[.slice none 0 0, .int .i64 1]) ∧ Below w.heap.size w w' := by
  have HF := Lib.hid hF
  clear hF
  go_enter Try.func46, Try.ntmps46
  go_wp2_with fail
  refine (l01Shape_any _ _ _ _ HF.out).mono ?_; rintro e w1 ⟨rfl, hw1⟩
  go_wp2_with fail
  go_ret2
  exact ⟨rfl, ((Below.refl _ _).alloc (Nat.le_refl _) _).trans (hw1.mono (by simp))⟩

set_option maxRecDepth 100000 in
theorem specFirstFault_none (p : Int) (n : Nat) (f : Nat → Int) (w : World) (hF : Bytes 520 f) (hs : shapeB p n f = true) (hno : NoFault p n f) :
    Calls Try.prog 46 #[.agg (alg p n f)] w fun e w' => e = .returned (.tuple #[.slice none 0 0, .int .i64 4]) ∧ Below w.heap.size w w' := by
  have HF := Lib.hid hF
  clear hF
  obtain ⟨hp2, hp31, hn1, hn8⟩ := sizes_range (shape_sizes hs)
  go_enter Try.func46, Try.ntmps46
  go_wp2_with fail
  refine (l01Shape_any _ _ _ _ HF.out).mono ?_; rintro e w1 ⟨rfl, hw1⟩
  obtain ⟨r0, c0⟩ := keepB (b := w.heap.size) (c := alg p n f) hw1 (by simp) (by simp [go_sem]) (by simp [go_sem])
  have hb0 := ((Below.refl w.heap.size w).alloc (Nat.le_refl _) (.cells (alg p n f) 31)).trans (hw1.mono (by simp))
  clear hw1
  go_wp2_with fail
  refine (l01Fault_any p n f _ (by omega) (by omega) (by omega) HF.out).mono ?_
  have hn1 := nil_none
  have hn2 := nil_some
  rintro e w2 (⟨rfl, _, hw2⟩ | ⟨b, i, j, k, rfl, hfi, _, _, _, _⟩)
  · have hb2 := hb0.trans (hw2.mono hb0.size)
    go_wp2_with fail
    go_ret2
    exact ⟨rfl, hb2⟩
  · exact (first_not hfi hno).elim

set_option maxRecDepth 100000 in
theorem specFirstFault_some (p : Int) (n : Nat) (f : Nat → Int) (w : World) (hF : Bytes 520 f) (hs : shapeB p n f = true) (hno : ¬ NoFault p n f) :
    Calls Try.prog 46 #[.agg (alg p n f)] w fun e w' => ∃ b i j k, e = .returned (.tuple #[.slice (some ⟨b, 0, none⟩) 3 3, .int .i64 0]) ∧ FirstAt p n f i j k ∧ Below w.heap.size w w' ∧ w.heap.size ≤ b ∧ IsRow w' b ∧ blk w' b = nums 3 (t3 i j k) := by
  have HF := Lib.hid hF
  clear hF
  obtain ⟨hp2, hp31, hn1, hn8⟩ := sizes_range (shape_sizes hs)
  go_enter Try.func46, Try.ntmps46
  go_wp2_with fail
  refine (l01Shape_any _ _ _ _ HF.out).mono ?_; rintro e w1 ⟨rfl, hw1⟩
  obtain ⟨r0, c0⟩ := keepB (b := w.heap.size) (c := alg p n f) hw1 (by simp) (by simp [go_sem]) (by simp [go_sem])
  have hb0 := ((Below.refl w.heap.size w).alloc (Nat.le_refl _) (.cells (alg p n f) 31)).trans (hw1.mono (by simp))
  clear hw1
  go_wp2_with fail
  refine (l01Fault_any p n f _ (by omega) (by omega) (by omega) HF.out).mono ?_
  have hn1 := nil_none
  have hn2 := nil_some
  rintro e w2 (⟨rfl, h, hw2⟩ | ⟨b, i, j, k, rfl, hfi, hw2, hbb, r3, c3⟩)
  · exact (hno h).elim
  · have hb2 := hb0.trans (hw2.mono hb0.size)
    have hz := hb0.size
    have Hfi := Lib.hid hfi
    clear hfi
    rw [cells3_nums] at c3
    go_wp2_with fail
    go_ret2
    exact ⟨b, i, j, k, rfl, Hfi.out, hb2, by omega, r3, c3⟩

set_option maxRecDepth 100000 in
theorem firstFault_bad (p : Int) (n : Int) (f : Nat → Int) (w : World) (hF : Bytes 520 f) (hs : shapeB p n f = false) :
    Calls Try.prog 47 #[.agg (alg p n f)] w fun e w' => e = .returned (.tuple #[.slice none 0 0, .int .i64 1]) ∧ Below w.heap.size w w' := by
  have HF := Lib.hid hF
  clear hF
  go_enter Try.func47, Try.ntmps47
  go_wp2_with fail
  refine (isShaped_any _ _ _ _ HF.out).mono ?_; rintro e w1 ⟨rfl, hw1⟩
  go_wp2_with fail
  go_ret2
  exact ⟨rfl, ((Below.refl _ _).alloc (Nat.le_refl _) _).trans (hw1.mono (by simp))⟩

set_option maxRecDepth 100000 in
theorem firstFault_none (p : Int) (n : Nat) (f : Nat → Int) (w : World) (hF : Bytes 520 f) (hs : shapeB p n f = true) (hno : NoFault p n f) :
    Calls Try.prog 47 #[.agg (alg p n f)] w fun e w' => e = .returned (.tuple #[.slice none 0 0, .int .i64 4]) ∧ Below w.heap.size w w' := by
  have HF := Lib.hid hF
  clear hF
  obtain ⟨hp2, hp31, hn1, hn8⟩ := sizes_range (shape_sizes hs)
  go_enter Try.func47, Try.ntmps47
  go_wp2_with fail
  refine (isShaped_any _ _ _ _ HF.out).mono ?_; rintro e w1 ⟨rfl, hw1⟩
  obtain ⟨r0, c0⟩ := keepB (b := w.heap.size) (c := alg p n f) hw1 (by simp) (by simp [go_sem]) (by simp [go_sem])
  have hb0 := ((Below.refl w.heap.size w).alloc (Nat.le_refl _) (.cells (alg p n f) 31)).trans (hw1.mono (by simp))
  clear hw1
  go_wp2_with fail
  refine (findFault_any p n f _ (by omega) (by omega) (by omega) HF.out).mono ?_
  have hn1 := nil_none
  have hn2 := nil_some
  rintro e w2 (⟨rfl, _, hw2⟩ | ⟨b, i, j, k, rfl, hfi, _, _, _, _⟩)
  · have hb2 := hb0.trans (hw2.mono hb0.size)
    go_wp2_with fail
    go_ret2
    exact ⟨rfl, hb2⟩
  · exact (first_not hfi hno).elim

set_option maxRecDepth 100000 in
theorem firstFault_some (p : Int) (n : Nat) (f : Nat → Int) (w : World) (hF : Bytes 520 f) (hs : shapeB p n f = true) (hno : ¬ NoFault p n f) :
    Calls Try.prog 47 #[.agg (alg p n f)] w fun e w' => ∃ b i j k, e = .returned (.tuple #[.slice (some ⟨b, 0, none⟩) 3 3, .int .i64 0]) ∧ FirstAt p n f i j k ∧ Below w.heap.size w w' ∧ w.heap.size ≤ b ∧ IsRow w' b ∧ blk w' b = nums 3 (t3 i j k) := by
  have HF := Lib.hid hF
  clear hF
  obtain ⟨hp2, hp31, hn1, hn8⟩ := sizes_range (shape_sizes hs)
  go_enter Try.func47, Try.ntmps47
  go_wp2_with fail
  refine (isShaped_any _ _ _ _ HF.out).mono ?_; rintro e w1 ⟨rfl, hw1⟩
  obtain ⟨r0, c0⟩ := keepB (b := w.heap.size) (c := alg p n f) hw1 (by simp) (by simp [go_sem]) (by simp [go_sem])
  have hb0 := ((Below.refl w.heap.size w).alloc (Nat.le_refl _) (.cells (alg p n f) 31)).trans (hw1.mono (by simp))
  clear hw1
  go_wp2_with fail
  refine (findFault_any p n f _ (by omega) (by omega) (by omega) HF.out).mono ?_
  have hn1 := nil_none
  have hn2 := nil_some
  rintro e w2 (⟨rfl, h, hw2⟩ | ⟨b, i, j, k, rfl, hfi, hw2, hbb, r3, c3⟩)
  · exact (hno h).elim
  · have hb2 := hb0.trans (hw2.mono hb0.size)
    have hz := hb0.size
    have Hfi := Lib.hid hfi
    clear hfi
    rw [cells3_nums] at c3
    go_wp2_with fail
    go_ret2
    exact ⟨b, i, j, k, rfl, Hfi.out, hb2, by omega, r3, c3⟩

set_option maxRecDepth 100000 in
set_option maxHeartbeats 1000000 in
theorem lawFirstFault_bad (p n : Int) (f : Nat → Int) (hF : Bytes 520 f) (hs : shapeB p n f = false) (w : World) :
    Calls Try.prog 9 #[.agg (alg p n f)] w fun e w' => e = .returned (.bool true) ∧ Below w.heap.size w w' := by
  have Hb := Lib.hid hF
  clear hF
  have m0 : IsRow (w.alloc (.cells (alg p n f) 85)) w.heap.size := by simp [go_sem]
  have c0 : blk (w.alloc (.cells (alg p n f) 85)) w.heap.size = alg p n f := by simp [go_sem]
  have hb0 : Below w.heap.size w (w.alloc (.cells (alg p n f) 85)) := (Below.refl _ _).alloc (Nat.le_refl _) _
  go_enter Try.func9, Try.ntmps9
  go_wp2_with fail
  refine (toAlgebra_any _ _ _ _).mono ?_; rintro e w1 ⟨rfl, hw1⟩
  obtain ⟨m1, c1⟩ := keepB hw1 (isRow_lt m0) m0 c0
  have hb1 := hb0.trans (hw1.mono hb0.size)
  clear hw1
  go_wp2_with fail
  refine (specFirstFault_bad _ _ _ _ Hb.out hs).mono ?_; rintro e w2 ⟨rfl, hw2⟩
  obtain ⟨m2, c2⟩ := keepB hw2 (isRow_lt m1) m1 c1
  have hb2 := hb1.trans (hw2.mono hb1.size)
  clear hw2
  go_wp2_with fail
  refine (toAlgebra_any _ _ _ _).mono ?_; rintro e w3 ⟨rfl, hw3⟩
  obtain ⟨m3, c3⟩ := keepB hw3 (isRow_lt m2) m2 c2
  have hb3 := hb2.trans (hw3.mono hb2.size)
  clear hw3
  go_wp2_with fail
  refine (firstFault_bad _ _ _ _ Hb.out hs).mono ?_; rintro e w4 ⟨rfl, hw4⟩
  obtain ⟨m4, c4⟩ := keepB hw4 (isRow_lt m3) m3 c3
  have hb4 := hb3.trans (hw4.mono hb3.size)
  clear hw4
  go_wp2_with fail
  refine (eqInt64S_nil _).mono ?_; rintro e w5 ⟨rfl, hw5⟩
  obtain ⟨m5, c5⟩ := keepB hw5 (isRow_lt m4) m4 c4
  have hb5 := hb4.trans (hw5.mono hb4.size)
  clear hw5
  go_wp2_with fail
  refine (markInt64S_nil _ _).mono ?_; rintro e w' ⟨rfl, rfl⟩
  go_wp2_with fail
  refine (heldInt64S_nil _ _).mono ?_; rintro e w' ⟨rfl, rfl⟩
  go_wp2_with fail
  refine (toAlgebra_any _ _ _ _).mono ?_; rintro e w6 ⟨rfl, hw6⟩
  obtain ⟨m6, c6⟩ := keepB hw6 (isRow_lt m5) m5 c5
  have hb6 := hb5.trans (hw6.mono hb5.size)
  clear hw6
  go_wp2_with fail
  refine (firstFault_bad _ _ _ _ Hb.out hs).mono ?_; rintro e w7 ⟨rfl, hw7⟩
  obtain ⟨m7, c7⟩ := keepB hw7 (isRow_lt m6) m6 c6
  have hb7 := hb6.trans (hw7.mono hb6.size)
  clear hw7
  go_wp2_with fail
  refine (eqInt64S_nil _).mono ?_; rintro e w8 ⟨rfl, hw8⟩
  obtain ⟨m8, c8⟩ := keepB hw8 (isRow_lt m7) m7 c7
  have hb8 := hb7.trans (hw8.mono hb7.size)
  clear hw8
  go_wp2_with fail
  refine (heldInt64S_nil _ _).mono ?_; rintro e w' ⟨rfl, rfl⟩
  go_wp2_with fail
  go_ret
  exact ⟨rfl, hb8⟩

set_option maxRecDepth 100000 in
set_option maxHeartbeats 1000000 in
theorem lawFirstFault_none (p : Int) (n : Nat) (f : Nat → Int) (hF : Bytes 520 f) (hs : shapeB p n f = true) (hno : NoFault p n f) (w : World) :
    Calls Try.prog 9 #[.agg (alg p n f)] w fun e w' => e = .returned (.bool true) ∧ Below w.heap.size w w' := by
  have Hb := Lib.hid hF
  clear hF
  have m0 : IsRow (w.alloc (.cells (alg p n f) 85)) w.heap.size := by simp [go_sem]
  have c0 : blk (w.alloc (.cells (alg p n f) 85)) w.heap.size = alg p n f := by simp [go_sem]
  have hb0 : Below w.heap.size w (w.alloc (.cells (alg p n f) 85)) := (Below.refl _ _).alloc (Nat.le_refl _) _
  go_enter Try.func9, Try.ntmps9
  go_wp2_with fail
  refine (toAlgebra_any _ _ _ _).mono ?_; rintro e w1 ⟨rfl, hw1⟩
  obtain ⟨m1, c1⟩ := keepB hw1 (isRow_lt m0) m0 c0
  have hb1 := hb0.trans (hw1.mono hb0.size)
  clear hw1
  go_wp2_with fail
  refine (specFirstFault_none _ _ _ _ Hb.out hs hno).mono ?_; rintro e w2 ⟨rfl, hw2⟩
  obtain ⟨m2, c2⟩ := keepB hw2 (isRow_lt m1) m1 c1
  have hb2 := hb1.trans (hw2.mono hb1.size)
  clear hw2
  go_wp2_with fail
  refine (toAlgebra_any _ _ _ _).mono ?_; rintro e w3 ⟨rfl, hw3⟩
  obtain ⟨m3, c3⟩ := keepB hw3 (isRow_lt m2) m2 c2
  have hb3 := hb2.trans (hw3.mono hb2.size)
  clear hw3
  go_wp2_with fail
  refine (firstFault_none _ _ _ _ Hb.out hs hno).mono ?_; rintro e w4 ⟨rfl, hw4⟩
  obtain ⟨m4, c4⟩ := keepB hw4 (isRow_lt m3) m3 c3
  have hb4 := hb3.trans (hw4.mono hb3.size)
  clear hw4
  go_wp2_with fail
  refine (eqInt64S_nil _).mono ?_; rintro e w5 ⟨rfl, hw5⟩
  obtain ⟨m5, c5⟩ := keepB hw5 (isRow_lt m4) m4 c4
  have hb5 := hb4.trans (hw5.mono hb4.size)
  clear hw5
  go_wp2_with fail
  refine (markInt64S_nil _ _).mono ?_; rintro e w' ⟨rfl, rfl⟩
  go_wp2_with fail
  refine (heldInt64S_nil _ _).mono ?_; rintro e w' ⟨rfl, rfl⟩
  go_wp2_with fail
  refine (toAlgebra_any _ _ _ _).mono ?_; rintro e w6 ⟨rfl, hw6⟩
  obtain ⟨m6, c6⟩ := keepB hw6 (isRow_lt m5) m5 c5
  have hb6 := hb5.trans (hw6.mono hb5.size)
  clear hw6
  go_wp2_with fail
  refine (firstFault_none _ _ _ _ Hb.out hs hno).mono ?_; rintro e w7 ⟨rfl, hw7⟩
  obtain ⟨m7, c7⟩ := keepB hw7 (isRow_lt m6) m6 c6
  have hb7 := hb6.trans (hw7.mono hb6.size)
  clear hw7
  go_wp2_with fail
  refine (eqInt64S_nil _).mono ?_; rintro e w8 ⟨rfl, hw8⟩
  obtain ⟨m8, c8⟩ := keepB hw8 (isRow_lt m7) m7 c7
  have hb8 := hb7.trans (hw8.mono hb7.size)
  clear hw8
  go_wp2_with fail
  refine (heldInt64S_nil _ _).mono ?_; rintro e w' ⟨rfl, rfl⟩
  go_wp2_with fail
  go_ret
  exact ⟨rfl, hb8⟩

set_option maxRecDepth 100000 in
set_option maxHeartbeats 1000000 in
theorem lawFirstFault_some (p : Int) (n : Nat) (f : Nat → Int) (hF : Bytes 520 f) (hs : shapeB p n f = true) (hno : ¬ NoFault p n f) (w : World) :
    Calls Try.prog 9 #[.agg (alg p n f)] w fun e w' => e = .returned (.bool true) ∧ Below w.heap.size w w' := by
  have Hb := Lib.hid hF
  clear hF
  have m0 : IsRow (w.alloc (.cells (alg p n f) 85)) w.heap.size := by simp [go_sem]
  have c0 : blk (w.alloc (.cells (alg p n f) 85)) w.heap.size = alg p n f := by simp [go_sem]
  have hb0 : Below w.heap.size w (w.alloc (.cells (alg p n f) 85)) := (Below.refl _ _).alloc (Nat.le_refl _) _
  go_enter Try.func9, Try.ntmps9
  go_wp2_with fail
  refine (toAlgebra_any _ _ _ _).mono ?_; rintro e w1 ⟨rfl, hw1⟩
  obtain ⟨m1, c1⟩ := keepB hw1 (isRow_lt m0) m0 c0
  have hb1 := hb0.trans (hw1.mono hb0.size)
  clear hw1
  go_wp2_with fail
  refine (specFirstFault_some _ _ _ _ Hb.out hs hno).mono ?_; rintro e w2 ⟨b, i, j, k, rfl, hf1, hw2, hbb, r2, g2⟩
  obtain ⟨m2, c2⟩ := keepB hw2 (isRow_lt m1) m1 c1
  have hb2 := hb1.trans (hw2.mono hb1.size)
  have s2 := hb1.size
  clear hw2
  have Hf1 := Lib.hid hf1
  clear hf1
  go_wp2_with fail
  refine (toAlgebra_any _ _ _ _).mono ?_; rintro e w3 ⟨rfl, hw3⟩
  obtain ⟨m3, c3⟩ := keepB hw3 (isRow_lt m2) m2 c2
  obtain ⟨r3, g3⟩ := keepB hw3 (isRow_lt r2) r2 g2
  have hb3 := hb2.trans (hw3.mono hb2.size)
  clear hw3
  go_wp2_with fail
  refine (firstFault_some _ _ _ _ Hb.out hs hno).mono ?_; rintro e w4 ⟨b1, i', j', k', rfl, hf2, hw4, hbb1, q4, h4⟩
  obtain ⟨rfl, rfl, rfl⟩ := first_eq Hf1.out hf2
  clear hf2
  obtain ⟨m4, c4⟩ := keepB hw4 (isRow_lt m3) m3 c3
  obtain ⟨r4, g4⟩ := keepB hw4 (isRow_lt r3) r3 g3
  have hb4 := hb3.trans (hw4.mono hb3.size)
  have l1 := isRow_lt r3
  have l2 := isRow_lt m3
  clear hw4
  go_wp2_with fail
  refine (eqInt64S_same b1 b 3 3 3 (t3 i j k) _ (by omega) q4 h4 r4 g4).mono ?_; rintro e w5 ⟨rfl, hw5⟩
  obtain ⟨m5, c5⟩ := keepB hw5 (isRow_lt m4) m4 c4
  obtain ⟨r5, g5⟩ := keepB hw5 (isRow_lt r4) r4 g4
  obtain ⟨q5, h5⟩ := keepB hw5 (isRow_lt q4) q4 h4
  have hb5 := hb4.trans (hw5.mono hb4.size)
  clear hw5
  go_wp2_with fail
  refine (markInt64S_any b1 3 3 (t3 i j k) 101 _ (by omega) (by omega) (by omega) q5 h5).mono ?_; rintro e w6 ⟨rfl, hw6, q6, h6⟩
  obtain ⟨m6, c6⟩ := keepB hw6 (by omega) m5 c5
  obtain ⟨r6, g6⟩ := keepB hw6 (by omega) r5 g5
  have hb6 := hb5.trans (hw6.mono (by omega))
  clear hw6
  go_wp2_with fail
  refine (heldInt64S_any b1 3 3 (t3 i j k) 101 _ (by omega) (by omega) (by omega) q6 h6).mono ?_; rintro e w' ⟨rfl, rfl⟩
  go_wp2_with fail
  refine (toAlgebra_any _ _ _ _).mono ?_; rintro e w7 ⟨rfl, hw7⟩
  obtain ⟨m7, c7⟩ := keepB hw7 (isRow_lt m6) m6 c6
  obtain ⟨r7, g7⟩ := keepB hw7 (isRow_lt r6) r6 g6
  obtain ⟨q7, h7⟩ := keepB hw7 (isRow_lt q6) q6 h6
  have hb7 := hb6.trans (hw7.mono hb6.size)
  clear hw7
  go_wp2_with fail
  refine (firstFault_some _ _ _ _ Hb.out hs hno).mono ?_; rintro e w8 ⟨b2, i', j', k', rfl, hf2, hw8, hbb2, u8, v8⟩
  obtain ⟨rfl, rfl, rfl⟩ := first_eq Hf1.out hf2
  clear hf2
  obtain ⟨r8, g8⟩ := keepB hw8 (isRow_lt r7) r7 g7
  obtain ⟨q8, h8⟩ := keepB hw8 (isRow_lt q7) q7 h7
  have hb8 := hb7.trans (hw8.mono hb7.size)
  clear hw8
  go_wp2_with fail
  refine (eqInt64S_same b2 b 3 3 3 (t3 i j k) _ (by omega) u8 v8 r8 g8).mono ?_; rintro e w9 ⟨rfl, hw9⟩
  obtain ⟨q9, h9⟩ := keepB hw9 (isRow_lt q8) q8 h8
  have hb9 := hb8.trans (hw9.mono hb8.size)
  clear hw9
  go_wp2_with fail
  refine (heldInt64S_any b1 3 3 (t3 i j k) 101 _ (by omega) (by omega) (by omega) q9 h9).mono ?_; rintro e w' ⟨rfl, rfl⟩
  go_wp2_with fail
  go_ret
  exact ⟨rfl, hb9⟩

theorem lawFirstFault (p n : Int) (f : Nat → Int) (_wp : (Lit.int .i64 p).wf = true) (_wn : (Lit.int .i64 n).wf = true) (hb : Bytes 520 f) (w : World) :
    Calls Try.prog 9 #[.agg (alg p n f)] w fun e w' => e = .returned (.bool true) ∧ Below w.heap.size w w' := by
  cases hs : shapeB p n f
  · exact lawFirstFault_bad p n f hb hs w
  · obtain ⟨hp2, hp31, hn1, hn8⟩ := sizes_range (shape_sizes hs)
    obtain ⟨n, rfl⟩ := Int.eq_ofNat_of_zero_le (show 0 ≤ n by omega)
    by_cases hno : NoFault p n f
    · exact lawFirstFault_none p n f hb hs hno w
    · exact lawFirstFault_some p n f hb hs hno w
end Go.Proofs.Ytkcddfpchkjcgaa
