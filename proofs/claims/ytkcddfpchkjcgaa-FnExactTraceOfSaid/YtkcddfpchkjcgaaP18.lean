/- The walk of FnExactTraceOf. -/
import Derived.Test.YtkcddfpchkjcgaaP17
namespace Go.Proofs.Ytkcddfpchkjcgaa
open Go.RowKit
set_option linter.unusedSimpArgs false
set_option linter.unusedVariables false
attribute [local irreducible] wpQuiet wpQE

set_option maxRecDepth 100000 in
set_option maxHeartbeats 2000000 in
theorem lawTraceOf (p n : Int) (f v : Nat → Int) (_wp : (Lit.int .i64 p).wf = true) (_wn : (Lit.int .i64 n).wf = true) (hF : Bytes 520 f) (hv : Bytes 8 v) (w : World) :
    Calls Try.prog 16 #[.agg (alg p n f), .agg (row 8 v)] w fun e w' => e = .returned (.bool true) ∧ Below w.heap.size w w' := by
  have HF := Lib.hid hF
  have Hv := Lib.hid hv
  clear hF hv
  go_enter Try.func16, Try.ntmps16
  go_wp2
  have F0 : Below w.heap.size w ((w.alloc (.cells (alg p n f) 85)).alloc (.cells (row 8 v) 24)) := ((Below.refl w.heap.size w).alloc (Nat.le_refl _) _).alloc (by simp) _
  have F1 : IsRow ((w.alloc (.cells (alg p n f) 85)).alloc (.cells (row 8 v) 24)) w.heap.size ∧ blk ((w.alloc (.cells (alg p n f) 85)).alloc (.cells (row 8 v) 24)) w.heap.size = alg p n f := by simp [go_sem]
  have F2 : IsRow ((w.alloc (.cells (alg p n f) 85)).alloc (.cells (row 8 v) 24)) (w.heap.size + 1) ∧ blk ((w.alloc (.cells (alg p n f) 85)).alloc (.cells (row 8 v) 24)) (w.heap.size + 1) = row 8 v := by simp [go_sem]
  generalize (w.alloc (.cells (alg p n f) 85)).alloc (.cells (row 8 v) 24) = wr at F0 F1 F2 ⊢
  have y1 := isRow_lt F1.1
  have y2 := isRow_lt F2.1
  have HC : ∀ W, Below wr.heap.size wr W → (IsRow W w.heap.size ∧ blk W w.heap.size = alg p n f) ∧ (IsRow W (w.heap.size + 1) ∧ blk W (w.heap.size + 1) = row 8 v) := fun W h => ⟨keepB h y1 F1.1 F1.2, keepB h y2 F2.1 F2.2⟩
  refine wp_quiet_all (Below wr.heap.size wr) (by kernel_rfl) (by kernel_rfl) (Below.refl _ _).drew ?_
  repeat (first | (refine q_plain rfl ?_; apply Exists.intro; refine ⟨fun W hW => ?_, ?_⟩; (focus (obtain ⟨⟨x1, x2⟩, x3, x4⟩ := HC W hW; go_simp; first | done | rfl | (first | (go_at_call 88; exact (toAlgebra_any _ _ _ _).mono fun e w2 ⟨he, hw2⟩ => ⟨he, hW.trans (hw2.mono hW.size)⟩) | (go_at_call 86; exact (toVector_any _ _).mono fun e w2 ⟨he, hw2⟩ => ⟨he, hW.trans (hw2.mono hW.size)⟩) | (go_at_call 105; exact (specTraceOf_any p n f v _ HF.out Hv.out).mono fun e w2 ⟨he, hw2⟩ => ⟨he, hW.trans (hw2.mono hW.size)⟩)))); simp only [Act.put, List.setIfInBounds_toArray, List.set_cons_zero, List.set_cons_succ]) | (refine q_skip (by rfl) ?_; simp only [Act.put, List.setIfInBounds_toArray, List.set_cons_zero, List.set_cons_succ]) | (refine q_want (by rfl) ?_; apply Exists.intro; refine ⟨fun W hW => ?_, ?_⟩; (focus (obtain ⟨⟨x1, x2⟩, x3, x4⟩ := HC W hW; go_simp; first | done | rfl | (first | (go_at_call 88; exact (toAlgebra_any _ _ _ _).mono fun e w2 ⟨he, hw2⟩ => ⟨he, hW.trans (hw2.mono hW.size)⟩) | (go_at_call 86; exact (toVector_any _ _).mono fun e w2 ⟨he, hw2⟩ => ⟨he, hW.trans (hw2.mono hW.size)⟩) | (go_at_call 105; exact (specTraceOf_any p n f v _ HF.out Hv.out).mono fun e w2 ⟨he, hw2⟩ => ⟨he, hW.trans (hw2.mono hW.size)⟩)))); simp only [Act.put, List.setIfInBounds_toArray, List.set_cons_zero, List.set_cons_succ]))
  refine wpQuiet_nil ?_
  intro W1 hW1
  have F3 := HC W1 hW1
  clear HC
  have z1 := isRow_lt F3.1.1
  have z2 := isRow_lt F3.2.1
  have HC : ∀ W, Below W1.heap.size W1 W → (IsRow W w.heap.size ∧ blk W w.heap.size = alg p n f) ∧ (IsRow W (w.heap.size + 1) ∧ blk W (w.heap.size + 1) = row 8 v) := fun W h => ⟨keepB h z1 F3.1.1 F3.1.2, keepB h z2 F3.2.1 F3.2.2⟩
  go_wp2
  refine wp_quiet_all (Below W1.heap.size W1) (by kernel_rfl) (by kernel_rfl) (Below.refl _ _).drew ?_
  repeat (first | (refine q_plain rfl ?_; apply Exists.intro; refine ⟨fun W hW => ?_, ?_⟩; (focus (obtain ⟨⟨x1, x2⟩, x3, x4⟩ := HC W hW; go_simp; first | done | rfl | (first | (go_at_call 88; exact (toAlgebra_any _ _ _ _).mono fun e w2 ⟨he, hw2⟩ => ⟨he, hW.trans (hw2.mono hW.size)⟩) | (go_at_call 86; exact (toVector_any _ _).mono fun e w2 ⟨he, hw2⟩ => ⟨he, hW.trans (hw2.mono hW.size)⟩) | (go_at_call 106; exact (traceOf_any p n f v _ HF.out Hv.out).mono fun e w2 ⟨he, hw2⟩ => ⟨he, hW.trans (hw2.mono hW.size)⟩)))); simp only [Act.put, List.setIfInBounds_toArray, List.set_cons_zero, List.set_cons_succ]) | (refine q_skip (by rfl) ?_; simp only [Act.put, List.setIfInBounds_toArray, List.set_cons_zero, List.set_cons_succ]) | (refine q_want (by rfl) ?_; apply Exists.intro; refine ⟨fun W hW => ?_, ?_⟩; (focus (obtain ⟨⟨x1, x2⟩, x3, x4⟩ := HC W hW; go_simp; first | done | rfl | (first | (go_at_call 88; exact (toAlgebra_any _ _ _ _).mono fun e w2 ⟨he, hw2⟩ => ⟨he, hW.trans (hw2.mono hW.size)⟩) | (go_at_call 86; exact (toVector_any _ _).mono fun e w2 ⟨he, hw2⟩ => ⟨he, hW.trans (hw2.mono hW.size)⟩) | (go_at_call 106; exact (traceOf_any p n f v _ HF.out Hv.out).mono fun e w2 ⟨he, hw2⟩ => ⟨he, hW.trans (hw2.mono hW.size)⟩)))); simp only [Act.put, List.setIfInBounds_toArray, List.set_cons_zero, List.set_cons_succ]))
  refine wpQuiet_nil ?_
  intro W2 hW2
  go_wp2
  go_ret
  have hwr := F0.size
  exact ⟨rfl, (F0.trans (hW1.mono hwr)).trans (hW2.mono (by have := hW1.size; omega))⟩
end Go.Proofs.Ytkcddfpchkjcgaa
