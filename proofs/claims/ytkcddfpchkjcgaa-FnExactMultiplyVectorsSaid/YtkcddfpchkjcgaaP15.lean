/- The walk of FnExactMultiplyVectors. -/
import Derived.Test.YtkcddfpchkjcgaaP14
import Derived.Test.YtkcddfpchkjcgaaRegionC
namespace Go.Proofs.Ytkcddfpchkjcgaa
open Go.RowKit
set_option linter.unusedSimpArgs false
set_option linter.unusedVariables false
attribute [local irreducible] wpQuiet wpQE

set_option maxRecDepth 100000 in
set_option maxHeartbeats 2000000 in
theorem lawMultiplyVectors (p n : Int) (f v u : Nat → Int) (_wp : (Lit.int .i64 p).wf = true) (_wn : (Lit.int .i64 n).wf = true) (hF : Bytes 520 f) (hv : Bytes 8 v) (hu : Bytes 8 u) (w : World) :
    Calls Try.prog 10 #[.agg (alg p n f), .agg (row 8 v), .agg (row 8 u)] w fun e w' => e = .returned (.bool true) ∧ Below w.heap.size w w' := by
  have HF := Lib.hid hF
  have Hv := Lib.hid hv
  have Hu := Lib.hid hu
  clear hF hv hu
  go_enter Try.func10, Try.ntmps10
  go_wp2
  have F0 : Below w.heap.size w (((w.alloc (.cells (alg p n f) 85)).alloc (.cells (row 8 v) 24)).alloc (.cells (row 8 u) 24)) := (((Below.refl w.heap.size w).alloc (Nat.le_refl _) _).alloc (by simp) _).alloc (by simp; omega) _
  have F1 : IsRow (((w.alloc (.cells (alg p n f) 85)).alloc (.cells (row 8 v) 24)).alloc (.cells (row 8 u) 24)) w.heap.size ∧ blk (((w.alloc (.cells (alg p n f) 85)).alloc (.cells (row 8 v) 24)).alloc (.cells (row 8 u) 24)) w.heap.size = alg p n f := by simp [go_sem]
  have F2 : IsRow (((w.alloc (.cells (alg p n f) 85)).alloc (.cells (row 8 v) 24)).alloc (.cells (row 8 u) 24)) (w.heap.size + 1) ∧ blk (((w.alloc (.cells (alg p n f) 85)).alloc (.cells (row 8 v) 24)).alloc (.cells (row 8 u) 24)) (w.heap.size + 1) = row 8 v := by simp [go_sem]
  have F3 : IsRow (((w.alloc (.cells (alg p n f) 85)).alloc (.cells (row 8 v) 24)).alloc (.cells (row 8 u) 24)) (w.heap.size + 2) ∧ blk (((w.alloc (.cells (alg p n f) 85)).alloc (.cells (row 8 v) 24)).alloc (.cells (row 8 u) 24)) (w.heap.size + 2) = row 8 u := by simp [go_sem]
  generalize ((w.alloc (.cells (alg p n f) 85)).alloc (.cells (row 8 v) 24)).alloc (.cells (row 8 u) 24) = wr at F0 F1 F2 F3 ⊢
  have y1 := isRow_lt F1.1
  have y2 := isRow_lt F2.1
  have y3 := isRow_lt F3.1
  have HC : ∀ W, Below wr.heap.size wr W → (IsRow W w.heap.size ∧ blk W w.heap.size = alg p n f) ∧ (IsRow W (w.heap.size + 1) ∧ blk W (w.heap.size + 1) = row 8 v) ∧ (IsRow W (w.heap.size + 2) ∧ blk W (w.heap.size + 2) = row 8 u) :=
    fun W h => ⟨keepB h y1 F1.1 F1.2, keepB h y2 F2.1 F2.2, keepB h y3 F3.1 F3.2⟩
  clear F1 F2 F3
  refine wp_quiet_alloc_late 10 9 _ _ (.cells (row 8 zf) 25) (Below wr.heap.size wr) (Made wr (row 8 zf)) (by kernel_rfl) rfl rfl rfl (by kernel_rfl) (by kernel_rfl) (fun c a w d v h => by cases d <;> exact h) (fun a W => (xallocVec _ _ _ _ _ _ _).trans (allocVec W)) (closed_below wr) (closed_made wr _) (fun b W h => h.1) (fun W h => made_new wr _ _ W h) (Below.refl _ _).drew ?_
  simp only [List.take_succ_cons, List.take_zero, List.drop_succ_cons, List.drop_zero]
  repeat (first | (refine e_plain rfl ?_; apply Exists.intro; refine ⟨fun D hD hK W hW => ?_, ?_⟩; (focus (obtain ⟨⟨x1, x2⟩, ⟨x3, x4⟩, x5, x6⟩ := HC W (hD W hW); unfold Oper.quietAt; go_simp; first | done | rfl | (first | (go_at_call 88; exact (toAlgebra_any _ _ _ _).mono fun e w2 ⟨he, hw2⟩ => ⟨he, hK _ _ hW hw2⟩) | (go_at_call 86; exact (toVector_any _ _).mono fun e w2 ⟨he, hw2⟩ => ⟨he, hK _ _ hW hw2⟩) | (go_at_call 92; exact (specMultiplyVectors_any p n f v u _ HF.out Hv.out Hu.out).mono fun e w2 ⟨he, hw2⟩ => ⟨he, hK _ _ hW hw2⟩)))); simp only [Act.put, List.setIfInBounds_toArray, List.set_cons_zero, List.set_cons_succ]) | (refine e_skip (by rfl) ?_; simp only [Act.put, List.setIfInBounds_toArray, List.set_cons_zero, List.set_cons_succ]) | (refine e_want (by rfl) ?_; apply Exists.intro; refine ⟨fun D hD hK W hW => ?_, ?_⟩; (focus (obtain ⟨⟨x1, x2⟩, ⟨x3, x4⟩, x5, x6⟩ := HC W (hD W hW); unfold Oper.quietAt; go_simp; first | done | rfl | (first | (go_at_call 88; exact (toAlgebra_any _ _ _ _).mono fun e w2 ⟨he, hw2⟩ => ⟨he, hK _ _ hW hw2⟩) | (go_at_call 86; exact (toVector_any _ _).mono fun e w2 ⟨he, hw2⟩ => ⟨he, hK _ _ hW hw2⟩) | (go_at_call 92; exact (specMultiplyVectors_any p n f v u _ HF.out Hv.out Hu.out).mono fun e w2 ⟨he, hw2⟩ => ⟨he, hK _ _ hW hw2⟩)))); simp only [Act.put, List.setIfInBounds_toArray, List.set_cons_zero, List.set_cons_succ]))
  refine e_nil ?_
  intro b W hW
  obtain ⟨hW1, hbb, m1, m2⟩ := hW
  obtain ⟨⟨x1, x2⟩, ⟨x3, x4⟩, x5, x6⟩ := HC W hW1
  clear HC
  have hb0 : b ≠ w.heap.size := by omega
  have hb1 : b ≠ w.heap.size + 1 := by omega
  have hb2 : b ≠ w.heap.size + 2 := by omega
  have hb0' := Ne.symm hb0
  have hb1' := Ne.symm hb1
  have hb2' := Ne.symm hb2
  have hwr := F0.size
  simp only [Act.put, List.setIfInBounds_toArray, List.set_cons_zero, List.set_cons_succ]
  go_wp2
  have G0 : Below w.heap.size w (W.setRow b (row 8 (timesR p n f v u))) := below_setRow (F0.trans (hW1.mono hwr)) (by omega) _
  have G1 : IsRow (W.setRow b (row 8 (timesR p n f v u))) w.heap.size ∧ blk (W.setRow b (row 8 (timesR p n f v u))) w.heap.size = alg p n f := by simp [go_sem, x1, x2, m1, hb0']
  have G2 : IsRow (W.setRow b (row 8 (timesR p n f v u))) (w.heap.size + 1) ∧ blk (W.setRow b (row 8 (timesR p n f v u))) (w.heap.size + 1) = row 8 v := by simp [go_sem, x3, x4, m1, hb1']
  have G3 : IsRow (W.setRow b (row 8 (timesR p n f v u))) (w.heap.size + 2) ∧ blk (W.setRow b (row 8 (timesR p n f v u))) (w.heap.size + 2) = row 8 u := by simp [go_sem, x5, x6, m1, hb2']
  have G4 : IsRow (W.setRow b (row 8 (timesR p n f v u))) b ∧ blk (W.setRow b (row 8 (timesR p n f v u))) b = row 8 (timesR p n f v u) := by simp [go_sem, m1]
  clear x1 x2 x3 x4 x5 x6 m1 m2
  generalize W.setRow b (row 8 (timesR p n f v u)) = W1 at G0 G1 G2 G3 G4 ⊢
  have v1 := isRow_lt G1.1
  have v2 := isRow_lt G2.1
  have v3 := isRow_lt G3.1
  have v4 := isRow_lt G4.1
  have HC : ∀ W, Below W1.heap.size W1 W → (IsRow W w.heap.size ∧ blk W w.heap.size = alg p n f) ∧ (IsRow W (w.heap.size + 1) ∧ blk W (w.heap.size + 1) = row 8 v) ∧ (IsRow W (w.heap.size + 2) ∧ blk W (w.heap.size + 2) = row 8 u) ∧ (IsRow W b ∧ blk W b = row 8 (timesR p n f v u)) :=
    fun W h => ⟨keepB h v1 G1.1 G1.2, keepB h v2 G2.1 G2.2, keepB h v3 G3.1 G3.2, keepB h v4 G4.1 G4.2⟩
  clear G1 G2 G3 G4
  refine wp_quiet_alloc_late 10 9 _ _ (.cells (row 8 zf) 25) (Below W1.heap.size W1) (Made W1 (row 8 zf)) (by kernel_rfl) rfl rfl rfl (by kernel_rfl) (by kernel_rfl) (fun c a w d v h => by cases d <;> exact h) (fun a W => (xallocVec _ _ _ _ _ _ _).trans (allocVec W)) (closed_below W1) (closed_made W1 _) (fun b W h => h.1) (fun W h => made_new W1 _ _ W h) (Below.refl _ _).drew ?_
  simp only [List.take_succ_cons, List.take_zero, List.drop_succ_cons, List.drop_zero]
  repeat (first | (refine e_plain rfl ?_; apply Exists.intro; refine ⟨fun D hD hK W hW => ?_, ?_⟩; (focus (obtain ⟨⟨x1, x2⟩, ⟨x3, x4⟩, ⟨x5, x6⟩, x7, x8⟩ := HC W (hD W hW); unfold Oper.quietAt; go_simp; first | done | rfl | (first | (go_at_call 88; exact (toAlgebra_any _ _ _ _).mono fun e w2 ⟨he, hw2⟩ => ⟨he, hK _ _ hW hw2⟩) | (go_at_call 86; exact (toVector_any _ _).mono fun e w2 ⟨he, hw2⟩ => ⟨he, hK _ _ hW hw2⟩) | (go_at_call 93; exact (multiplyVectors_any p n f v u _ HF.out Hv.out Hu.out).mono fun e w2 ⟨he, hw2⟩ => ⟨he, hK _ _ hW hw2⟩)))); simp only [Act.put, List.setIfInBounds_toArray, List.set_cons_zero, List.set_cons_succ]) | (refine e_skip (by rfl) ?_; simp only [Act.put, List.setIfInBounds_toArray, List.set_cons_zero, List.set_cons_succ]) | (refine e_want (by rfl) ?_; apply Exists.intro; refine ⟨fun D hD hK W hW => ?_, ?_⟩; (focus (obtain ⟨⟨x1, x2⟩, ⟨x3, x4⟩, ⟨x5, x6⟩, x7, x8⟩ := HC W (hD W hW); unfold Oper.quietAt; go_simp; first | done | rfl | (first | (go_at_call 88; exact (toAlgebra_any _ _ _ _).mono fun e w2 ⟨he, hw2⟩ => ⟨he, hK _ _ hW hw2⟩) | (go_at_call 86; exact (toVector_any _ _).mono fun e w2 ⟨he, hw2⟩ => ⟨he, hK _ _ hW hw2⟩) | (go_at_call 93; exact (multiplyVectors_any p n f v u _ HF.out Hv.out Hu.out).mono fun e w2 ⟨he, hw2⟩ => ⟨he, hK _ _ hW hw2⟩)))); simp only [Act.put, List.setIfInBounds_toArray, List.set_cons_zero, List.set_cons_succ]))
  refine e_nil ?_
  intro b2 W2 hW
  obtain ⟨hW2, hbb2, m1, m2⟩ := hW
  obtain ⟨⟨x1, x2⟩, ⟨x3, x4⟩, ⟨x5, x6⟩, x7, x8⟩ := HC W2 hW2
  clear HC
  have q2 : b2 ≠ b := by omega
  have q2' := Ne.symm q2
  have hw1 := G0.size
  simp only [Act.put, List.setIfInBounds_toArray, List.set_cons_zero, List.set_cons_succ]
  have K0 : Below w.heap.size w (W2.setRow b2 (row 8 (timesR p n f v u))) := below_setRow (G0.trans (hW2.mono hw1)) (by omega) _
  have hz := K0.size
  go_wp2_with fail
  refine (eqVector_same _ _).mono ?_; rintro e w3 ⟨rfl, hw3⟩
  go_wp2_with fail
  go_ret
  exact ⟨rfl, K0.trans (hw3.mono hz)⟩
end Go.Proofs.Ytkcddfpchkjcgaa
