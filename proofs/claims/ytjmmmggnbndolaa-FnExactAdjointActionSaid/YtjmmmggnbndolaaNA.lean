/- Law AdjointAction. -/
import Derived.Test.YtjmmmggnbndolaaN1
namespace Go.Proofs.Ytjmmmggnbndolaa
open Go.RowKit
set_option linter.unusedSimpArgs false
set_option linter.unusedVariables false
attribute [local irreducible] wpQuiet wpQE

theorem vecsTwo {W : World} {b : Nat} {v u : Nat → Int} (hc : blk W b = row 16 (pair v u)) (hv : Bytes 8 v) (hu : Bytes 8 u) : VecsAt W b 0 2 (nth (pair v u)) := fun i hi => by
  rw [hc, row_size]
  refine ⟨by omega, nth_row _ 16 i (by omega), fun t ht => ?_⟩
  show 0 ≤ pair v u (i * 8 + t) ∧ pair v u (i * 8 + t) ≤ 255
  unfold pair
  split
  · exact hv _ (by omega)
  · exact hu _ (by omega)
theorem adjoint_any (p : Int) (n : Nat) (f a b : Nat → Int) (r : Bool) (w : World) (hp : 0 < p) (hp' : p ≤ 255) (hn : n ≤ 8) (hF : Bytes 1104 f) (ha : Bytes 8 a) (hb : Bytes 8 b) :
    Calls Try.prog 37 #[.agg (hop p n f), .agg (row 8 a), .agg (row 8 b), .bool r] w fun e w' => e = .returned (.agg (row 8 (adI p n f a b r n))) ∧ Below w.heap.size w w' := by
  cases r
  · exact adjoint_false p n f a b w hp hp' hn hF ha hb
  · exact adjoint_true p n f a b w hp hp' hn hF ha hb
theorem l07Adjoint_any (p : Int) (n : Nat) (f a b : Nat → Int) (r : Bool) (w : World) (hp : 0 < p) (hp' : p ≤ 255) (hn : n ≤ 8) (hF : Bytes 1104 f) (ha : Bytes 8 a) (hb : Bytes 8 b) (hs : shapeH p n f = true) :
    Calls Try.prog 34 #[.agg (hop p n f), .agg (row 8 a), .agg (row 8 b), .bool r] w fun e w' => e = .returned (.agg (row 8 (adI p n f a b r n))) ∧ Below w.heap.size w w' := by
  rw [← ad_same hs hn]
  cases r
  · exact l07Adjoint_false p n f a b w hp hp' hn hF ha hb
  · exact l07Adjoint_true p n f a b w hp hp' hn hF ha hb

set_option maxRecDepth 100000 in
set_option maxHeartbeats 1000000 in
theorem implAdjoint_any (p n : Int) (f a b : Nat → Int) (r : Bool) (w : World) (hF : Bytes 1104 f) (ha : Bytes 8 a) (hb : Bytes 8 b) :
    Calls Try.prog 20 #[.agg (hop p n f), .agg (row 8 a), .agg (row 8 b), .bool r] w fun e w' => e = .returned (.tuple #[.agg (row 8 (onlyF (okH p n f 2 (nth (pair a b))) (adI p n.toNat f a b r n.toNat))), .int .i64 (codeB (okH p n f 2 (nth (pair a b))))]) ∧ Below w.heap.size w w' := by
 have HF := Lib.hid hF; clear hF
 have Ha := Lib.hid ha; clear ha
 have Hb := Lib.hid hb; clear hb
 cases hc : okH p n f 2 (nth (pair a b))
 ·
  go_enter Try.func20, Try.ntmps20
  go_wp2_with fail
  refine atomC fun W1 e1 => ?_
  have hb1 : Below w.heap.size w W1 := by rw [e1]; exact bt
  have q1 := hb1.size
  have R1 : IsRow W1 (w.heap.size) ∧ IsRow W1 (w.heap.size + 1) ∧ IsRow W1 (w.heap.size + 2) ∧ IsRow W1 (w.heap.size + 3) ∧ IsRow W1 (w.heap.size + 4) := by rw [e1]; simp [go_sem]
  obtain ⟨r4_1, r5_1, r6_1, r8_1, r13_1⟩ := R1
  have C1 := (⟨congrArg (blk · (w.heap.size)) e1, congrArg (blk · (w.heap.size + 1)) e1, congrArg (blk · (w.heap.size + 2)) e1, congrArg (blk · (w.heap.size + 3)) e1, congrArg (blk · (w.heap.size + 4)) e1⟩ : _ ∧ _ ∧ _ ∧ _ ∧ _); simp [go_sem] at C1
  obtain ⟨c4_1, c5_1, c6_1, c8_1, c13_1⟩ := C1
  have z4_1 := isRow_lt r4_1; have z5_1 := isRow_lt r5_1; have z6_1 := isRow_lt r6_1; have z8_1 := isRow_lt r8_1; have z13_1 := isRow_lt r13_1
  clear e1
  refine (isHopfWith_any _ _ _ _ 0 2 2 (nth (pair a b)) _ HF.out (by omega) r13_1 (vecsTwo c13_1 Ha.out Hb.out)).mono ?_; rintro _ W2 ⟨rfl, hw2⟩
  obtain ⟨r4_2, c4_2, z4_2⟩ := keepZ hw2 z4_1 r4_1 c4_1
  obtain ⟨r5_2, c5_2, z5_2⟩ := keepZ hw2 z5_1 r5_1 c5_1
  obtain ⟨r6_2, c6_2, z6_2⟩ := keepZ hw2 z6_1 r6_1 c6_1
  obtain ⟨r8_2, c8_2, z8_2⟩ := keepZ hw2 z8_1 r8_1 c8_1
  obtain ⟨r13_2, c13_2, z13_2⟩ := keepZ hw2 z13_1 r13_1 c13_1
  obtain ⟨hb2, q2⟩ := bN hb1 hw2
  clear hw2 r4_1 c4_1 z4_1 r5_1 c5_1 z5_1 r6_1 c6_1 z6_1 r8_1 c8_1 z8_1 r13_1 c13_1 z13_1 hb1
  go_wp2_with fail
  refine bodyPost_ret (result_cell_tmp rfl aggVec _ _ (row 8 zf) _ _ rfl rfl ?_ ?_) rfl ⟨by rfl, ?_⟩
  · simp [go_sem, r4_2, c4_2, r5_2, c5_2, r6_2, c6_2, r8_2, c8_2, r13_2, c13_2]
  · simp [go_sem, r4_2, c4_2, r5_2, c5_2, r6_2, c6_2, r8_2, c8_2, r13_2, c13_2]
  · exact bt
 ·
  have hs := hopf_shape (okH_hopf hc)
  have Hs0 := hs
  obtain ⟨hp2, hp31, hn1, hn8⟩ := sizes_range (shapeH_sizes hs)
  obtain ⟨n, rfl⟩ := Int.eq_ofNat_of_zero_le (show 0 ≤ n by omega)
  have hn : n ≤ 8 := by omega
  have hp : 0 < p := by omega
  have hp' : p ≤ 255 := by omega
  have Hs := Lib.hid hs
  clear hs Hs0
  go_enter Try.func20, Try.ntmps20
  go_wp2_with fail
  refine atomC fun W3 e3 => ?_
  have hb3 : Below w.heap.size w W3 := by rw [e3]; exact bt
  have q3 := hb3.size
  have R3 : IsRow W3 (w.heap.size) ∧ IsRow W3 (w.heap.size + 1) ∧ IsRow W3 (w.heap.size + 2) ∧ IsRow W3 (w.heap.size + 3) ∧ IsRow W3 (w.heap.size + 4) := by rw [e3]; simp [go_sem]
  obtain ⟨r4_3, r5_3, r6_3, r8_3, r13_3⟩ := R3
  have C3 := (⟨congrArg (blk · (w.heap.size)) e3, congrArg (blk · (w.heap.size + 1)) e3, congrArg (blk · (w.heap.size + 2)) e3, congrArg (blk · (w.heap.size + 3)) e3, congrArg (blk · (w.heap.size + 4)) e3⟩ : _ ∧ _ ∧ _ ∧ _ ∧ _); simp [go_sem] at C3
  obtain ⟨c4_3, c5_3, c6_3, c8_3, c13_3⟩ := C3
  have z4_3 := isRow_lt r4_3; have z5_3 := isRow_lt r5_3; have z6_3 := isRow_lt r6_3; have z8_3 := isRow_lt r8_3; have z13_3 := isRow_lt r13_3
  clear e3
  refine (isHopfWith_any _ _ _ _ 0 2 2 (nth (pair a b)) _ HF.out (by omega) r13_3 (vecsTwo c13_3 Ha.out Hb.out)).mono ?_; rintro _ W4 ⟨rfl, hw4⟩
  obtain ⟨r4_4, c4_4, z4_4⟩ := keepZ hw4 z4_3 r4_3 c4_3
  obtain ⟨r5_4, c5_4, z5_4⟩ := keepZ hw4 z5_3 r5_3 c5_3
  obtain ⟨r6_4, c6_4, z6_4⟩ := keepZ hw4 z6_3 r6_3 c6_3
  obtain ⟨r8_4, c8_4, z8_4⟩ := keepZ hw4 z8_3 r8_3 c8_3
  obtain ⟨r13_4, c13_4, z13_4⟩ := keepZ hw4 z13_3 r13_3 c13_3
  obtain ⟨hb4, q4⟩ := bN hb3 hw4
  clear hw4 r4_3 c4_3 z4_3 r5_3 c5_3 z5_3 r6_3 c6_3 z6_3 r8_3 c8_3 z8_3 r13_3 c13_3 z13_3 hb3
  go_wp2_with fail
  refine (adjoint_any p n f a b r _ hp hp' hn HF.out Ha.out Hb.out).mono ?_; rintro _ W5 ⟨rfl, hw5⟩
  obtain ⟨r8_5, c8_5, z8_5⟩ := keepZ hw5 z8_4 r8_4 c8_4
  obtain ⟨hb5, q5⟩ := bN hb4 hw5
  clear hw5 r8_4 c8_4 z8_4 hb4
  go_wp2_with fail
  refine bodyPost_ret (result_cell_tmp rfl aggVec _ _ (row 8 (adI p n f a b r n)) _ _ rfl rfl ?_ ?_) rfl ⟨by rfl, ?_⟩
  · simp [go_sem, r8_5, c8_5]
  · simp [go_sem, r8_5, c8_5]
  · exact bt

set_option maxRecDepth 100000 in
set_option maxHeartbeats 1000000 in
theorem specAdjoint_any (p n : Int) (f a b : Nat → Int) (r : Bool) (w : World) (hF : Bytes 1104 f) (ha : Bytes 8 a) (hb : Bytes 8 b) :
    Calls Try.prog 17 #[.agg (hop p n f), .agg (row 8 a), .agg (row 8 b), .bool r] w fun e w' => e = .returned (.tuple #[.agg (row 8 (onlyF (okH p n f 2 (nth (pair a b))) (adI p n.toNat f a b r n.toNat))), .int .i64 (codeB (okH p n f 2 (nth (pair a b))))]) ∧ Below w.heap.size w w' := by
 have HF := Lib.hid hF; clear hF
 have Ha := Lib.hid ha; clear ha
 have Hb := Lib.hid hb; clear hb
 cases hc : okH p n f 2 (nth (pair a b))
 ·
  have hc1 : codeB false = 1 := rfl
  go_enter Try.func17, Try.ntmps17
  go_wp2_with fail
  refine atomC fun W1 e1 => ?_
  have hb1 : Below w.heap.size w W1 := by rw [e1]; exact bt
  have q1 := hb1.size
  have R1 : IsRow W1 (w.heap.size) ∧ IsRow W1 (w.heap.size + 1) ∧ IsRow W1 (w.heap.size + 2) ∧ IsRow W1 (w.heap.size + 3) ∧ IsRow W1 (w.heap.size + 4) := by rw [e1]; simp [go_sem]
  obtain ⟨r4_1, r5_1, r6_1, r8_1, r14_1⟩ := R1
  have C1 := (⟨congrArg (blk · (w.heap.size)) e1, congrArg (blk · (w.heap.size + 1)) e1, congrArg (blk · (w.heap.size + 2)) e1, congrArg (blk · (w.heap.size + 3)) e1, congrArg (blk · (w.heap.size + 4)) e1⟩ : _ ∧ _ ∧ _ ∧ _ ∧ _); simp [go_sem] at C1
  obtain ⟨c4_1, c5_1, c6_1, c8_1, c14_1⟩ := C1
  have z4_1 := isRow_lt r4_1; have z5_1 := isRow_lt r5_1; have z6_1 := isRow_lt r6_1; have z8_1 := isRow_lt r8_1; have z14_1 := isRow_lt r14_1
  clear e1
  refine (l03Code_any _ _ _ _ 0 2 2 (nth (pair a b)) _ HF.out (by omega) r14_1 (vecsTwo c14_1 Ha.out Hb.out)).mono ?_; rintro _ W2 ⟨rfl, hw2⟩
  obtain ⟨r4_2, c4_2, z4_2⟩ := keepZ hw2 z4_1 r4_1 c4_1
  obtain ⟨r5_2, c5_2, z5_2⟩ := keepZ hw2 z5_1 r5_1 c5_1
  obtain ⟨r6_2, c6_2, z6_2⟩ := keepZ hw2 z6_1 r6_1 c6_1
  obtain ⟨r8_2, c8_2, z8_2⟩ := keepZ hw2 z8_1 r8_1 c8_1
  obtain ⟨r14_2, c14_2, z14_2⟩ := keepZ hw2 z14_1 r14_1 c14_1
  obtain ⟨hb2, q2⟩ := bN hb1 hw2
  clear hw2 r4_1 c4_1 z4_1 r5_1 c5_1 z5_1 r6_1 c6_1 z6_1 r8_1 c8_1 z8_1 r14_1 c14_1 z14_1 hb1
  go_wp2_with fail
  refine bodyPost_ret (result_cell_tmp rfl aggVec _ _ (row 8 zf) _ _ rfl rfl ?_ ?_) rfl ⟨by rfl, ?_⟩
  · simp [go_sem, r4_2, c4_2, r5_2, c5_2, r6_2, c6_2, r8_2, c8_2, r14_2, c14_2]
  · simp [go_sem, r4_2, c4_2, r5_2, c5_2, r6_2, c6_2, r8_2, c8_2, r14_2, c14_2]
  · exact bt
 ·
  have hs := hopf_shape (okH_hopf hc)
  have Hs0 := hs
  obtain ⟨hp2, hp31, hn1, hn8⟩ := sizes_range (shapeH_sizes hs)
  obtain ⟨n, rfl⟩ := Int.eq_ofNat_of_zero_le (show 0 ≤ n by omega)
  have hn : n ≤ 8 := by omega
  have hp : 0 < p := by omega
  have hp' : p ≤ 255 := by omega
  have Hs := Lib.hid hs
  clear hs Hs0
  have hc1 : codeB true = 0 := rfl
  go_enter Try.func17, Try.ntmps17
  go_wp2_with fail
  refine atomC fun W3 e3 => ?_
  have hb3 : Below w.heap.size w W3 := by rw [e3]; exact bt
  have q3 := hb3.size
  have R3 : IsRow W3 (w.heap.size) ∧ IsRow W3 (w.heap.size + 1) ∧ IsRow W3 (w.heap.size + 2) ∧ IsRow W3 (w.heap.size + 3) ∧ IsRow W3 (w.heap.size + 4) := by rw [e3]; simp [go_sem]
  obtain ⟨r4_3, r5_3, r6_3, r8_3, r14_3⟩ := R3
  have C3 := (⟨congrArg (blk · (w.heap.size)) e3, congrArg (blk · (w.heap.size + 1)) e3, congrArg (blk · (w.heap.size + 2)) e3, congrArg (blk · (w.heap.size + 3)) e3, congrArg (blk · (w.heap.size + 4)) e3⟩ : _ ∧ _ ∧ _ ∧ _ ∧ _); simp [go_sem] at C3
  obtain ⟨c4_3, c5_3, c6_3, c8_3, c14_3⟩ := C3
  have z4_3 := isRow_lt r4_3; have z5_3 := isRow_lt r5_3; have z6_3 := isRow_lt r6_3; have z8_3 := isRow_lt r8_3; have z14_3 := isRow_lt r14_3
  clear e3
  refine (l03Code_any _ _ _ _ 0 2 2 (nth (pair a b)) _ HF.out (by omega) r14_3 (vecsTwo c14_3 Ha.out Hb.out)).mono ?_; rintro _ W4 ⟨rfl, hw4⟩
  obtain ⟨r4_4, c4_4, z4_4⟩ := keepZ hw4 z4_3 r4_3 c4_3
  obtain ⟨r5_4, c5_4, z5_4⟩ := keepZ hw4 z5_3 r5_3 c5_3
  obtain ⟨r6_4, c6_4, z6_4⟩ := keepZ hw4 z6_3 r6_3 c6_3
  obtain ⟨r8_4, c8_4, z8_4⟩ := keepZ hw4 z8_3 r8_3 c8_3
  obtain ⟨r14_4, c14_4, z14_4⟩ := keepZ hw4 z14_3 r14_3 c14_3
  obtain ⟨hb4, q4⟩ := bN hb3 hw4
  clear hw4 r4_3 c4_3 z4_3 r5_3 c5_3 z5_3 r6_3 c6_3 z6_3 r8_3 c8_3 z8_3 r14_3 c14_3 z14_3 hb3
  go_wp2_with fail
  refine (l07Adjoint_any p n f a b r _ hp hp' hn HF.out Ha.out Hb.out Hs.out).mono ?_; rintro _ W5 ⟨rfl, hw5⟩
  obtain ⟨r8_5, c8_5, z8_5⟩ := keepZ hw5 z8_4 r8_4 c8_4
  obtain ⟨hb5, q5⟩ := bN hb4 hw5
  clear hw5 r8_4 c8_4 z8_4 hb4
  go_wp2_with fail
  refine bodyPost_ret (result_cell_tmp rfl aggVec _ _ (row 8 (adI p n f a b r n)) _ _ rfl rfl ?_ ?_) rfl ⟨by rfl, ?_⟩
  · simp [go_sem, r8_5, c8_5]
  · simp [go_sem, r8_5, c8_5]
  · exact bt

set_option maxRecDepth 100000 in
set_option maxHeartbeats 2000000 in
theorem lawAdjointAction (fp fn : Int) (f : Nat → Int) (a : Nat → Int) (b : Nat → Int) (r : Bool) (w : World) (_wfp : (Lit.int .i64 fp).wf = true) (_wfn : (Lit.int .i64 fn).wf = true) (hf : Bytes 1104 f) (ha : Bytes 8 a) (hb : Bytes 8 b) :
    Calls Try.prog 5 #[.agg (hop fp fn f), .agg (row 8 a), .agg (row 8 b), .bool r] w fun e w' => e = .returned (.bool true) ∧ Below w.heap.size w w' := by
 have Hf := Lib.hid hf; clear hf
 have Ha := Lib.hid ha; clear ha
 have Hb := Lib.hid hb; clear hb
 go_enter Try.func5, Try.ntmps5
 go_wp2
 refine atomW fun W1 e1 => ?_
 have hb1 : Below w.heap.size w W1 := by rw [e1]; exact bt
 have q1 := hb1.size
 have R1 : IsRow W1 (w.heap.size) ∧ IsRow W1 (w.heap.size + 1) ∧ IsRow W1 (w.heap.size + 2) := by rw [e1]; simp [go_sem]
 obtain ⟨r4_1, r5_1, r6_1⟩ := R1
 have C1 := (⟨congrArg (blk · (w.heap.size)) e1, congrArg (blk · (w.heap.size + 1)) e1, congrArg (blk · (w.heap.size + 2)) e1⟩ : _ ∧ _ ∧ _); simp [go_sem] at C1
 obtain ⟨c4_1, c5_1, c6_1⟩ := C1
 have z4_1 := isRow_lt r4_1; have z5_1 := isRow_lt r5_1; have z6_1 := isRow_lt r6_1
 clear e1
 refine wp_quiet_alloc_late 11 10 _ _ (.cells (row 8 zf) 38) (Below W1.heap.size W1) (Made W1 (row 8 zf)) (by kernel_rfl) rfl rfl rfl (by kernel_rfl) (by kernel_rfl) (fun c a w d v h => by cases d <;> exact h) (fun a W => (xallocVec _ _ _ _ _ _ _).trans (allocVec W)) (closed_below W1) (closed_made W1 _) (fun b W h => h.1) (fun W h => made_new W1 _ _ W h) (Below.refl _ _).drew ?_
 simp only [List.take_succ_cons, List.take_zero, List.drop_succ_cons, List.drop_zero]
 iterate 1 (refine e_plain rfl ?_; apply Exists.intro; refine ⟨fun D hD hK W hW => ?_, ?_⟩; (focus (obtain ⟨x4, y4⟩ := keepB (hD W hW) z4_1 r4_1 c4_1; obtain ⟨x5, y5⟩ := keepB (hD W hW) z5_1 r5_1 c5_1; obtain ⟨x6, y6⟩ := keepB (hD W hW) z6_1 r6_1 c6_1; unfold Oper.quietAt; go_simp; first | done | rfl)); simp only [Act.put, List.setIfInBounds_toArray, List.set_cons_zero, List.set_cons_succ])
 (refine e_plain rfl ?_; apply Exists.intro; refine ⟨fun D hD hK W hW => ?_, ?_⟩; (focus (obtain ⟨x4, y4⟩ := keepB (hD W hW) z4_1 r4_1 c4_1; obtain ⟨x5, y5⟩ := keepB (hD W hW) z5_1 r5_1 c5_1; obtain ⟨x6, y6⟩ := keepB (hD W hW) z6_1 r6_1 c6_1; unfold Oper.quietAt; go_simp; (go_at_call 18; exact (toHopf_any _ _ _ _).mono fun e w2 ⟨he, hw2⟩ => ⟨he, hK _ _ hW hw2⟩))); simp only [Act.put, List.setIfInBounds_toArray, List.set_cons_zero, List.set_cons_succ])
 iterate 1 (refine e_plain rfl ?_; apply Exists.intro; refine ⟨fun D hD hK W hW => ?_, ?_⟩; (focus (obtain ⟨x4, y4⟩ := keepB (hD W hW) z4_1 r4_1 c4_1; obtain ⟨x5, y5⟩ := keepB (hD W hW) z5_1 r5_1 c5_1; obtain ⟨x6, y6⟩ := keepB (hD W hW) z6_1 r6_1 c6_1; unfold Oper.quietAt; go_simp; first | done | rfl)); simp only [Act.put, List.setIfInBounds_toArray, List.set_cons_zero, List.set_cons_succ])
 (refine e_plain rfl ?_; apply Exists.intro; refine ⟨fun D hD hK W hW => ?_, ?_⟩; (focus (obtain ⟨x4, y4⟩ := keepB (hD W hW) z4_1 r4_1 c4_1; obtain ⟨x5, y5⟩ := keepB (hD W hW) z5_1 r5_1 c5_1; obtain ⟨x6, y6⟩ := keepB (hD W hW) z6_1 r6_1 c6_1; unfold Oper.quietAt; go_simp; (go_at_call 19; exact (toVector_any _ _).mono fun e w2 ⟨he, hw2⟩ => ⟨he, hK _ _ hW hw2⟩))); simp only [Act.put, List.setIfInBounds_toArray, List.set_cons_zero, List.set_cons_succ])
 iterate 1 (refine e_plain rfl ?_; apply Exists.intro; refine ⟨fun D hD hK W hW => ?_, ?_⟩; (focus (obtain ⟨x4, y4⟩ := keepB (hD W hW) z4_1 r4_1 c4_1; obtain ⟨x5, y5⟩ := keepB (hD W hW) z5_1 r5_1 c5_1; obtain ⟨x6, y6⟩ := keepB (hD W hW) z6_1 r6_1 c6_1; unfold Oper.quietAt; go_simp; first | done | rfl)); simp only [Act.put, List.setIfInBounds_toArray, List.set_cons_zero, List.set_cons_succ])
 (refine e_plain rfl ?_; apply Exists.intro; refine ⟨fun D hD hK W hW => ?_, ?_⟩; (focus (obtain ⟨x4, y4⟩ := keepB (hD W hW) z4_1 r4_1 c4_1; obtain ⟨x5, y5⟩ := keepB (hD W hW) z5_1 r5_1 c5_1; obtain ⟨x6, y6⟩ := keepB (hD W hW) z6_1 r6_1 c6_1; unfold Oper.quietAt; go_simp; (go_at_call 19; exact (toVector_any _ _).mono fun e w2 ⟨he, hw2⟩ => ⟨he, hK _ _ hW hw2⟩))); simp only [Act.put, List.setIfInBounds_toArray, List.set_cons_zero, List.set_cons_succ])
 iterate 1 (refine e_plain rfl ?_; apply Exists.intro; refine ⟨fun D hD hK W hW => ?_, ?_⟩; (focus (obtain ⟨x4, y4⟩ := keepB (hD W hW) z4_1 r4_1 c4_1; obtain ⟨x5, y5⟩ := keepB (hD W hW) z5_1 r5_1 c5_1; obtain ⟨x6, y6⟩ := keepB (hD W hW) z6_1 r6_1 c6_1; unfold Oper.quietAt; go_simp; first | done | rfl)); simp only [Act.put, List.setIfInBounds_toArray, List.set_cons_zero, List.set_cons_succ])
 (refine e_plain rfl ?_; apply Exists.intro; refine ⟨fun D hD hK W hW => ?_, ?_⟩; (focus (obtain ⟨x4, y4⟩ := keepB (hD W hW) z4_1 r4_1 c4_1; obtain ⟨x5, y5⟩ := keepB (hD W hW) z5_1 r5_1 c5_1; obtain ⟨x6, y6⟩ := keepB (hD W hW) z6_1 r6_1 c6_1; unfold Oper.quietAt; go_simp; (go_at_call 17; exact (specAdjoint_any _ _ _ _ _ r _ Hf.out Ha.out Hb.out).mono fun e w2 ⟨he, hw2⟩ => ⟨he, hK _ _ hW hw2⟩))); simp only [Act.put, List.setIfInBounds_toArray, List.set_cons_zero, List.set_cons_succ])
 iterate 3 (refine e_plain rfl ?_; apply Exists.intro; refine ⟨fun D hD hK W hW => ?_, ?_⟩; (focus (obtain ⟨x4, y4⟩ := keepB (hD W hW) z4_1 r4_1 c4_1; obtain ⟨x5, y5⟩ := keepB (hD W hW) z5_1 r5_1 c5_1; obtain ⟨x6, y6⟩ := keepB (hD W hW) z6_1 r6_1 c6_1; unfold Oper.quietAt; go_simp; first | done | rfl)); simp only [Act.put, List.setIfInBounds_toArray, List.set_cons_zero, List.set_cons_succ])
 refine e_nil ?_
 intro a2 W2 hW2
 obtain ⟨hw2, hl2, m1_2, m2_2⟩ := hW2
 have n4_9 : (w.heap.size) ≠ (a2) := by have := z4_1; omega
 have n9_4 : (a2) ≠ (w.heap.size) := by have := z4_1; omega
 have n5_9 : (w.heap.size + 1) ≠ (a2) := by have := z5_1; omega
 have n9_5 : (a2) ≠ (w.heap.size + 1) := by have := z5_1; omega
 have n6_9 : (w.heap.size + 2) ≠ (a2) := by have := z6_1; omega
 have n9_6 : (a2) ≠ (w.heap.size + 2) := by have := z6_1; omega
 obtain ⟨r4_2, c4_2, z4_2⟩ := keepZ hw2 z4_1 r4_1 c4_1
 obtain ⟨r5_2, c5_2, z5_2⟩ := keepZ hw2 z5_1 r5_1 c5_1
 obtain ⟨r6_2, c6_2, z6_2⟩ := keepZ hw2 z6_1 r6_1 c6_1
 obtain ⟨hb2, q2⟩ := bN hb1 hw2
 clear hw2 r4_1 c4_1 z4_1 r5_1 c5_1 z5_1 r6_1 c6_1 z6_1 hb1
 have z9_2 := isRow_lt m1_2
 simp only [Act.put, List.setIfInBounds_toArray, List.set_cons_zero, List.set_cons_succ]
 go_wp2
 refine atomW fun W3 e3 => ?_
 have hb3 : Below w.heap.size w W3 := by rw [e3]; exact bt
 have q3 := hb3.size
 have R3 : IsRow W3 (w.heap.size) ∧ IsRow W3 (w.heap.size + 1) ∧ IsRow W3 (w.heap.size + 2) ∧ IsRow W3 (a2) := by rw [e3]; simp [go_sem, r4_2, c4_2, n4_9, r5_2, c5_2, n5_9, r6_2, c6_2, n6_9, m1_2, m2_2, n9_4, n9_5, n9_6]
 obtain ⟨r4_3, r5_3, r6_3, r9_3⟩ := R3
 have C3 := (⟨congrArg (blk · (w.heap.size)) e3, congrArg (blk · (w.heap.size + 1)) e3, congrArg (blk · (w.heap.size + 2)) e3, congrArg (blk · (a2)) e3⟩ : _ ∧ _ ∧ _ ∧ _); simp [go_sem, r4_2, c4_2, n4_9, r5_2, c5_2, n5_9, r6_2, c6_2, n6_9, m1_2, m2_2, n9_4, n9_5, n9_6] at C3
 obtain ⟨c4_3, c5_3, c6_3, c9_3⟩ := C3
 have z4_3 := isRow_lt r4_3; have z5_3 := isRow_lt r5_3; have z6_3 := isRow_lt r6_3; have z9_3 := isRow_lt r9_3
 clear e3 r4_2 c4_2 z4_2 r5_2 c5_2 z5_2 r6_2 c6_2 z6_2 m1_2 m2_2 z9_2 hb2
 refine wp_quiet_alloc_late 11 10 _ _ (.cells (row 8 zf) 38) (Below W3.heap.size W3) (Made W3 (row 8 zf)) (by kernel_rfl) rfl rfl rfl (by kernel_rfl) (by kernel_rfl) (fun c a w d v h => by cases d <;> exact h) (fun a W => (xallocVec _ _ _ _ _ _ _).trans (allocVec W)) (closed_below W3) (closed_made W3 _) (fun b W h => h.1) (fun W h => made_new W3 _ _ W h) (Below.refl _ _).drew ?_
 simp only [List.take_succ_cons, List.take_zero, List.drop_succ_cons, List.drop_zero]
 iterate 1 (refine e_plain rfl ?_; apply Exists.intro; refine ⟨fun D hD hK W hW => ?_, ?_⟩; (focus (obtain ⟨x4, y4⟩ := keepB (hD W hW) z4_3 r4_3 c4_3; obtain ⟨x5, y5⟩ := keepB (hD W hW) z5_3 r5_3 c5_3; obtain ⟨x6, y6⟩ := keepB (hD W hW) z6_3 r6_3 c6_3; obtain ⟨x9, y9⟩ := keepB (hD W hW) z9_3 r9_3 c9_3; unfold Oper.quietAt; go_simp; first | done | rfl)); simp only [Act.put, List.setIfInBounds_toArray, List.set_cons_zero, List.set_cons_succ])
 (refine e_plain rfl ?_; apply Exists.intro; refine ⟨fun D hD hK W hW => ?_, ?_⟩; (focus (obtain ⟨x4, y4⟩ := keepB (hD W hW) z4_3 r4_3 c4_3; obtain ⟨x5, y5⟩ := keepB (hD W hW) z5_3 r5_3 c5_3; obtain ⟨x6, y6⟩ := keepB (hD W hW) z6_3 r6_3 c6_3; obtain ⟨x9, y9⟩ := keepB (hD W hW) z9_3 r9_3 c9_3; unfold Oper.quietAt; go_simp; (go_at_call 18; exact (toHopf_any _ _ _ _).mono fun e w2 ⟨he, hw2⟩ => ⟨he, hK _ _ hW hw2⟩))); simp only [Act.put, List.setIfInBounds_toArray, List.set_cons_zero, List.set_cons_succ])
 iterate 1 (refine e_plain rfl ?_; apply Exists.intro; refine ⟨fun D hD hK W hW => ?_, ?_⟩; (focus (obtain ⟨x4, y4⟩ := keepB (hD W hW) z4_3 r4_3 c4_3; obtain ⟨x5, y5⟩ := keepB (hD W hW) z5_3 r5_3 c5_3; obtain ⟨x6, y6⟩ := keepB (hD W hW) z6_3 r6_3 c6_3; obtain ⟨x9, y9⟩ := keepB (hD W hW) z9_3 r9_3 c9_3; unfold Oper.quietAt; go_simp; first | done | rfl)); simp only [Act.put, List.setIfInBounds_toArray, List.set_cons_zero, List.set_cons_succ])
 (refine e_plain rfl ?_; apply Exists.intro; refine ⟨fun D hD hK W hW => ?_, ?_⟩; (focus (obtain ⟨x4, y4⟩ := keepB (hD W hW) z4_3 r4_3 c4_3; obtain ⟨x5, y5⟩ := keepB (hD W hW) z5_3 r5_3 c5_3; obtain ⟨x6, y6⟩ := keepB (hD W hW) z6_3 r6_3 c6_3; obtain ⟨x9, y9⟩ := keepB (hD W hW) z9_3 r9_3 c9_3; unfold Oper.quietAt; go_simp; (go_at_call 19; exact (toVector_any _ _).mono fun e w2 ⟨he, hw2⟩ => ⟨he, hK _ _ hW hw2⟩))); simp only [Act.put, List.setIfInBounds_toArray, List.set_cons_zero, List.set_cons_succ])
 iterate 1 (refine e_plain rfl ?_; apply Exists.intro; refine ⟨fun D hD hK W hW => ?_, ?_⟩; (focus (obtain ⟨x4, y4⟩ := keepB (hD W hW) z4_3 r4_3 c4_3; obtain ⟨x5, y5⟩ := keepB (hD W hW) z5_3 r5_3 c5_3; obtain ⟨x6, y6⟩ := keepB (hD W hW) z6_3 r6_3 c6_3; obtain ⟨x9, y9⟩ := keepB (hD W hW) z9_3 r9_3 c9_3; unfold Oper.quietAt; go_simp; first | done | rfl)); simp only [Act.put, List.setIfInBounds_toArray, List.set_cons_zero, List.set_cons_succ])
 (refine e_plain rfl ?_; apply Exists.intro; refine ⟨fun D hD hK W hW => ?_, ?_⟩; (focus (obtain ⟨x4, y4⟩ := keepB (hD W hW) z4_3 r4_3 c4_3; obtain ⟨x5, y5⟩ := keepB (hD W hW) z5_3 r5_3 c5_3; obtain ⟨x6, y6⟩ := keepB (hD W hW) z6_3 r6_3 c6_3; obtain ⟨x9, y9⟩ := keepB (hD W hW) z9_3 r9_3 c9_3; unfold Oper.quietAt; go_simp; (go_at_call 19; exact (toVector_any _ _).mono fun e w2 ⟨he, hw2⟩ => ⟨he, hK _ _ hW hw2⟩))); simp only [Act.put, List.setIfInBounds_toArray, List.set_cons_zero, List.set_cons_succ])
 iterate 1 (refine e_plain rfl ?_; apply Exists.intro; refine ⟨fun D hD hK W hW => ?_, ?_⟩; (focus (obtain ⟨x4, y4⟩ := keepB (hD W hW) z4_3 r4_3 c4_3; obtain ⟨x5, y5⟩ := keepB (hD W hW) z5_3 r5_3 c5_3; obtain ⟨x6, y6⟩ := keepB (hD W hW) z6_3 r6_3 c6_3; obtain ⟨x9, y9⟩ := keepB (hD W hW) z9_3 r9_3 c9_3; unfold Oper.quietAt; go_simp; first | done | rfl)); simp only [Act.put, List.setIfInBounds_toArray, List.set_cons_zero, List.set_cons_succ])
 (refine e_plain rfl ?_; apply Exists.intro; refine ⟨fun D hD hK W hW => ?_, ?_⟩; (focus (obtain ⟨x4, y4⟩ := keepB (hD W hW) z4_3 r4_3 c4_3; obtain ⟨x5, y5⟩ := keepB (hD W hW) z5_3 r5_3 c5_3; obtain ⟨x6, y6⟩ := keepB (hD W hW) z6_3 r6_3 c6_3; obtain ⟨x9, y9⟩ := keepB (hD W hW) z9_3 r9_3 c9_3; unfold Oper.quietAt; go_simp; (go_at_call 20; exact (implAdjoint_any _ _ _ _ _ r _ Hf.out Ha.out Hb.out).mono fun e w2 ⟨he, hw2⟩ => ⟨he, hK _ _ hW hw2⟩))); simp only [Act.put, List.setIfInBounds_toArray, List.set_cons_zero, List.set_cons_succ])
 iterate 3 (refine e_plain rfl ?_; apply Exists.intro; refine ⟨fun D hD hK W hW => ?_, ?_⟩; (focus (obtain ⟨x4, y4⟩ := keepB (hD W hW) z4_3 r4_3 c4_3; obtain ⟨x5, y5⟩ := keepB (hD W hW) z5_3 r5_3 c5_3; obtain ⟨x6, y6⟩ := keepB (hD W hW) z6_3 r6_3 c6_3; obtain ⟨x9, y9⟩ := keepB (hD W hW) z9_3 r9_3 c9_3; unfold Oper.quietAt; go_simp; first | done | rfl)); simp only [Act.put, List.setIfInBounds_toArray, List.set_cons_zero, List.set_cons_succ])
 refine e_nil ?_
 intro a4 W4 hW4
 obtain ⟨hw4, hl4, m1_4, m2_4⟩ := hW4
 have n4_11 : (w.heap.size) ≠ (a4) := by have := z4_3; omega
 have n11_4 : (a4) ≠ (w.heap.size) := by have := z4_3; omega
 have n5_11 : (w.heap.size + 1) ≠ (a4) := by have := z5_3; omega
 have n11_5 : (a4) ≠ (w.heap.size + 1) := by have := z5_3; omega
 have n6_11 : (w.heap.size + 2) ≠ (a4) := by have := z6_3; omega
 have n11_6 : (a4) ≠ (w.heap.size + 2) := by have := z6_3; omega
 have n9_11 : (a2) ≠ (a4) := by have := z9_3; omega
 have n11_9 : (a4) ≠ (a2) := by have := z9_3; omega
 obtain ⟨r4_4, c4_4, z4_4⟩ := keepZ hw4 z4_3 r4_3 c4_3
 obtain ⟨r5_4, c5_4, z5_4⟩ := keepZ hw4 z5_3 r5_3 c5_3
 obtain ⟨r6_4, c6_4, z6_4⟩ := keepZ hw4 z6_3 r6_3 c6_3
 obtain ⟨r9_4, c9_4, z9_4⟩ := keepZ hw4 z9_3 r9_3 c9_3
 obtain ⟨hb4, q4⟩ := bN hb3 hw4
 clear hw4 r4_3 c4_3 z4_3 r5_3 c5_3 z5_3 r6_3 c6_3 z6_3 r9_3 c9_3 z9_3 hb3
 have z11_4 := isRow_lt m1_4
 simp only [Act.put, List.setIfInBounds_toArray, List.set_cons_zero, List.set_cons_succ]
 go_wp2_with fail
 refine atomC fun W5 e5 => ?_
 have hb5 : Below w.heap.size w W5 := by rw [e5]; exact bt
 have q5 := hb5.size
 clear e5 hb4
 refine (eqVector_same _ _).mono ?_; rintro _ W6 ⟨rfl, hw6⟩
 obtain ⟨hb6, q6⟩ := bN hb5 hw6
 clear hw6 hb5
 go_wp2_with fail
 go_ret
 exact ⟨rfl, bt⟩

end Go.Proofs.Ytjmmmggnbndolaa
