/- Law ModularElement. -/
import Derived.Test.YtjpdpnplnelgcaaGreatJ1
import Derived.Test.YtjpdpnplnelgcaaGreatI8
namespace Go.Proofs.YtjpdpnplnelgcaaGreat
open Go.RowKit
set_option linter.unusedSimpArgs false
set_option linter.unusedVariables false
attribute [local irreducible] wpQuiet wpQE

set_option maxRecDepth 100000 in
set_option maxHeartbeats 1000000 in
theorem modularElement_any (p : Int) (n : Nat) (f : Nat → Int) (w : World) (hF : Bytes 1104 f) (hc : hopfB p n f = true) :
    Calls Tryz.prog 52 #[.agg (hop p n f)] w fun e w' => e = .returned (.agg (row 8 (modF p n (duF f)))) ∧ Below w.heap.size w w' := by
 have HF := Lib.hid hF; clear hF
 have HO := Lib.hid (dual_intable hc HF.out)
 have hn := HO.out.le
 have Hs := Lib.hid (hopf_shape hc)
 go_enter Tryz.func52, Tryz.ntmps52
 go_wp2_with fail
 refine atomC fun W1 e1 => ?_
 have hb1 : Below w.heap.size w W1 := by rw [e1]; exact bt
 have q1 := hb1.size
 have r2_1 : IsRow W1 (w.heap.size + 1) := by rw [e1]; simp [go_sem]
 have c2_1 := congrArg (fun x => blk x (w.heap.size + 1)) e1; simp [go_sem] at c2_1
 have z2_1 := isRow_lt r2_1
 clear e1
 refine (dualHopf_any _ _ _ _ HF.out).mono ?_; rintro _ W2 ⟨rfl, hw2⟩
 obtain ⟨r2_2, c2_2, z2_2⟩ := keepZ hw2 z2_1 r2_1 c2_1
 obtain ⟨hb2, q2⟩ := bN hb1 hw2
 clear hw2 r2_1 c2_1 z2_1 hb1
 go_wp2_with fail
 refine (modularForm_any p n (duF f) _ HO.out).mono ?_; rintro _ W3 ⟨rfl, hw3⟩
 obtain ⟨r2_3, c2_3, z2_3⟩ := keepZ hw3 z2_2 r2_2 c2_2
 obtain ⟨hb3, q3⟩ := bN hb2 hw3
 clear hw3 r2_2 c2_2 z2_2 hb2
 go_wp2_with fail
 refine bodyPost_ret (result_cell rfl aggVec _ _ (row 8 (modF p n (duF f))) _ rfl ?_ ?_) rfl ⟨rfl, ?_⟩
 · simp [go_sem, r2_3, c2_3]
 · simp [go_sem, r2_3, c2_3]
 · exact bt

set_option maxRecDepth 100000 in
set_option maxHeartbeats 1000000 in
theorem ofHopf_moe (p n : Int) (f : Nat → Int) (w : World) (hF : Bytes 1104 f) :
    Calls Tryz.prog 44 #[.agg (hop p n f), .func (.func 52) #[] #[]] w fun e w' => e = .returned (.tuple #[.agg (row 8 (onlyF (hopfB p n f) (modF p n.toNat (duF f)))), .int .i64 (codeB (hopfB p n f))]) ∧ Below w.heap.size w w' := by
 have HF := Lib.hid hF; clear hF
 cases hc : hopfB p n f
 ·
  go_enter Tryz.func44, Tryz.ntmps44
  go_wp2_with fail
  refine atomC fun W1 e1 => ?_
  have hb1 : Below w.heap.size w W1 := by rw [e1]; exact bt
  have q1 := hb1.size
  have R1 : IsRow W1 (w.heap.size) ∧ IsRow W1 (w.heap.size + 1) := by rw [e1]; simp [go_sem]
  obtain ⟨r2_1, r4_1⟩ := R1
  have C1 := (⟨congrArg (blk · (w.heap.size)) e1, congrArg (blk · (w.heap.size + 1)) e1⟩ : _ ∧ _); simp [go_sem] at C1
  obtain ⟨c2_1, c4_1⟩ := C1
  have z2_1 := isRow_lt r2_1; have z4_1 := isRow_lt r4_1
  clear e1
  refine (isHopf_any _ _ _ _ HF.out).mono ?_; rintro _ W2 ⟨rfl, hw2⟩
  obtain ⟨r2_2, c2_2, z2_2⟩ := keepZ hw2 z2_1 r2_1 c2_1
  obtain ⟨r4_2, c4_2, z4_2⟩ := keepZ hw2 z4_1 r4_1 c4_1
  obtain ⟨hb2, q2⟩ := bN hb1 hw2
  clear hw2 r2_1 c2_1 z2_1 r4_1 c4_1 z4_1 hb1
  have nw2_W2_0 : (w.heap.size) ≠ W2.heap.size := by omega
  have nw4_W2_0 : (w.heap.size + 1) ≠ W2.heap.size := by omega
  go_wp2_with fail
  refine bodyPost_ret (result_cell_tmp rfl aggVec _ _ (row 8 zf) _ _ rfl rfl ?_ ?_) rfl ⟨by rfl, ?_⟩
  · simp [go_sem, r2_2, c2_2, r4_2, c4_2, nw2_W2_0, nw4_W2_0]
  · simp [go_sem, r2_2, c2_2, r4_2, c4_2, nw2_W2_0, nw4_W2_0]
  · exact bt
 ·
  obtain ⟨hp2, hp31, hn1, hn8⟩ := sizes_range (hopf_sizes hc)
  obtain ⟨n, rfl⟩ := Int.eq_ofNat_of_zero_le (show 0 ≤ n by omega)
  have Hc := Lib.hid hc
  have hn : n ≤ 8 := by omega
  have HO := Lib.hid (dual_intable hc HF.out)
  have Hs := Lib.hid (hopf_shape hc)
  go_enter Tryz.func44, Tryz.ntmps44
  go_wp2_with fail
  refine atomC fun W3 e3 => ?_
  have hb3 : Below w.heap.size w W3 := by rw [e3]; exact bt
  have q3 := hb3.size
  have R3 : IsRow W3 (w.heap.size) ∧ IsRow W3 (w.heap.size + 1) := by rw [e3]; simp [go_sem]
  obtain ⟨r2_3, r4_3⟩ := R3
  have C3 := (⟨congrArg (blk · (w.heap.size)) e3, congrArg (blk · (w.heap.size + 1)) e3⟩ : _ ∧ _); simp [go_sem] at C3
  obtain ⟨c2_3, c4_3⟩ := C3
  have z2_3 := isRow_lt r2_3; have z4_3 := isRow_lt r4_3
  clear e3
  refine (isHopf_any _ _ _ _ HF.out).mono ?_; rintro _ W4 ⟨rfl, hw4⟩
  obtain ⟨r2_4, c2_4, z2_4⟩ := keepZ hw4 z2_3 r2_3 c2_3
  obtain ⟨r4_4, c4_4, z4_4⟩ := keepZ hw4 z4_3 r4_3 c4_3
  obtain ⟨hb4, q4⟩ := bN hb3 hw4
  clear hw4 r2_3 c2_3 z2_3 r4_3 c4_3 z4_3 hb3
  go_wp2_with fail
  refine (modularElement_any p n f _ HF.out Hc.out).mono ?_; rintro _ W5 ⟨rfl, hw5⟩
  obtain ⟨r4_5, c4_5, z4_5⟩ := keepZ hw5 z4_4 r4_4 c4_4
  obtain ⟨hb5, q5⟩ := bN hb4 hw5
  clear hw5 r4_4 c4_4 z4_4 hb4
  go_wp2_with fail
  refine bodyPost_ret (result_cell_tmp rfl aggVec _ _ (row 8 (modF p n (duF f))) _ _ rfl rfl ?_ ?_) rfl ⟨by rfl, ?_⟩
  · simp [go_sem, r4_5, c4_5]
  · simp [go_sem, r4_5, c4_5]
  · exact bt

set_option maxRecDepth 100000 in
set_option maxHeartbeats 1000000 in
theorem implMoe_any (p n : Int) (f : Nat → Int) (w : World) (hF : Bytes 1104 f) :
    Calls Tryz.prog 25 #[.agg (hop p n f)] w fun e w' => e = .returned (.tuple #[.agg (row 8 (onlyF (hopfB p n f) (modF p n.toNat (duF f)))), .int .i64 (codeB (hopfB p n f))]) ∧ Below w.heap.size w w' := by
 have HF := Lib.hid hF; clear hF
 go_enter Tryz.func25, Tryz.ntmps25
 go_wp2_with fail
 refine atomC fun W1 e1 => ?_
 have hb1 : Below w.heap.size w W1 := by rw [e1]; exact bt
 have q1 := hb1.size
 have r2_1 : IsRow W1 (w.heap.size + 1) := by rw [e1]; simp [go_sem]
 have c2_1 := congrArg (fun x => blk x (w.heap.size + 1)) e1; simp [go_sem] at c2_1
 have z2_1 := isRow_lt r2_1
 clear e1
 refine (ofHopf_moe _ _ _ _ HF.out).mono ?_; rintro _ W2 ⟨rfl, hw2⟩
 obtain ⟨r2_2, c2_2, z2_2⟩ := keepZ hw2 z2_1 r2_1 c2_1
 obtain ⟨hb2, q2⟩ := bN hb1 hw2
 clear hw2 r2_1 c2_1 z2_1 hb1
 go_wp2_with fail
 refine bodyPost_ret (result_cell_tmp rfl aggVec _ _ (row 8 (onlyF (hopfB p n f) (modF p n.toNat (duF f)))) _ _ rfl rfl ?_ ?_) rfl ⟨rfl, ?_⟩
 · simp [go_sem, r2_2, c2_2]
 · simp [go_sem, r2_2, c2_2]
 · exact bt

set_option maxRecDepth 100000 in
set_option maxHeartbeats 1000000 in
theorem specMoe_any (p n : Int) (f : Nat → Int) (w : World) (hF : Bytes 1104 f) :
    Calls Tryz.prog 24 #[.agg (hop p n f)] w fun e w' => e = .returned (.tuple #[.agg (row 8 (onlyF (hopfB p n f) (modF p n.toNat (duF f)))), .int .i64 (codeB (hopfB p n f))]) ∧ Below w.heap.size w w' := by
 have HF := Lib.hid hF; clear hF
 cases hc : hopfB p n f
 ·
  go_enter Tryz.func24, Tryz.ntmps24
  go_wp2_with fail
  refine atomC fun W1 e1 => ?_
  have hb1 : Below w.heap.size w W1 := by rw [e1]; exact bt
  have q1 := hb1.size
  have R1 : IsRow W1 (w.heap.size) ∧ IsRow W1 (w.heap.size + 1) := by rw [e1]; simp [go_sem]
  obtain ⟨r1_1, r2_1⟩ := R1
  have C1 := (⟨congrArg (blk · (w.heap.size)) e1, congrArg (blk · (w.heap.size + 1)) e1⟩ : _ ∧ _); simp [go_sem] at C1
  obtain ⟨c1_1, c2_1⟩ := C1
  have z1_1 := isRow_lt r1_1; have z2_1 := isRow_lt r2_1
  clear e1
  refine (l03Is_any _ _ _ _ HF.out).mono ?_; rintro _ W2 ⟨rfl, hw2⟩
  obtain ⟨r1_2, c1_2, z1_2⟩ := keepZ hw2 z1_1 r1_1 c1_1
  obtain ⟨r2_2, c2_2, z2_2⟩ := keepZ hw2 z2_1 r2_1 c2_1
  obtain ⟨hb2, q2⟩ := bN hb1 hw2
  clear hw2 r1_1 c1_1 z1_1 r2_1 c2_1 z2_1 hb1
  go_wp2_with fail
  refine bodyPost_ret (result_cell_tmp rfl aggVec _ _ (row 8 zf) _ _ rfl rfl ?_ ?_) rfl ⟨by rfl, ?_⟩
  · simp [go_sem, r1_2, c1_2, r2_2, c2_2]
  · simp [go_sem, r1_2, c1_2, r2_2, c2_2]
  · exact bt
 ·
  obtain ⟨hp2, hp31, hn1, hn8⟩ := sizes_range (hopf_sizes hc)
  obtain ⟨n, rfl⟩ := Int.eq_ofNat_of_zero_le (show 0 ≤ n by omega)
  have Hc := Lib.hid hc
  have hn : n ≤ 8 := by omega
  have HO := Lib.hid (dual_intable hc HF.out)
  have Hs := Lib.hid (hopf_shape hc)
  go_enter Tryz.func24, Tryz.ntmps24
  go_wp2_with fail
  refine atomC fun W3 e3 => ?_
  have hb3 : Below w.heap.size w W3 := by rw [e3]; exact bt
  have q3 := hb3.size
  have R3 : IsRow W3 (w.heap.size) ∧ IsRow W3 (w.heap.size + 1) := by rw [e3]; simp [go_sem]
  obtain ⟨r1_3, r2_3⟩ := R3
  have C3 := (⟨congrArg (blk · (w.heap.size)) e3, congrArg (blk · (w.heap.size + 1)) e3⟩ : _ ∧ _); simp [go_sem] at C3
  obtain ⟨c1_3, c2_3⟩ := C3
  have z1_3 := isRow_lt r1_3; have z2_3 := isRow_lt r2_3
  clear e3
  refine (l03Is_any _ _ _ _ HF.out).mono ?_; rintro _ W4 ⟨rfl, hw4⟩
  obtain ⟨r1_4, c1_4, z1_4⟩ := keepZ hw4 z1_3 r1_3 c1_3
  obtain ⟨r2_4, c2_4, z2_4⟩ := keepZ hw4 z2_3 r2_3 c2_3
  obtain ⟨hb4, q4⟩ := bN hb3 hw4
  clear hw4 r1_3 c1_3 z1_3 r2_3 c2_3 z2_3 hb3
  go_wp2_with fail
  refine (l03Dual_any p n f _ hn HF.out Hs.out).mono ?_; rintro _ W5 ⟨rfl, hw5⟩
  obtain ⟨r2_5, c2_5, z2_5⟩ := keepZ hw5 z2_4 r2_4 c2_4
  obtain ⟨hb5, q5⟩ := bN hb4 hw5
  clear hw5 r2_4 c2_4 z2_4 hb4
  go_wp2_with fail
  refine (l05Modular_any p n (duF f) _ HO.out).mono ?_; rintro _ W6 ⟨rfl, hw6⟩
  obtain ⟨r2_6, c2_6, z2_6⟩ := keepZ hw6 z2_5 r2_5 c2_5
  obtain ⟨hb6, q6⟩ := bN hb5 hw6
  clear hw6 r2_5 c2_5 z2_5 hb5
  go_wp2_with fail
  refine bodyPost_ret (result_cell_tmp rfl aggVec _ _ (row 8 (modF p n (duF f))) _ _ rfl rfl ?_ ?_) rfl ⟨by rfl, ?_⟩
  · simp [go_sem, r2_6, c2_6]
  · simp [go_sem, r2_6, c2_6]
  · exact bt

set_option maxRecDepth 100000 in
set_option maxHeartbeats 2000000 in
theorem lawModularElement (fp fn : Int) (f : Nat → Int) (w : World) (_wfp : (Lit.int .i64 fp).wf = true) (_wfn : (Lit.int .i64 fn).wf = true) (hf : Bytes 1104 f) :
    Calls Tryz.prog 7 #[.agg (hop fp fn f)] w fun e w' => e = .returned (.bool true) ∧ Below w.heap.size w w' := by
 have Hf := Lib.hid hf; clear hf
 go_enter Tryz.func7, Tryz.ntmps7
 go_wp2_with fail
 refine atomC fun W1 e1 => ?_
 have hb1 : Below w.heap.size w W1 := by rw [e1]; exact bt
 have q1 := hb1.size
 have r1_1 : IsRow W1 (w.heap.size) := by rw [e1]; simp [go_sem]
 have c1_1 := congrArg (fun x => blk x (w.heap.size)) e1; simp [go_sem] at c1_1
 have z1_1 := isRow_lt r1_1
 clear e1
 refine (toHopf_any _ _ _ _).mono ?_; rintro _ W2 ⟨rfl, hw2⟩
 obtain ⟨r1_2, c1_2, z1_2⟩ := keepZ hw2 z1_1 r1_1 c1_1
 obtain ⟨hb2, q2⟩ := bN hb1 hw2
 clear hw2 r1_1 c1_1 z1_1 hb1
 go_wp2_with fail
 refine (specMoe_any _ _ _ _ Hf.out).mono ?_; rintro _ W3 ⟨rfl, hw3⟩
 obtain ⟨r1_3, c1_3, z1_3⟩ := keepZ hw3 z1_2 r1_2 c1_2
 obtain ⟨hb3, q3⟩ := bN hb2 hw3
 clear hw3 r1_2 c1_2 z1_2 hb2
 go_wp2_with fail
 refine atomC fun W4 e4 => ?_
 have hb4 : Below w.heap.size w W4 := by rw [e4]; exact bt
 have q4 := hb4.size
 have r3_4 : IsRow W4 (W3.heap.size) := by rw [e4]; simp [go_sem, r1_3]
 have c3_4 := congrArg (fun x => blk x (W3.heap.size)) e4; simp [go_sem, r1_3] at c3_4
 have z3_4 := isRow_lt r3_4
 clear e4 hb3
 refine (toHopf_any _ _ _ _).mono ?_; rintro _ W5 ⟨rfl, hw5⟩
 obtain ⟨r3_5, c3_5, z3_5⟩ := keepZ hw5 z3_4 r3_4 c3_4
 obtain ⟨hb5, q5⟩ := bN hb4 hw5
 clear hw5 r3_4 c3_4 z3_4 hb4
 go_wp2_with fail
 refine (implMoe_any _ _ _ _ Hf.out).mono ?_; rintro _ W6 ⟨rfl, hw6⟩
 obtain ⟨r3_6, c3_6, z3_6⟩ := keepZ hw6 z3_5 r3_5 c3_5
 obtain ⟨hb6, q6⟩ := bN hb5 hw6
 clear hw6 r3_5 c3_5 z3_5 hb5
 go_wp2_with fail
 refine atomC fun W7 e7 => ?_
 have hb7 : Below w.heap.size w W7 := by rw [e7]; exact bt
 have q7 := hb7.size
 clear e7 hb6
 refine (eqVector_same _ _).mono ?_; rintro _ W8 ⟨rfl, hw8⟩
 obtain ⟨hb8, q8⟩ := bN hb7 hw8
 clear hw8 hb7
 go_wp2_with fail
 go_ret
 exact ⟨rfl, bt⟩

end Go.Proofs.YtjpdpnplnelgcaaGreat
