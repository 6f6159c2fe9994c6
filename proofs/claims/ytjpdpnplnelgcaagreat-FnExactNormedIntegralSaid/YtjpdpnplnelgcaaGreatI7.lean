/- Law NormedIntegral. -/
import Derived.Test.YtjpdpnplnelgcaaGreatI4
namespace Go.Proofs.YtjpdpnplnelgcaaGreat
open Go.RowKit
set_option linter.unusedSimpArgs false
set_option linter.unusedVariables false
attribute [local irreducible] wpQuiet wpQE

/-! ### the normed integral -/
/-- the Counit of the left integral -/
noncomputable def norN (p : Int) (n : Nat) (f : Nat → Int) : Int := dotF 8 (coF f) (lefG p n f) % p
noncomputable def norF (p : Int) (n : Nat) (f : Nat → Int) : Nat → Int := scK p (invN p (norN p n f)) (lefG p n f) 8
theorem nor_add (p : Int) (n : Nat) (f : Nat → Int) : row 8 (addm p 0 8 (invN p (norN p n f)) zf (lefG p n f)) = row 8 (norF p n f) := row_congr fun t ht => by
  unfold addm norF scK zf
  rw [if_pos (by omega), if_pos ht, Nat.sub_zero, Int.zero_add]
noncomputable def norR (p n : Int) (f : Nat → Int) : Nat → Int := if hopfB p n f = true then (if norN p n.toNat f = 0 then zf else norF p n.toNat f) else zf
noncomputable def norC (p n : Int) (f : Nat → Int) : Int := if hopfB p n f = true then (if norN p n.toNat f = 0 then 4 else 0) else 1
theorem nor_no {p n : Int} {f : Nat → Int} (h : hopfB p n f = false) : norR p n f = zf ∧ norC p n f = 1 := by unfold norR norC; rw [h]; exact ⟨rfl, rfl⟩
theorem nor_none {p : Int} {n : Nat} {f : Nat → Int} (h : hopfB p n f = true) (h0 : norN p n f = 0) : norR p n f = zf ∧ norC p n f = 4 := by unfold norR norC; rw [if_pos h, if_pos h]; exact ⟨if_pos h0, if_pos h0⟩
theorem nor_some {p : Int} {n : Nat} {f : Nat → Int} (h : hopfB p n f = true) (h0 : ¬ norN p n f = 0) : norR p n f = norF p n f ∧ norC p n f = 0 := by unfold norR norC; rw [if_pos h, if_pos h]; exact ⟨if_neg h0, if_neg h0⟩
theorem int_p {p : Int} {n : Nat} {f : Nat → Int} (h : Intable p n f) : 2 ≤ p ∧ p ≤ 255 := by
  have := h.prime; have := p2_of h.prime; unfold prime31 at *; simp only [Bool.and_eq_true, decide_eq_true_eq] at *; omega
theorem nor_range {p : Int} {n : Nat} {f : Nat → Int} (h : Intable p n f) : 0 ≤ norN p n f ∧ norN p n f < p := emod_range (by have := int_p h; omega) _
theorem counit_nor {p : Int} {n : Nat} {f : Nat → Int} (h : Intable p n f) (w : World) : Calls Tryz.prog 59 #[.agg (hop p n f), .agg (row 8 (lefG p n f))] w fun e w' => e = .returned (.int .u8 (norN p n f)) ∧ Below w.heap.size w w' :=
  counitOfH_any p n f (lefG p n f) w (by have := int_p h; omega) (int_p h).2 h.bytes (lef_bytes h)
theorem l03Counit_nor {p : Int} {n : Nat} {f : Nat → Int} (h : Intable p n f) (w : World) : Calls Tryz.prog 56 #[.agg (hop p n f), .agg (row 8 (lefG p n f))] w fun e w' => e = .returned (.int .i64 (norN p n f)) ∧ Below w.heap.size w w' := by
  unfold norN
  rw [← lef_dot h]
  exact l03Counit_any p n f (lefG p n f) w (by have := int_p h; omega) (int_p h).2 h.le h.bytes (lef_bytes h)
theorem implLeft_no (p n : Int) (f : Nat → Int) (w : World) (hF : Bytes 1104 f) (hc : hopfB p n f = false) : Calls Tryz.prog 16 #[.agg (hop p n f)] w fun e w' => e = .returned (.tuple #[.agg (row 8 zf), .int .i64 1]) ∧ Below w.heap.size w w' := by
  have h := implLeft_any p n f w hF
  rw [hc] at h; exact h
theorem implLeft_yes (p : Int) (n : Nat) (f : Nat → Int) (w : World) (hF : Bytes 1104 f) (hc : hopfB p n f = true) : Calls Tryz.prog 16 #[.agg (hop p n f)] w fun e w' => e = .returned (.tuple #[.agg (row 8 (lefG p n f)), .int .i64 0]) ∧ Below w.heap.size w w' := by
  have h := implLeft_any p n f w hF
  rw [hc] at h; exact h

set_option maxRecDepth 100000 in
set_option maxHeartbeats 1000000 in
theorem norImpl_no (p n : Int) (f : Nat → Int) (w : World) (hF : Bytes 1104 f) (hc : hopfB p n f = false) :
    Calls Tryz.prog 31 #[.agg (hop p n f)] w fun e w' => e = .returned (.tuple #[.agg (row 8 zf), .int .i64 1]) ∧ Below w.heap.size w w' := by
 have HF := Lib.hid hF; clear hF
 go_enter Tryz.func31, Tryz.ntmps31
 go_wp2_with fail
 refine atomC fun W1 e1 => ?_
 have hb1 : Below w.heap.size w W1 := by rw [e1]; exact bt
 have q1 := hb1.size
 have R1 : IsRow W1 (w.heap.size) ∧ IsRow W1 (w.heap.size + 1) := by rw [e1]; simp [go_sem]
 obtain ⟨r1_1, r2_1⟩ := R1
 have C1 := (⟨congrArg (blk · (w.heap.size)) e1, congrArg (blk · (w.heap.size + 1)) e1⟩ : _ ∧ _); simp [go_sem] at C1
 obtain ⟨c1_1, c2_1⟩ := C1
 have z1_1 := isRow_lt r1_1; have z2_1 := isRow_lt r2_1
 clear e1
 refine (implLeft_no p n f _ HF.out hc).mono ?_; rintro _ W2 ⟨rfl, hw2⟩
 obtain ⟨r1_2, c1_2, z1_2⟩ := keepZ hw2 z1_1 r1_1 c1_1
 obtain ⟨r2_2, c2_2, z2_2⟩ := keepZ hw2 z2_1 r2_1 c2_1
 obtain ⟨hb2, q2⟩ := bN hb1 hw2
 clear hw2 r1_1 c1_1 z1_1 r2_1 c2_1 z2_1 hb1
 have nw1_W2_0 : (w.heap.size) ≠ W2.heap.size := by omega
 have nw2_W2_0 : (w.heap.size + 1) ≠ W2.heap.size := by omega
 go_wp2_with fail
 refine bodyPost_ret (result_cell_tmp rfl aggVec _ _ (row 8 zf) _ _ rfl rfl ?_ ?_) rfl ⟨by rfl, ?_⟩
 · simp [go_sem, r1_2, c1_2, r2_2, c2_2, nw1_W2_0, nw2_W2_0]
 · simp [go_sem, r1_2, c1_2, r2_2, c2_2, nw1_W2_0, nw2_W2_0]
 · exact bt

set_option maxRecDepth 100000 in
set_option maxHeartbeats 1000000 in
theorem norImpl_none (p : Int) (n : Nat) (f : Nat → Int) (w : World) (hF : Bytes 1104 f) (hc : hopfB p n f = true) (h0 : norN p n f = 0) :
    Calls Tryz.prog 31 #[.agg (hop p n f)] w fun e w' => e = .returned (.tuple #[.agg (row 8 zf), .int .i64 4]) ∧ Below w.heap.size w w' := by
 have HF := Lib.hid hF; clear hF
 have HO := Lib.hid (hopf_intable hc HF.out)
 have hp2 := (int_p HO.out).1
 have hp' := (int_p HO.out).2
 have hp : 0 < p := by omega
 have hn := HO.out.le
 have HL := Lib.hid (lef_bytes HO.out)
 have b1 := (nor_range HO.out).1
 have b2 := (nor_range HO.out).2
 have w1 : IntKind.u8.wrap (norN p n f) = norN p n f := IntWalk.u8_in _ (by omega)
 have n1 : (norN p n f == 0) = true := by rw [h0]; rfl
 have n2 : decide (norN p n f = 0) = true := by rw [h0]; rfl
 go_enter Tryz.func31, Tryz.ntmps31
 go_wp2_with fail
 refine atomC fun W1 e1 => ?_
 have hb1 : Below w.heap.size w W1 := by rw [e1]; exact bt
 have q1 := hb1.size
 have R1 : IsRow W1 (w.heap.size) ∧ IsRow W1 (w.heap.size + 1) := by rw [e1]; simp [go_sem]
 obtain ⟨r1_1, r2_1⟩ := R1
 have C1 := (⟨congrArg (blk · (w.heap.size)) e1, congrArg (blk · (w.heap.size + 1)) e1⟩ : _ ∧ _); simp [go_sem] at C1
 obtain ⟨c1_1, c2_1⟩ := C1
 have z1_1 := isRow_lt r1_1; have z2_1 := isRow_lt r2_1
 clear e1
 refine (implLeft_yes p n f _ HF.out hc).mono ?_; rintro _ W2 ⟨rfl, hw2⟩
 obtain ⟨r1_2, c1_2, z1_2⟩ := keepZ hw2 z1_1 r1_1 c1_1
 obtain ⟨r2_2, c2_2, z2_2⟩ := keepZ hw2 z2_1 r2_1 c2_1
 obtain ⟨hb2, q2⟩ := bN hb1 hw2
 clear hw2 r1_1 c1_1 z1_1 r2_1 c2_1 z2_1 hb1
 go_wp2_with fail
 have nw1_W2_0 : (w.heap.size) ≠ W2.heap.size := by omega
 have nw2_W2_0 : (w.heap.size + 1) ≠ W2.heap.size := by omega
 refine atomC fun W3 e3 => ?_
 have hb3 : Below w.heap.size w W3 := by rw [e3]; exact bt
 have q3 := hb3.size
 have R3 : IsRow W3 (w.heap.size) ∧ IsRow W3 (w.heap.size + 1) ∧ IsRow W3 (W2.heap.size) := by rw [e3]; simp [go_sem, r1_2, c1_2, r2_2, c2_2, nw1_W2_0, nw2_W2_0]
 obtain ⟨r1_3, r2_3, r4_3⟩ := R3
 have C3 := (⟨congrArg (blk · (w.heap.size)) e3, congrArg (blk · (w.heap.size + 1)) e3, congrArg (blk · (W2.heap.size)) e3⟩ : _ ∧ _ ∧ _); simp [go_sem, r1_2, c1_2, r2_2, c2_2, nw1_W2_0, nw2_W2_0] at C3
 obtain ⟨c1_3, c2_3, c4_3⟩ := C3
 have z1_3 := isRow_lt r1_3; have z2_3 := isRow_lt r2_3; have z4_3 := isRow_lt r4_3
 have n1_4 : (w.heap.size) ≠ (W2.heap.size) := by omega
 have n2_4 : (w.heap.size + 1) ≠ (W2.heap.size) := by omega
 have n4_1 : (W2.heap.size) ≠ (w.heap.size) := by omega
 have n4_2 : (W2.heap.size) ≠ (w.heap.size + 1) := by omega
 clear e3 nw1_W2_0 nw2_W2_0 r1_2 c1_2 z1_2 r2_2 c2_2 z2_2 hb2
 refine (counit_nor HO.out _).mono ?_; rintro _ W4 ⟨rfl, hw4⟩
 obtain ⟨r1_4, c1_4, z1_4⟩ := keepZ hw4 z1_3 r1_3 c1_3
 obtain ⟨r2_4, c2_4, z2_4⟩ := keepZ hw4 z2_3 r2_3 c2_3
 obtain ⟨r4_4, c4_4, z4_4⟩ := keepZ hw4 z4_3 r4_3 c4_3
 obtain ⟨hb4, q4⟩ := bN hb3 hw4
 clear hw4 r1_3 c1_3 z1_3 r2_3 c2_3 z2_3 r4_3 c4_3 z4_3 hb3
 go_wp2_with fail
 refine bodyPost_ret (result_cell_tmp rfl aggVec _ _ (row 8 zf) _ _ rfl rfl ?_ ?_) rfl ⟨by rfl, ?_⟩
 · simp [go_sem, r1_4, c1_4, n1_4, r2_4, c2_4, n2_4, r4_4, c4_4, n4_1, n4_2]
 · simp [go_sem, r1_4, c1_4, n1_4, r2_4, c2_4, n2_4, r4_4, c4_4, n4_1, n4_2]
 · exact bt

set_option maxRecDepth 100000 in
set_option maxHeartbeats 1000000 in
theorem norImpl_some (p : Int) (n : Nat) (f : Nat → Int) (w : World) (hF : Bytes 1104 f) (hc : hopfB p n f = true) (h0 : ¬ norN p n f = 0) :
    Calls Tryz.prog 31 #[.agg (hop p n f)] w fun e w' => e = .returned (.tuple #[.agg (row 8 (norF p n f)), .int .i64 0]) ∧ Below w.heap.size w w' := by
 have HF := Lib.hid hF; clear hF
 have HO := Lib.hid (hopf_intable hc HF.out)
 have hp2 := (int_p HO.out).1
 have hp' := (int_p HO.out).2
 have hp : 0 < p := by omega
 have hn := HO.out.le
 have HL := Lib.hid (lef_bytes HO.out)
 have b1 := (nor_range HO.out).1
 have b2 := (nor_range HO.out).2
 have w1 : IntKind.u8.wrap (norN p n f) = norN p n f := IntWalk.u8_in _ (by omega)
 have n1 : (norN p n f == 0) = false := by simpa using h0
 have n2 : decide (norN p n f = 0) = false := by simpa using h0
 have b3 : 0 < norN p n f := by omega
 have HI := Lib.hid (invN_spec HO.out.prime b3 b2)
 have i1 := HI.out.1
 have i2 := HI.out.2.1
 have q1 : IntKind.i64.wrap (invN p (norN p n f) : Int) = (invN p (norN p n f) : Int) := IntWalk.i64_in _ (by omega)
 go_enter Tryz.func31, Tryz.ntmps31
 go_wp2_with fail
 refine atomC fun W1 e1 => ?_
 have hb1 : Below w.heap.size w W1 := by rw [e1]; exact bt
 have q1 := hb1.size
 have R1 : IsRow W1 (w.heap.size) ∧ IsRow W1 (w.heap.size + 1) := by rw [e1]; simp [go_sem]
 obtain ⟨r1_1, r2_1⟩ := R1
 have C1 := (⟨congrArg (blk · (w.heap.size)) e1, congrArg (blk · (w.heap.size + 1)) e1⟩ : _ ∧ _); simp [go_sem] at C1
 obtain ⟨c1_1, c2_1⟩ := C1
 have z1_1 := isRow_lt r1_1; have z2_1 := isRow_lt r2_1
 clear e1
 refine (implLeft_yes p n f _ HF.out hc).mono ?_; rintro _ W2 ⟨rfl, hw2⟩
 obtain ⟨r1_2, c1_2, z1_2⟩ := keepZ hw2 z1_1 r1_1 c1_1
 obtain ⟨r2_2, c2_2, z2_2⟩ := keepZ hw2 z2_1 r2_1 c2_1
 obtain ⟨hb2, q2⟩ := bN hb1 hw2
 clear hw2 r1_1 c1_1 z1_1 r2_1 c2_1 z2_1 hb1
 go_wp2_with fail
 have nw1_W2_0 : (w.heap.size) ≠ W2.heap.size := by omega
 have nw2_W2_0 : (w.heap.size + 1) ≠ W2.heap.size := by omega
 refine atomC fun W3 e3 => ?_
 have hb3 : Below w.heap.size w W3 := by rw [e3]; exact bt
 have q3 := hb3.size
 have R3 : IsRow W3 (w.heap.size) ∧ IsRow W3 (w.heap.size + 1) ∧ IsRow W3 (W2.heap.size) := by rw [e3]; simp [go_sem, r1_2, c1_2, r2_2, c2_2, nw1_W2_0, nw2_W2_0]
 obtain ⟨r1_3, r2_3, r4_3⟩ := R3
 have C3 := (⟨congrArg (blk · (w.heap.size)) e3, congrArg (blk · (w.heap.size + 1)) e3, congrArg (blk · (W2.heap.size)) e3⟩ : _ ∧ _ ∧ _); simp [go_sem, r1_2, c1_2, r2_2, c2_2, nw1_W2_0, nw2_W2_0] at C3
 obtain ⟨c1_3, c2_3, c4_3⟩ := C3
 have z1_3 := isRow_lt r1_3; have z2_3 := isRow_lt r2_3; have z4_3 := isRow_lt r4_3
 have n1_4 : (w.heap.size) ≠ (W2.heap.size) := by omega
 have n2_4 : (w.heap.size + 1) ≠ (W2.heap.size) := by omega
 have n4_1 : (W2.heap.size) ≠ (w.heap.size) := by omega
 have n4_2 : (W2.heap.size) ≠ (w.heap.size + 1) := by omega
 clear e3 nw1_W2_0 nw2_W2_0 r1_2 c1_2 z1_2 r2_2 c2_2 z2_2 hb2
 refine (counit_nor HO.out _).mono ?_; rintro _ W4 ⟨rfl, hw4⟩
 obtain ⟨r1_4, c1_4, z1_4⟩ := keepZ hw4 z1_3 r1_3 c1_3
 obtain ⟨r2_4, c2_4, z2_4⟩ := keepZ hw4 z2_3 r2_3 c2_3
 obtain ⟨r4_4, c4_4, z4_4⟩ := keepZ hw4 z4_3 r4_3 c4_3
 obtain ⟨hb4, q4⟩ := bN hb3 hw4
 clear hw4 r1_3 c1_3 z1_3 r2_3 c2_3 z2_3 r4_3 c4_3 z4_3 hb3
 go_wp2
 refine wp_quiet_tail 7 (Below W4.heap.size W4) (by kernel_rfl) (by kernel_rfl) (Below.refl _ _).drew ?_
 simp only [List.take_succ_cons, List.take_zero, List.drop_succ_cons, List.drop_zero]
 iterate 6 (refine q_plain rfl ?_; apply Exists.intro; refine ⟨fun W hW => ?_, ?_⟩; (focus (obtain ⟨x1, y1⟩ := keepB hW z1_4 r1_4 c1_4; obtain ⟨x2, y2⟩ := keepB hW z2_4 r2_4 c2_4; obtain ⟨x4, y4⟩ := keepB hW z4_4 r4_4 c4_4; go_simp; first | done | rfl)); simp only [Act.put, List.setIfInBounds_toArray, List.set_cons_zero, List.set_cons_succ])
 (refine q_plain rfl ?_; apply Exists.intro; refine ⟨fun W hW => ?_, ?_⟩; (focus (obtain ⟨x1, y1⟩ := keepB hW z1_4 r1_4 c1_4; obtain ⟨x2, y2⟩ := keepB hW z2_4 r2_4 c2_4; obtain ⟨x4, y4⟩ := keepB hW z4_4 r4_4 c4_4; go_simp; (go_at_call 61; exact (inverseNumber_any p (norN p n f) _ HO.out.prime b3 b2).mono fun e w2 ⟨he, hw2⟩ => ⟨he, hW.trans (hw2.mono hW.size)⟩))); simp only [Act.put, List.setIfInBounds_toArray, List.set_cons_zero, List.set_cons_succ])
 refine wpQuiet_nil ?_
 intro W5 hw5
 obtain ⟨r1_5, c1_5, z1_5⟩ := keepZ hw5 z1_4 r1_4 c1_4
 obtain ⟨r2_5, c2_5, z2_5⟩ := keepZ hw5 z2_4 r2_4 c2_4
 obtain ⟨r4_5, c4_5, z4_5⟩ := keepZ hw5 z4_4 r4_4 c4_4
 obtain ⟨hb5, q5⟩ := bN hb4 hw5
 clear hw5 r1_4 c1_4 z1_4 r2_4 c2_4 z2_4 r4_4 c4_4 z4_4 hb4
 go_wp2_with fail
 refine (scaleRow_any p _ _ 8 8 (lefG p n f) _ hp hp' (by omega) (by omega) (by omega) (by omega) r4_5 c4_5 HL.out).mono ?_; rintro _ W6 ⟨rfl, hw6, r4_6, c4_6⟩
 obtain ⟨r2_6, c2_6⟩ := keepA hw6 z2_5 (by first | assumption | (simp; done) | omega) r2_5 c2_5
 have z2_6 := isRow_lt r2_6
 have z4_6 := isRow_lt r4_6
 have hb6 := Below.aside hb5 hw6 (by omega)
 have q6 := hb6.size
 clear hw6 r2_5 c2_5 z2_5 r4_5 c4_5 z4_5 hb5
 go_wp2_with fail
 refine bodyPost_ret (result_cell_tmp rfl aggVec _ _ (row 8 (scK p (invN p (norN p n f)) (lefG p n f) 8)) _ _ rfl rfl ?_ ?_) rfl ⟨by rfl, ?_⟩
 · simp [go_sem, r2_6, c2_6, n2_4, r4_6, c4_6, n4_1, n4_2]
 · simp [go_sem, r2_6, c2_6, n2_4, r4_6, c4_6, n4_1, n4_2]
 · exact bt

set_option maxRecDepth 100000 in
set_option maxHeartbeats 1000000 in
theorem norSpec_no (p n : Int) (f : Nat → Int) (w : World) (hF : Bytes 1104 f) (hc : hopfB p n f = false) :
    Calls Tryz.prog 30 #[.agg (hop p n f)] w fun e w' => e = .returned (.tuple #[.agg (row 8 zf), .int .i64 1]) ∧ Below w.heap.size w w' := by
 have HF := Lib.hid hF; clear hF
 go_enter Tryz.func30, Tryz.ntmps30
 go_wp2_with fail
 refine atomC fun W1 e1 => ?_
 have hb1 : Below w.heap.size w W1 := by rw [e1]; exact bt
 have q1 := hb1.size
 have R1 : IsRow W1 (w.heap.size) ∧ IsRow W1 (w.heap.size + 1) := by rw [e1]; simp [go_sem]
 obtain ⟨r1_1, r2_1⟩ := R1
 have C1 := (⟨congrArg (blk · (w.heap.size)) e1, congrArg (blk · (w.heap.size + 1)) e1⟩ : _ ∧ _); simp [go_sem] at C1
 obtain ⟨c1_1, c2_1⟩ := C1
 have z1_1 := isRow_lt r1_1; have z2_1 := isRow_lt r2_1
 clear e1
 refine (l03Is_any _ _ _ _ HF.out).mono ?_; rintro _ W2 ⟨rfl, hw2⟩
 obtain ⟨r1_2, c1_2, z1_2⟩ := keepZ hw2 z1_1 r1_1 c1_1
 obtain ⟨r2_2, c2_2, z2_2⟩ := keepZ hw2 z2_1 r2_1 c2_1
 obtain ⟨hb2, q2⟩ := bN hb1 hw2
 clear hw2 r1_1 c1_1 z1_1 r2_1 c2_1 z2_1 hb1
 go_wp2_with fail
 refine bodyPost_ret (result_cell_tmp rfl aggVec _ _ (row 8 zf) _ _ rfl rfl ?_ ?_) rfl ⟨by rfl, ?_⟩
 · simp [go_sem, r1_2, c1_2, r2_2, c2_2]
 · simp [go_sem, r1_2, c1_2, r2_2, c2_2]
 · exact bt

set_option maxRecDepth 100000 in
set_option maxHeartbeats 1000000 in
theorem norSpec_none (p : Int) (n : Nat) (f : Nat → Int) (w : World) (hF : Bytes 1104 f) (hc : hopfB p n f = true) (h0 : norN p n f = 0) :
    Calls Tryz.prog 30 #[.agg (hop p n f)] w fun e w' => e = .returned (.tuple #[.agg (row 8 zf), .int .i64 4]) ∧ Below w.heap.size w w' := by
 have HF := Lib.hid hF; clear hF
 have HO := Lib.hid (hopf_intable hc HF.out)
 have hp2 := (int_p HO.out).1
 have hp' := (int_p HO.out).2
 have hp : 0 < p := by omega
 have hn := HO.out.le
 have HL := Lib.hid (lef_bytes HO.out)
 have b1 := (nor_range HO.out).1
 have b2 := (nor_range HO.out).2
 have w1 : IntKind.u8.wrap (norN p n f) = norN p n f := IntWalk.u8_in _ (by omega)
 have n1 : (norN p n f == 0) = true := by rw [h0]; rfl
 have n2 : decide (norN p n f = 0) = true := by rw [h0]; rfl
 go_enter Tryz.func30, Tryz.ntmps30
 go_wp2_with fail
 refine atomC fun W1 e1 => ?_
 have hb1 : Below w.heap.size w W1 := by rw [e1]; exact bt
 have q1 := hb1.size
 have R1 : IsRow W1 (w.heap.size) ∧ IsRow W1 (w.heap.size + 1) := by rw [e1]; simp [go_sem]
 obtain ⟨r1_1, r2_1⟩ := R1
 have C1 := (⟨congrArg (blk · (w.heap.size)) e1, congrArg (blk · (w.heap.size + 1)) e1⟩ : _ ∧ _); simp [go_sem] at C1
 obtain ⟨c1_1, c2_1⟩ := C1
 have z1_1 := isRow_lt r1_1; have z2_1 := isRow_lt r2_1
 clear e1
 refine (l03Is_any _ _ _ _ HF.out).mono ?_; rintro _ W2 ⟨rfl, hw2⟩
 obtain ⟨r1_2, c1_2, z1_2⟩ := keepZ hw2 z1_1 r1_1 c1_1
 obtain ⟨r2_2, c2_2, z2_2⟩ := keepZ hw2 z2_1 r2_1 c2_1
 obtain ⟨hb2, q2⟩ := bN hb1 hw2
 clear hw2 r1_1 c1_1 z1_1 r2_1 c2_1 z2_1 hb1
 go_wp2_with fail
 refine (l05Left_lef p n f _ HO.out).mono ?_; rintro _ W3 ⟨rfl, hw3⟩
 obtain ⟨r1_3, c1_3, z1_3⟩ := keepZ hw3 z1_2 r1_2 c1_2
 obtain ⟨r2_3, c2_3, z2_3⟩ := keepZ hw3 z2_2 r2_2 c2_2
 obtain ⟨hb3, q3⟩ := bN hb2 hw3
 clear hw3 r1_2 c1_2 z1_2 r2_2 c2_2 z2_2 hb2
 go_wp2_with fail
 have nw1_W3_0 : (w.heap.size) ≠ W3.heap.size := by omega
 have nw2_W3_0 : (w.heap.size + 1) ≠ W3.heap.size := by omega
 refine atomC fun W4 e4 => ?_
 have hb4 : Below w.heap.size w W4 := by rw [e4]; exact bt
 have q4 := hb4.size
 have R4 : IsRow W4 (w.heap.size) ∧ IsRow W4 (w.heap.size + 1) ∧ IsRow W4 (W3.heap.size) := by rw [e4]; simp [go_sem, r1_3, c1_3, r2_3, c2_3, nw1_W3_0, nw2_W3_0]
 obtain ⟨r1_4, r2_4, r4_4⟩ := R4
 have C4 := (⟨congrArg (blk · (w.heap.size)) e4, congrArg (blk · (w.heap.size + 1)) e4, congrArg (blk · (W3.heap.size)) e4⟩ : _ ∧ _ ∧ _); simp [go_sem, r1_3, c1_3, r2_3, c2_3, nw1_W3_0, nw2_W3_0] at C4
 obtain ⟨c1_4, c2_4, c4_4⟩ := C4
 have z1_4 := isRow_lt r1_4; have z2_4 := isRow_lt r2_4; have z4_4 := isRow_lt r4_4
 have n1_4 : (w.heap.size) ≠ (W3.heap.size) := by omega
 have n2_4 : (w.heap.size + 1) ≠ (W3.heap.size) := by omega
 have n4_1 : (W3.heap.size) ≠ (w.heap.size) := by omega
 have n4_2 : (W3.heap.size) ≠ (w.heap.size + 1) := by omega
 clear e4 nw1_W3_0 nw2_W3_0 r1_3 c1_3 z1_3 r2_3 c2_3 z2_3 hb3
 refine (l03Counit_nor HO.out _).mono ?_; rintro _ W5 ⟨rfl, hw5⟩
 obtain ⟨r1_5, c1_5, z1_5⟩ := keepZ hw5 z1_4 r1_4 c1_4
 obtain ⟨r2_5, c2_5, z2_5⟩ := keepZ hw5 z2_4 r2_4 c2_4
 obtain ⟨r4_5, c4_5, z4_5⟩ := keepZ hw5 z4_4 r4_4 c4_4
 obtain ⟨hb5, q5⟩ := bN hb4 hw5
 clear hw5 r1_4 c1_4 z1_4 r2_4 c2_4 z2_4 r4_4 c4_4 z4_4 hb4
 go_wp2_with fail
 refine bodyPost_ret (result_cell_tmp rfl aggVec _ _ (row 8 zf) _ _ rfl rfl ?_ ?_) rfl ⟨by rfl, ?_⟩
 · simp [go_sem, r1_5, c1_5, n1_4, r2_5, c2_5, n2_4, r4_5, c4_5, n4_1, n4_2]
 · simp [go_sem, r1_5, c1_5, n1_4, r2_5, c2_5, n2_4, r4_5, c4_5, n4_1, n4_2]
 · exact bt

set_option maxRecDepth 100000 in
set_option maxHeartbeats 1000000 in
theorem norSpec_some (p : Int) (n : Nat) (f : Nat → Int) (w : World) (hF : Bytes 1104 f) (hc : hopfB p n f = true) (h0 : ¬ norN p n f = 0) :
    Calls Tryz.prog 30 #[.agg (hop p n f)] w fun e w' => e = .returned (.tuple #[.agg (row 8 (norF p n f)), .int .i64 0]) ∧ Below w.heap.size w w' := by
 have HF := Lib.hid hF; clear hF
 have HO := Lib.hid (hopf_intable hc HF.out)
 have hp2 := (int_p HO.out).1
 have hp' := (int_p HO.out).2
 have hp : 0 < p := by omega
 have hn := HO.out.le
 have HL := Lib.hid (lef_bytes HO.out)
 have b1 := (nor_range HO.out).1
 have b2 := (nor_range HO.out).2
 have w1 : IntKind.u8.wrap (norN p n f) = norN p n f := IntWalk.u8_in _ (by omega)
 have n1 : (norN p n f == 0) = false := by simpa using h0
 have n2 : decide (norN p n f = 0) = false := by simpa using h0
 have b3 : 0 < norN p n f := by omega
 have HI := Lib.hid (invN_spec HO.out.prime b3 b2)
 have i1 := HI.out.1
 have i2 := HI.out.2.1
 have q1 : IntKind.i64.wrap (invN p (norN p n f) : Int) = (invN p (norN p n f) : Int) := IntWalk.i64_in _ (by omega)
 go_enter Tryz.func30, Tryz.ntmps30
 go_wp2_with fail
 refine atomC fun W1 e1 => ?_
 have hb1 : Below w.heap.size w W1 := by rw [e1]; exact bt
 have q1 := hb1.size
 have R1 : IsRow W1 (w.heap.size) ∧ IsRow W1 (w.heap.size + 1) := by rw [e1]; simp [go_sem]
 obtain ⟨r1_1, r2_1⟩ := R1
 have C1 := (⟨congrArg (blk · (w.heap.size)) e1, congrArg (blk · (w.heap.size + 1)) e1⟩ : _ ∧ _); simp [go_sem] at C1
 obtain ⟨c1_1, c2_1⟩ := C1
 have z1_1 := isRow_lt r1_1; have z2_1 := isRow_lt r2_1
 clear e1
 refine (l03Is_any _ _ _ _ HF.out).mono ?_; rintro _ W2 ⟨rfl, hw2⟩
 obtain ⟨r1_2, c1_2, z1_2⟩ := keepZ hw2 z1_1 r1_1 c1_1
 obtain ⟨r2_2, c2_2, z2_2⟩ := keepZ hw2 z2_1 r2_1 c2_1
 obtain ⟨hb2, q2⟩ := bN hb1 hw2
 clear hw2 r1_1 c1_1 z1_1 r2_1 c2_1 z2_1 hb1
 go_wp2_with fail
 refine (l05Left_lef p n f _ HO.out).mono ?_; rintro _ W3 ⟨rfl, hw3⟩
 obtain ⟨r1_3, c1_3, z1_3⟩ := keepZ hw3 z1_2 r1_2 c1_2
 obtain ⟨r2_3, c2_3, z2_3⟩ := keepZ hw3 z2_2 r2_2 c2_2
 obtain ⟨hb3, q3⟩ := bN hb2 hw3
 clear hw3 r1_2 c1_2 z1_2 r2_2 c2_2 z2_2 hb2
 go_wp2_with fail
 have nw1_W3_0 : (w.heap.size) ≠ W3.heap.size := by omega
 have nw2_W3_0 : (w.heap.size + 1) ≠ W3.heap.size := by omega
 refine atomC fun W4 e4 => ?_
 have hb4 : Below w.heap.size w W4 := by rw [e4]; exact bt
 have q4 := hb4.size
 have R4 : IsRow W4 (w.heap.size) ∧ IsRow W4 (w.heap.size + 1) ∧ IsRow W4 (W3.heap.size) := by rw [e4]; simp [go_sem, r1_3, c1_3, r2_3, c2_3, nw1_W3_0, nw2_W3_0]
 obtain ⟨r1_4, r2_4, r4_4⟩ := R4
 have C4 := (⟨congrArg (blk · (w.heap.size)) e4, congrArg (blk · (w.heap.size + 1)) e4, congrArg (blk · (W3.heap.size)) e4⟩ : _ ∧ _ ∧ _); simp [go_sem, r1_3, c1_3, r2_3, c2_3, nw1_W3_0, nw2_W3_0] at C4
 obtain ⟨c1_4, c2_4, c4_4⟩ := C4
 have z1_4 := isRow_lt r1_4; have z2_4 := isRow_lt r2_4; have z4_4 := isRow_lt r4_4
 have n1_4 : (w.heap.size) ≠ (W3.heap.size) := by omega
 have n2_4 : (w.heap.size + 1) ≠ (W3.heap.size) := by omega
 have n4_1 : (W3.heap.size) ≠ (w.heap.size) := by omega
 have n4_2 : (W3.heap.size) ≠ (w.heap.size + 1) := by omega
 clear e4 nw1_W3_0 nw2_W3_0 r1_3 c1_3 z1_3 r2_3 c2_3 z2_3 hb3
 refine (l03Counit_nor HO.out _).mono ?_; rintro _ W5 ⟨rfl, hw5⟩
 obtain ⟨r1_5, c1_5, z1_5⟩ := keepZ hw5 z1_4 r1_4 c1_4
 obtain ⟨r2_5, c2_5, z2_5⟩ := keepZ hw5 z2_4 r2_4 c2_4
 obtain ⟨r4_5, c4_5, z4_5⟩ := keepZ hw5 z4_4 r4_4 c4_4
 obtain ⟨hb5, q5⟩ := bN hb4 hw5
 clear hw5 r1_4 c1_4 z1_4 r2_4 c2_4 z2_4 r4_4 c4_4 z4_4 hb4
 go_wp2
 refine wp_quiet_tail 11 (Below W5.heap.size W5) (by kernel_rfl) (by kernel_rfl) (Below.refl _ _).drew ?_
 simp only [List.take_succ_cons, List.take_zero, List.drop_succ_cons, List.drop_zero]
 iterate 8 (refine q_plain rfl ?_; apply Exists.intro; refine ⟨fun W hW => ?_, ?_⟩; (focus (obtain ⟨x1, y1⟩ := keepB hW z1_5 r1_5 c1_5; obtain ⟨x2, y2⟩ := keepB hW z2_5 r2_5 c2_5; obtain ⟨x4, y4⟩ := keepB hW z4_5 r4_5 c4_5; go_simp; first | done | rfl)); simp only [Act.put, List.setIfInBounds_toArray, List.set_cons_zero, List.set_cons_succ])
 (refine q_plain rfl ?_; apply Exists.intro; refine ⟨fun W hW => ?_, ?_⟩; (focus (obtain ⟨x1, y1⟩ := keepB hW z1_5 r1_5 c1_5; obtain ⟨x2, y2⟩ := keepB hW z2_5 r2_5 c2_5; obtain ⟨x4, y4⟩ := keepB hW z4_5 r4_5 c4_5; go_simp; (go_at_call 58; exact (l01Inverse_any p (norN p n f) _ HO.out.prime b3 b2).mono fun e w2 ⟨he, hw2⟩ => ⟨he, hW.trans (hw2.mono hW.size)⟩))); simp only [Act.put, List.setIfInBounds_toArray, List.set_cons_zero, List.set_cons_succ])
 iterate 1 (refine q_plain rfl ?_; apply Exists.intro; refine ⟨fun W hW => ?_, ?_⟩; (focus (obtain ⟨x1, y1⟩ := keepB hW z1_5 r1_5 c1_5; obtain ⟨x2, y2⟩ := keepB hW z2_5 r2_5 c2_5; obtain ⟨x4, y4⟩ := keepB hW z4_5 r4_5 c4_5; go_simp; first | done | rfl)); simp only [Act.put, List.setIfInBounds_toArray, List.set_cons_zero, List.set_cons_succ])
 (refine q_plain rfl ?_; apply Exists.intro; refine ⟨fun W hW => ?_, ?_⟩; (focus (obtain ⟨x1, y1⟩ := keepB hW z1_5 r1_5 c1_5; obtain ⟨x2, y2⟩ := keepB hW z2_5 r2_5 c2_5; obtain ⟨x4, y4⟩ := keepB hW z4_5 r4_5 c4_5; go_simp; (go_at_call 57; exact (l01Add_any p _ zf (lefG p n f) _ hp hp' (by omega) (by omega) (fun t _ => by unfold zf; omega) HL.out).mono fun e w2 ⟨he, hw2⟩ => ⟨he, hW.trans (hw2.mono hW.size)⟩))); simp only [Act.put, List.setIfInBounds_toArray, List.set_cons_zero, List.set_cons_succ])
 refine wpQuiet_nil ?_
 intro W6 hw6
 obtain ⟨r1_6, c1_6, z1_6⟩ := keepZ hw6 z1_5 r1_5 c1_5
 obtain ⟨r2_6, c2_6, z2_6⟩ := keepZ hw6 z2_5 r2_5 c2_5
 obtain ⟨r4_6, c4_6, z4_6⟩ := keepZ hw6 z4_5 r4_5 c4_5
 obtain ⟨hb6, q6⟩ := bN hb5 hw6
 clear hw6 r1_5 c1_5 z1_5 r2_5 c2_5 z2_5 r4_5 c4_5 z4_5 hb5
 go_wp2_with fail
 refine bodyPost_ret (result_cell_tmp rfl aggVec _ _ (row 8 (addm p 0 8 (invN p (norN p n f)) zf (lefG p n f))) _ _ rfl rfl ?_ ?_) rfl ⟨by rw [nor_add]; rfl, ?_⟩
 · simp [go_sem, r1_6, c1_6, n1_4, r2_6, c2_6, n2_4, r4_6, c4_6, n4_1, n4_2]
 · simp [go_sem, r1_6, c1_6, n1_4, r2_6, c2_6, n2_4, r4_6, c4_6, n4_1, n4_2]
 · exact bt

theorem implNor_any (p n : Int) (f : Nat → Int) (w : World) (hF : Bytes 1104 f) : Calls Tryz.prog 31 #[.agg (hop p n f)] w fun e w' => e = .returned (.tuple #[.agg (row 8 (norR p n f)), .int .i64 (norC p n f)]) ∧ Below w.heap.size w w' := by
  cases hc : hopfB p n f
  · rw [(nor_no hc).1, (nor_no hc).2]; exact norImpl_no p n f w hF hc
  · obtain ⟨hp2, hp31, hn1, hn8⟩ := sizes_range (hopf_sizes hc)
    obtain ⟨n, rfl⟩ := Int.eq_ofNat_of_zero_le (show 0 ≤ n by omega)
    by_cases h0 : norN p n f = 0
    · rw [(nor_none hc h0).1, (nor_none hc h0).2]; exact norImpl_none p n f w hF hc h0
    · rw [(nor_some hc h0).1, (nor_some hc h0).2]; exact norImpl_some p n f w hF hc h0

theorem specNor_any (p n : Int) (f : Nat → Int) (w : World) (hF : Bytes 1104 f) : Calls Tryz.prog 30 #[.agg (hop p n f)] w fun e w' => e = .returned (.tuple #[.agg (row 8 (norR p n f)), .int .i64 (norC p n f)]) ∧ Below w.heap.size w w' := by
  cases hc : hopfB p n f
  · rw [(nor_no hc).1, (nor_no hc).2]; exact norSpec_no p n f w hF hc
  · obtain ⟨hp2, hp31, hn1, hn8⟩ := sizes_range (hopf_sizes hc)
    obtain ⟨n, rfl⟩ := Int.eq_ofNat_of_zero_le (show 0 ≤ n by omega)
    by_cases h0 : norN p n f = 0
    · rw [(nor_none hc h0).1, (nor_none hc h0).2]; exact norSpec_none p n f w hF hc h0
    · rw [(nor_some hc h0).1, (nor_some hc h0).2]; exact norSpec_some p n f w hF hc h0

set_option maxRecDepth 100000 in
set_option maxHeartbeats 2000000 in
theorem lawNormedIntegral (fp fn : Int) (f : Nat → Int) (w : World) (_wfp : (Lit.int .i64 fp).wf = true) (_wfn : (Lit.int .i64 fn).wf = true) (hf : Bytes 1104 f) :
    Calls Tryz.prog 10 #[.agg (hop fp fn f)] w fun e w' => e = .returned (.bool true) ∧ Below w.heap.size w w' := by
 have Hf := Lib.hid hf; clear hf
 go_enter Tryz.func10, Tryz.ntmps10
 go_wp2_with fail
 refine atomC fun W1 e1 => ?_
 have hb1 : Below w.heap.size w W1 := by rw [e1]; exact bt
 have q1 := hb1.size
 have r1_1 : IsRow W1 (w.heap.size) := by rw [e1]; simp [go_sem]
 have c1_1 := congrArg (fun x => blk x (w.heap.size)) e1; simp [go_sem] at c1_1
 have z1_1 := isRow_lt r1_1
 clear e1
 refine (toHopf_any _ _ _ _).mono ?_; rintro _ W2 ⟨rfl, hw2⟩
 obtain ⟨r1_2, c1_2, z1_2⟩ := keepZ hw2 z1_1 r1_1 c1_1
 obtain ⟨hb2, q2⟩ := bN hb1 hw2
 clear hw2 r1_1 c1_1 z1_1 hb1
 go_wp2_with fail
 refine (specNor_any _ _ _ _ Hf.out).mono ?_; rintro _ W3 ⟨rfl, hw3⟩
 obtain ⟨r1_3, c1_3, z1_3⟩ := keepZ hw3 z1_2 r1_2 c1_2
 obtain ⟨hb3, q3⟩ := bN hb2 hw3
 clear hw3 r1_2 c1_2 z1_2 hb2
 go_wp2_with fail
 refine atomC fun W4 e4 => ?_
 have hb4 : Below w.heap.size w W4 := by rw [e4]; exact bt
 have q4 := hb4.size
 have r3_4 : IsRow W4 (W3.heap.size) := by rw [e4]; simp [go_sem, r1_3]
 have c3_4 := congrArg (fun x => blk x (W3.heap.size)) e4; simp [go_sem, r1_3] at c3_4
 have z3_4 := isRow_lt r3_4
 clear e4 hb3
 refine (toHopf_any _ _ _ _).mono ?_; rintro _ W5 ⟨rfl, hw5⟩
 obtain ⟨r3_5, c3_5, z3_5⟩ := keepZ hw5 z3_4 r3_4 c3_4
 obtain ⟨hb5, q5⟩ := bN hb4 hw5
 clear hw5 r3_4 c3_4 z3_4 hb4
 go_wp2_with fail
 refine (implNor_any _ _ _ _ Hf.out).mono ?_; rintro _ W6 ⟨rfl, hw6⟩
 obtain ⟨r3_6, c3_6, z3_6⟩ := keepZ hw6 z3_5 r3_5 c3_5
 obtain ⟨hb6, q6⟩ := bN hb5 hw6
 clear hw6 r3_5 c3_5 z3_5 hb5
 go_wp2_with fail
 refine atomC fun W7 e7 => ?_
 have hb7 : Below w.heap.size w W7 := by rw [e7]; exact bt
 have q7 := hb7.size
 clear e7 hb6
 refine (eqVector_same _ _).mono ?_; rintro _ W8 ⟨rfl, hw8⟩
 obtain ⟨hb8, q8⟩ := bN hb7 hw8
 clear hw8 hb7
 go_wp2_with fail
 go_ret
 exact ⟨rfl, bt⟩

end Go.Proofs.YtjpdpnplnelgcaaGreat
