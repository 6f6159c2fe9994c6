/- A Hopf algebra, a module, and vectors of it, by the program. -/
import Derived.Test.YtjmmmggnbndolaaGreatM3
namespace Go.Proofs.YtjmmmggnbndolaaGreat
open Go.RowKit
set_option linter.unusedSimpArgs false
set_option linter.unusedVariables false
attribute [local irreducible] wpQuiet wpQE

set_option maxRecDepth 100000 in
set_option maxHeartbeats 1000000 in
theorem isModuleWith_any (p n : Int) (f : Nat → Int) (d : Int) (F : Nat → Int) (b off m cap : Nat) (g : Nat → Nat → Int) (w : World) (hf : Bytes 1104 f) (hF : Bytes 512 F) (hm : m ≤ 1000000) (hr : IsRow w b) (hg : VecsAt w b off m g) :
    Calls Tryz.prog 37 #[.agg (hop p n f), .agg (mdl d F), .slice (some ⟨b, off, none⟩) m cap] w fun e w' => e = .returned (.bool ((sizesB p d && allV p d m g) && hm1 p n f d F)) ∧ Below w.heap.size w w' := by
 have Hf := Lib.hid hf; clear hf
 have HF := Lib.hid hF; clear hF
 have Hg := Lib.hid hg; clear hg
 have hbw := isRow_lt hr
 cases hv : (sizesB p d && allV p d m g)
 ·
  go_enter Tryz.func37, Tryz.ntmps37
  go_wp2_with fail
  have nwl_w_0 : (b) ≠ w.heap.size := by omega
  have nwl_w_1 : (b) ≠ w.heap.size + 1 := by omega
  refine atomC fun W1 e1 => ?_
  have hb1 : Below w.heap.size w W1 := by rw [e1]; exact bt
  have q1 := hb1.size
  have R1 : IsRow W1 (b) ∧ IsRow W1 (w.heap.size) ∧ IsRow W1 (w.heap.size + 1) := by rw [e1]; simp [go_sem, hr, (rfl : blk w b = blk w b), nwl_w_0, nwl_w_1]
  obtain ⟨rl_1, r3_1, r4_1⟩ := R1
  have C1 := (⟨congrArg (blk · (b)) e1, congrArg (blk · (w.heap.size)) e1, congrArg (blk · (w.heap.size + 1)) e1⟩ : _ ∧ _ ∧ _); simp [go_sem, hr, (rfl : blk w b = blk w b), nwl_w_0, nwl_w_1] at C1
  obtain ⟨cl_1, c3_1, c4_1⟩ := C1
  have zl_1 := isRow_lt rl_1; have z3_1 := isRow_lt r3_1; have z4_1 := isRow_lt r4_1
  have nl_3 : (b) ≠ (w.heap.size) := by omega
  have nl_4 : (b) ≠ (w.heap.size + 1) := by omega
  have n3_l : (w.heap.size) ≠ (b) := by omega
  have n4_l : (w.heap.size + 1) ≠ (b) := by omega
  clear e1 nwl_w_0 nwl_w_1 hr
  refine (areVectors_any p d b off m cap g _ (by omega) rl_1 (vecs_keep Hg.out cl_1)).mono ?_; rintro _ W2 ⟨rfl, hw2⟩
  obtain ⟨rl_2, cl_2, zl_2⟩ := keepZ hw2 zl_1 rl_1 cl_1
  obtain ⟨r3_2, c3_2, z3_2⟩ := keepZ hw2 z3_1 r3_1 c3_1
  obtain ⟨r4_2, c4_2, z4_2⟩ := keepZ hw2 z4_1 r4_1 c4_1
  obtain ⟨hb2, q2⟩ := bN hb1 hw2
  clear hw2 rl_1 cl_1 zl_1 r3_1 c3_1 z3_1 r4_1 c4_1 z4_1 hb1
  go_wp2_with fail
  go_ret
  exact ⟨ret_bool (by rfl), bt⟩
 ·
  go_enter Tryz.func37, Tryz.ntmps37
  go_wp2_with fail
  have nwl_w_0 : (b) ≠ w.heap.size := by omega
  have nwl_w_1 : (b) ≠ w.heap.size + 1 := by omega
  refine atomC fun W3 e3 => ?_
  have hb3 : Below w.heap.size w W3 := by rw [e3]; exact bt
  have q3 := hb3.size
  have R3 : IsRow W3 (b) ∧ IsRow W3 (w.heap.size) ∧ IsRow W3 (w.heap.size + 1) := by rw [e3]; simp [go_sem, hr, (rfl : blk w b = blk w b), nwl_w_0, nwl_w_1]
  obtain ⟨rl_3, r3_3, r4_3⟩ := R3
  have C3 := (⟨congrArg (blk · (b)) e3, congrArg (blk · (w.heap.size)) e3, congrArg (blk · (w.heap.size + 1)) e3⟩ : _ ∧ _ ∧ _); simp [go_sem, hr, (rfl : blk w b = blk w b), nwl_w_0, nwl_w_1] at C3
  obtain ⟨cl_3, c3_3, c4_3⟩ := C3
  have zl_3 := isRow_lt rl_3; have z3_3 := isRow_lt r3_3; have z4_3 := isRow_lt r4_3
  have nl_3 : (b) ≠ (w.heap.size) := by omega
  have nl_4 : (b) ≠ (w.heap.size + 1) := by omega
  have n3_l : (w.heap.size) ≠ (b) := by omega
  have n4_l : (w.heap.size + 1) ≠ (b) := by omega
  clear e3 nwl_w_0 nwl_w_1 hr
  refine (areVectors_any p d b off m cap g _ (by omega) rl_3 (vecs_keep Hg.out cl_3)).mono ?_; rintro _ W4 ⟨rfl, hw4⟩
  obtain ⟨rl_4, cl_4, zl_4⟩ := keepZ hw4 zl_3 rl_3 cl_3
  obtain ⟨r3_4, c3_4, z3_4⟩ := keepZ hw4 z3_3 r3_3 c3_3
  obtain ⟨r4_4, c4_4, z4_4⟩ := keepZ hw4 z4_3 r4_3 c4_3
  obtain ⟨hb4, q4⟩ := bN hb3 hw4
  clear hw4 rl_3 cl_3 zl_3 r3_3 c3_3 z3_3 r4_3 c4_3 z4_3 hb3
  go_wp2_with fail
  have nwl_W4_0 : (b) ≠ W4.heap.size := by omega
  refine atomC fun W5 e5 => ?_
  have hb5 : Below w.heap.size w W5 := by rw [e5]; exact bt
  have q5 := hb5.size
  have R5 : IsRow W5 (b) ∧ IsRow W5 (W4.heap.size) := by rw [e5]; simp [go_sem, rl_4, cl_4, nl_3, nl_4, nwl_W4_0, r3_4, r4_4]
  obtain ⟨rl_5, r16_5⟩ := R5
  have C5 := (⟨congrArg (blk · (b)) e5, congrArg (blk · (W4.heap.size)) e5⟩ : _ ∧ _); simp [go_sem, rl_4, cl_4, nl_3, nl_4, nwl_W4_0, r3_4, r4_4] at C5
  obtain ⟨cl_5, c16_5⟩ := C5
  have zl_5 := isRow_lt rl_5; have z16_5 := isRow_lt r16_5
  have nl_16 : (b) ≠ (W4.heap.size) := by omega
  have n16_l : (W4.heap.size) ≠ (b) := by omega
  clear e5 nwl_W4_0 rl_4 cl_4 zl_4 hb4
  refine (areMod1 p n f d F _ _ Hf.out HF.out r16_5 c16_5).mono ?_; rintro _ W6 ⟨rfl, hw6⟩
  obtain ⟨rl_6, cl_6, zl_6⟩ := keepZ hw6 zl_5 rl_5 cl_5
  obtain ⟨r16_6, c16_6, z16_6⟩ := keepZ hw6 z16_5 r16_5 c16_5
  obtain ⟨hb6, q6⟩ := bN hb5 hw6
  clear hw6 rl_5 cl_5 zl_5 r16_5 c16_5 z16_5 hb5
  go_wp2_with fail
  go_ret
  exact ⟨ret_bool (by rfl), bt⟩

end Go.Proofs.YtjmmmggnbndolaaGreat
