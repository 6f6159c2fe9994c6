/- Cointegrals. -/
import Derived.Test.YtjpdpnplnelgcaaGreatJ1
namespace Go.Proofs.YtjpdpnplnelgcaaGreat
open Go.RowKit
set_option linter.unusedSimpArgs false
set_option linter.unusedVariables false
attribute [local irreducible] wpQuiet wpQE

set_option maxRecDepth 100000 in
set_option maxHeartbeats 1000000 in
theorem cointegral_any (p : Int) (n : Nat) (f : Nat → Int) (w : World) (hF : Bytes 1104 f) (hc : hopfB p n f = true) :
    Calls Tryz.prog 63 #[.agg (hop p n f)] w fun e w' => e = .returned (.agg (row 8 (lefG p n (duF f)))) ∧ Below w.heap.size w w' := by
 have HF := Lib.hid hF; clear hF
 have HO := Lib.hid (dual_intable hc HF.out)
 have hn := HO.out.le
 have Hs := Lib.hid (hopf_shape hc)
 go_enter Tryz.func63, Tryz.ntmps63
 go_wp2_with fail
 refine atomC fun W1 e1 => ?_
 have hb1 : Below w.heap.size w W1 := by rw [e1]; exact bt
 have q1 := hb1.size
 have r2_1 : IsRow W1 (w.heap.size + 1) := by rw [e1]; simp [go_sem]
 have c2_1 := congrArg (fun x => blk x (w.heap.size + 1)) e1; simp [go_sem] at c2_1
 have z2_1 := isRow_lt r2_1
 clear e1
 refine (dualHopf_any _ _ _ _ HF.out).mono ?_; rintro _ W2 ⟨rfl, hw2⟩
 obtain ⟨r2_2, c2_2, z2_2⟩ := keepZ hw2 z2_1 r2_1 c2_1
 obtain ⟨hb2, q2⟩ := bN hb1 hw2
 clear hw2 r2_1 c2_1 z2_1 hb1
 go_wp2_with fail
 refine (leftIntegral_any p n (duF f) _ HO.out).mono ?_; rintro _ W3 ⟨rfl, hw3⟩
 obtain ⟨r2_3, c2_3, z2_3⟩ := keepZ hw3 z2_2 r2_2 c2_2
 obtain ⟨hb3, q3⟩ := bN hb2 hw3
 clear hw3 r2_2 c2_2 z2_2 hb2
 go_wp2_with fail
 refine bodyPost_ret (result_cell rfl aggVec _ _ (row 8 (lefG p n (duF f))) _ rfl ?_ ?_) rfl ⟨rfl, ?_⟩
 · simp [go_sem, r2_3, c2_3]
 · simp [go_sem, r2_3, c2_3]
 · exact bt

set_option maxRecDepth 100000 in
set_option maxHeartbeats 1000000 in
theorem l05Cointegral_any (p : Int) (n : Nat) (f : Nat → Int) (w : World) (hF : Bytes 1104 f) (hc : hopfB p n f = true) :
    Calls Tryz.prog 62 #[.agg (hop p n f)] w fun e w' => e = .returned (.agg (row 8 (lefG p n (duF f)))) ∧ Below w.heap.size w w' := by
 have HF := Lib.hid hF; clear hF
 have HO := Lib.hid (dual_intable hc HF.out)
 have hn := HO.out.le
 have Hs := Lib.hid (hopf_shape hc)
 go_enter Tryz.func62, Tryz.ntmps62
 go_wp2_with fail
 refine atomC fun W1 e1 => ?_
 have hb1 : Below w.heap.size w W1 := by rw [e1]; exact bt
 have q1 := hb1.size
 have r2_1 : IsRow W1 (w.heap.size + 1) := by rw [e1]; simp [go_sem]
 have c2_1 := congrArg (fun x => blk x (w.heap.size + 1)) e1; simp [go_sem] at c2_1
 have z2_1 := isRow_lt r2_1
 clear e1
 refine (l03Dual_any p n f _ hn HF.out Hs.out).mono ?_; rintro _ W2 ⟨rfl, hw2⟩
 obtain ⟨r2_2, c2_2, z2_2⟩ := keepZ hw2 z2_1 r2_1 c2_1
 obtain ⟨hb2, q2⟩ := bN hb1 hw2
 clear hw2 r2_1 c2_1 z2_1 hb1
 go_wp2_with fail
 refine (l05Left_lef p n (duF f) _ HO.out).mono ?_; rintro _ W3 ⟨rfl, hw3⟩
 obtain ⟨r2_3, c2_3, z2_3⟩ := keepZ hw3 z2_2 r2_2 c2_2
 obtain ⟨hb3, q3⟩ := bN hb2 hw3
 clear hw3 r2_2 c2_2 z2_2 hb2
 go_wp2_with fail
 refine bodyPost_ret (result_cell rfl aggVec _ _ (row 8 (lefG p n (duF f))) _ rfl ?_ ?_) rfl ⟨rfl, ?_⟩
 · simp [go_sem, r2_3, c2_3]
 · simp [go_sem, r2_3, c2_3]
 · exact bt

end Go.Proofs.YtjpdpnplnelgcaaGreat
