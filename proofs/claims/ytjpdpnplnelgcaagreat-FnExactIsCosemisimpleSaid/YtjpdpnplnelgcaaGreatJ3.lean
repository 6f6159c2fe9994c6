/- Law IsCosemisimple. -/
import Derived.Test.YtjpdpnplnelgcaaGreatJ1
import Derived.Test.YtjpdpnplnelgcaaGreatI4
namespace Go.Proofs.YtjpdpnplnelgcaaGreat
open Go.RowKit
set_option linter.unusedSimpArgs false
set_option linter.unusedVariables false
attribute [local irreducible] wpQuiet wpQE

set_option maxRecDepth 100000 in
set_option maxHeartbeats 1000000 in
theorem isCosemisimple_any (p : Int) (n : Nat) (f : Nat → Int) (w : World) (hF : Bytes 1104 f) (hc : hopfB p n f = true) :
    Calls Tryz.prog 55 #[.agg (hop p n f)] w fun e w' => e = .returned (.bool ((dotF 8 (coF (duF f)) (lefG p n (duF f)) % p) != 0)) ∧ Below w.heap.size w w' := by
 have HF := Lib.hid hF; clear hF
 have HO := Lib.hid (dual_intable hc HF.out)
 have hn := HO.out.le
 have Hs := Lib.hid (hopf_shape hc)
 go_enter Tryz.func55, Tryz.ntmps55
 go_wp2_with fail
 refine atomC fun W1 e1 => ?_
 have hb1 : Below w.heap.size w W1 := by rw [e1]; exact bt
 have q1 := hb1.size
 clear e1
 refine (dualHopf_any _ _ _ _ HF.out).mono ?_; rintro _ W2 ⟨rfl, hw2⟩
 obtain ⟨hb2, q2⟩ := bN hb1 hw2
 clear hw2 hb1
 go_wp2_with fail
 refine (isSemisimple_any p n (duF f) _ HO.out).mono ?_; rintro _ W3 ⟨rfl, hw3⟩
 obtain ⟨hb3, q3⟩ := bN hb2 hw3
 clear hw3 hb2
 go_wp2_with fail
 go_ret
 exact ⟨rfl, bt⟩

noncomputable def cosB (p n : Int) (f : Nat → Int) : Bool := hopfB p n f && (dotF 8 (coF (duF f)) (lefG p n.toNat (duF f)) % p != 0)
theorem cos_no {p n : Int} {f : Nat → Int} (h : hopfB p n f = false) : cosB p n f = false := by unfold cosB; rw [h]; rfl
theorem cos_yes {p : Int} {n : Nat} {f : Nat → Int} (h : hopfB p n f = true) : cosB p n f = (dotF 8 (coF (duF f)) (lefG p n (duF f)) % p != 0) := by unfold cosB; rw [h]; rfl

set_option maxRecDepth 100000 in
set_option maxHeartbeats 1000000 in
theorem ofHopf_cos (p n : Int) (f : Nat → Int) (w : World) (hF : Bytes 1104 f) :
    Calls Tryz.prog 47 #[.agg (hop p n f), .func (.func 55) #[] #[]] w fun e w' => e = .returned (.tuple #[.bool (cosB p n f), .int .i64 (codeB (hopfB p n f))]) ∧ Below w.heap.size w w' := by
 have HF := Lib.hid hF; clear hF
 cases hc : hopfB p n f
 ·
  have H := Lib.hid (cos_no hc)
  go_enter Tryz.func47, Tryz.ntmps47
  go_wp2_with fail
  refine atomC fun W1 e1 => ?_
  have hb1 : Below w.heap.size w W1 := by rw [e1]; exact bt
  have q1 := hb1.size
  have r2_1 : IsRow W1 (w.heap.size) := by rw [e1]; simp [go_sem]
  have c2_1 := congrArg (fun x => blk x (w.heap.size)) e1; simp [go_sem] at c2_1
  have z2_1 := isRow_lt r2_1
  clear e1
  refine (isHopf_any _ _ _ _ HF.out).mono ?_; rintro _ W2 ⟨rfl, hw2⟩
  obtain ⟨r2_2, c2_2, z2_2⟩ := keepZ hw2 z2_1 r2_1 c2_1
  obtain ⟨hb2, q2⟩ := bN hb1 hw2
  clear hw2 r2_1 c2_1 z2_1 hb1
  go_wp2_with fail
  go_ret2
  exact ⟨by rw [H.out]; rfl, bt⟩
 ·
  obtain ⟨hp2, hp31, hn1, hn8⟩ := sizes_range (hopf_sizes hc)
  obtain ⟨n, rfl⟩ := Int.eq_ofNat_of_zero_le (show 0 ≤ n by omega)
  have Hc := Lib.hid hc
  have hn : n ≤ 8 := by omega
  have HO := Lib.hid (dual_intable hc HF.out)
  have Hs := Lib.hid (hopf_shape hc)
  have H := Lib.hid (cos_yes hc)
  go_enter Tryz.func47, Tryz.ntmps47
  go_wp2_with fail
  refine atomC fun W3 e3 => ?_
  have hb3 : Below w.heap.size w W3 := by rw [e3]; exact bt
  have q3 := hb3.size
  have r2_3 : IsRow W3 (w.heap.size) := by rw [e3]; simp [go_sem]
  have c2_3 := congrArg (fun x => blk x (w.heap.size)) e3; simp [go_sem] at c2_3
  have z2_3 := isRow_lt r2_3
  clear e3
  refine (isHopf_any _ _ _ _ HF.out).mono ?_; rintro _ W4 ⟨rfl, hw4⟩
  obtain ⟨r2_4, c2_4, z2_4⟩ := keepZ hw4 z2_3 r2_3 c2_3
  obtain ⟨hb4, q4⟩ := bN hb3 hw4
  clear hw4 r2_3 c2_3 z2_3 hb3
  go_wp2_with fail
  refine (isCosemisimple_any p n f _ HF.out Hc.out).mono ?_; rintro _ W5 ⟨rfl, hw5⟩
  obtain ⟨hb5, q5⟩ := bN hb4 hw5
  clear hw5 hb4
  go_wp2_with fail
  go_ret2
  exact ⟨by rw [H.out]; rfl, bt⟩

set_option maxRecDepth 100000 in
set_option maxHeartbeats 1000000 in
theorem implCos_any (p n : Int) (f : Nat → Int) (w : World) (hF : Bytes 1104 f) :
    Calls Tryz.prog 29 #[.agg (hop p n f)] w fun e w' => e = .returned (.tuple #[.bool (cosB p n f), .int .i64 (codeB (hopfB p n f))]) ∧ Below w.heap.size w w' := by
 have HF := Lib.hid hF; clear hF
 go_enter Tryz.func29, Tryz.ntmps29
 go_wp2_with fail
 refine atomC fun W1 e1 => ?_
 have hb1 : Below w.heap.size w W1 := by rw [e1]; exact bt
 have q1 := hb1.size
 clear e1
 refine (ofHopf_cos _ _ _ _ HF.out).mono ?_; rintro _ W2 ⟨rfl, hw2⟩
 obtain ⟨hb2, q2⟩ := bN hb1 hw2
 clear hw2 hb1
 go_wp2_with fail
 go_ret2
 exact ⟨rfl, bt⟩

set_option maxRecDepth 100000 in
set_option maxHeartbeats 1000000 in
theorem specCos_any (p n : Int) (f : Nat → Int) (w : World) (hF : Bytes 1104 f) :
    Calls Tryz.prog 28 #[.agg (hop p n f)] w fun e w' => e = .returned (.tuple #[.bool (cosB p n f), .int .i64 (codeB (hopfB p n f))]) ∧ Below w.heap.size w w' := by
 have HF := Lib.hid hF; clear hF
 cases hc : hopfB p n f
 ·
  have H := Lib.hid (cos_no hc)
  go_enter Tryz.func28, Tryz.ntmps28
  go_wp2_with fail
  refine atomC fun W1 e1 => ?_
  have hb1 : Below w.heap.size w W1 := by rw [e1]; exact bt
  have q1 := hb1.size
  have r1_1 : IsRow W1 (w.heap.size) := by rw [e1]; simp [go_sem]
  have c1_1 := congrArg (fun x => blk x (w.heap.size)) e1; simp [go_sem] at c1_1
  have z1_1 := isRow_lt r1_1
  clear e1
  refine (l03Is_any _ _ _ _ HF.out).mono ?_; rintro _ W2 ⟨rfl, hw2⟩
  obtain ⟨r1_2, c1_2, z1_2⟩ := keepZ hw2 z1_1 r1_1 c1_1
  obtain ⟨hb2, q2⟩ := bN hb1 hw2
  clear hw2 r1_1 c1_1 z1_1 hb1
  go_wp2_with fail
  go_ret2
  exact ⟨by rw [H.out]; rfl, bt⟩
 ·
  obtain ⟨hp2, hp31, hn1, hn8⟩ := sizes_range (hopf_sizes hc)
  obtain ⟨n, rfl⟩ := Int.eq_ofNat_of_zero_le (show 0 ≤ n by omega)
  have Hc := Lib.hid hc
  have hn : n ≤ 8 := by omega
  have HO := Lib.hid (dual_intable hc HF.out)
  have Hs := Lib.hid (hopf_shape hc)
  have H := Lib.hid (cos_yes hc)
  go_enter Tryz.func28, Tryz.ntmps28
  go_wp2_with fail
  refine atomC fun W3 e3 => ?_
  have hb3 : Below w.heap.size w W3 := by rw [e3]; exact bt
  have q3 := hb3.size
  have r1_3 : IsRow W3 (w.heap.size) := by rw [e3]; simp [go_sem]
  have c1_3 := congrArg (fun x => blk x (w.heap.size)) e3; simp [go_sem] at c1_3
  have z1_3 := isRow_lt r1_3
  clear e3
  refine (l03Is_any _ _ _ _ HF.out).mono ?_; rintro _ W4 ⟨rfl, hw4⟩
  obtain ⟨r1_4, c1_4, z1_4⟩ := keepZ hw4 z1_3 r1_3 c1_3
  obtain ⟨hb4, q4⟩ := bN hb3 hw4
  clear hw4 r1_3 c1_3 z1_3 hb3
  go_wp2_with fail
  refine (l03Dual_any p n f _ hn HF.out Hs.out).mono ?_; rintro _ W5 ⟨rfl, hw5⟩
  obtain ⟨hb5, q5⟩ := bN hb4 hw5
  clear hw5 hb4
  go_wp2_with fail
  refine (l05Semisimple_any p n (duF f) _ HO.out).mono ?_; rintro _ W6 ⟨rfl, hw6⟩
  obtain ⟨hb6, q6⟩ := bN hb5 hw6
  clear hw6 hb5
  go_wp2_with fail
  go_ret2
  exact ⟨by rw [H.out]; rfl, bt⟩

set_option maxRecDepth 100000 in
set_option maxHeartbeats 2000000 in
theorem lawIsCosemisimple (fp fn : Int) (f : Nat → Int) (w : World) (_wfp : (Lit.int .i64 fp).wf = true) (_wfn : (Lit.int .i64 fn).wf = true) (hf : Bytes 1104 f) :
    Calls Tryz.prog 9 #[.agg (hop fp fn f)] w fun e w' => e = .returned (.bool true) ∧ Below w.heap.size w w' := by
 have Hf := Lib.hid hf; clear hf
 go_enter Tryz.func9, Tryz.ntmps9
 go_wp2_with fail
 refine atomC fun W1 e1 => ?_
 have hb1 : Below w.heap.size w W1 := by rw [e1]; exact bt
 have q1 := hb1.size
 have r1_1 : IsRow W1 (w.heap.size) := by rw [e1]; simp [go_sem]
 have c1_1 := congrArg (fun x => blk x (w.heap.size)) e1; simp [go_sem] at c1_1
 have z1_1 := isRow_lt r1_1
 clear e1
 refine (toHopf_any _ _ _ _).mono ?_; rintro _ W2 ⟨rfl, hw2⟩
 obtain ⟨r1_2, c1_2, z1_2⟩ := keepZ hw2 z1_1 r1_1 c1_1
 obtain ⟨hb2, q2⟩ := bN hb1 hw2
 clear hw2 r1_1 c1_1 z1_1 hb1
 go_wp2_with fail
 refine (specCos_any _ _ _ _ Hf.out).mono ?_; rintro _ W3 ⟨rfl, hw3⟩
 obtain ⟨r1_3, c1_3, z1_3⟩ := keepZ hw3 z1_2 r1_2 c1_2
 obtain ⟨hb3, q3⟩ := bN hb2 hw3
 clear hw3 r1_2 c1_2 z1_2 hb2
 go_wp2_with fail
 refine (toHopf_any _ _ _ _).mono ?_; rintro _ W4 ⟨rfl, hw4⟩
 obtain ⟨hb4, q4⟩ := bN hb3 hw4
 clear hw4 hb3
 go_wp2_with fail
 refine (implCos_any _ _ _ _ Hf.out).mono ?_; rintro _ W5 ⟨rfl, hw5⟩
 obtain ⟨hb5, q5⟩ := bN hb4 hw5
 clear hw5 hb4
 go_wp2_with fail
 go_ret
 exact ⟨rfl, bt⟩

end Go.Proofs.YtjpdpnplnelgcaaGreat
