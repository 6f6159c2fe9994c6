/- Law IsUnimodular. -/
import Derived.Test.YtjpdpnplnelgcaaGreatI3
namespace Go.Proofs.YtjpdpnplnelgcaaGreat
open Go.RowKit
set_option linter.unusedSimpArgs false
set_option linter.unusedVariables false
attribute [local irreducible] wpQuiet wpQE

set_option maxRecDepth 100000 in
set_option maxHeartbeats 1000000 in
theorem isUnimodular_any (p : Int) (n : Nat) (f : Nat → Int) (w : World) (HO : Intable p n f) (hr0 : 0 < telN p (rigS p n f)) :
    Calls Tryz.prog 48 #[.agg (hop p n f)] w fun e w' => e = .returned (.bool (segEq 0 8 (lefG p n f) (rigG p n f))) ∧ Below w.heap.size w w' := by
 have HO1 := Lib.hid HO; clear HO
 have H : Hid (segEq 0 8 (lefG p n f) (rigG p n f) = segEq 0 8 (lefG p n f) (rigG p n f)) := Lib.hid rfl
 go_enter Tryz.func48, Tryz.ntmps48
 go_wp2
 refine atomW fun W1 e1 => ?_
 have hb1 : Below w.heap.size w W1 := by rw [e1]; exact bt
 have q1 := hb1.size
 have r1_1 : IsRow W1 (w.heap.size) := by rw [e1]; simp [go_sem]
 have c1_1 := congrArg (fun x => blk x (w.heap.size)) e1; simp [go_sem] at c1_1
 have z1_1 := isRow_lt r1_1
 clear e1
 refine wp_quiet_all (Below W1.heap.size W1) (by kernel_rfl) (by kernel_rfl) (Below.refl _ _).drew ?_
 iterate 1 (refine q_plain rfl ?_; apply Exists.intro; refine ⟨fun W hW => ?_, ?_⟩; (focus (obtain ⟨x1, y1⟩ := keepB hW z1_1 r1_1 c1_1; go_simp; first | done | rfl)); simp only [Act.put, List.setIfInBounds_toArray, List.set_cons_zero, List.set_cons_succ])
 (refine q_plain rfl ?_; apply Exists.intro; refine ⟨fun W hW => ?_, ?_⟩; (focus (obtain ⟨x1, y1⟩ := keepB hW z1_1 r1_1 c1_1; go_simp; (go_at_call 45; exact (leftIntegral_any p n f _ HO1.out).mono fun e w2 ⟨he, hw2⟩ => ⟨he, hW.trans (hw2.mono hW.size)⟩))); simp only [Act.put, List.setIfInBounds_toArray, List.set_cons_zero, List.set_cons_succ])
 iterate 1 (refine q_plain rfl ?_; apply Exists.intro; refine ⟨fun W hW => ?_, ?_⟩; (focus (obtain ⟨x1, y1⟩ := keepB hW z1_1 r1_1 c1_1; go_simp; first | done | rfl)); simp only [Act.put, List.setIfInBounds_toArray, List.set_cons_zero, List.set_cons_succ])
 (refine q_plain rfl ?_; apply Exists.intro; refine ⟨fun W hW => ?_, ?_⟩; (focus (obtain ⟨x1, y1⟩ := keepB hW z1_1 r1_1 c1_1; go_simp; (go_at_call 46; exact (rightIntegral_any p n f _ HO1.out hr0).mono fun e w2 ⟨he, hw2⟩ => ⟨he, hW.trans (hw2.mono hW.size)⟩))); simp only [Act.put, List.setIfInBounds_toArray, List.set_cons_zero, List.set_cons_succ])
 iterate 2 (refine q_plain rfl ?_; apply Exists.intro; refine ⟨fun W hW => ?_, ?_⟩; (focus (obtain ⟨x1, y1⟩ := keepB hW z1_1 r1_1 c1_1; go_simp; first | done | rfl)); simp only [Act.put, List.setIfInBounds_toArray, List.set_cons_zero, List.set_cons_succ])
 refine wpQuiet_nil ?_
 intro W2 hw2
 obtain ⟨r1_2, c1_2, z1_2⟩ := keepZ hw2 z1_1 r1_1 c1_1
 obtain ⟨hb2, q2⟩ := bN hb1 hw2
 clear hw2 r1_1 c1_1 z1_1 hb1
 go_wp2_with fail
 go_ret
 exact ⟨rfl, bt⟩

noncomputable def uniB (p n : Int) (f : Nat → Int) : Bool := hopfB p n f && segEq 0 8 (lefG p n.toNat f) (rigG p n.toNat f)
theorem uni_no {p n : Int} {f : Nat → Int} (h : hopfB p n f = false) : uniB p n f = false := by unfold uniB; rw [h]; rfl
theorem uni_yes {p : Int} {n : Nat} {f : Nat → Int} (h : hopfB p n f = true) : uniB p n f = segEq 0 8 (lefG p n f) (rigG p n f) := by unfold uniB; rw [h]; rfl

set_option maxRecDepth 100000 in
set_option maxHeartbeats 1000000 in
theorem ofHopf_uni (p n : Int) (f : Nat → Int) (w : World) (hF : Bytes 1104 f) :
    Calls Tryz.prog 47 #[.agg (hop p n f), .func (.func 48) #[] #[]] w fun e w' => e = .returned (.tuple #[.bool (uniB p n f), .int .i64 (codeB (hopfB p n f))]) ∧ Below w.heap.size w w' := by
 have HF := Lib.hid hF; clear hF
 cases hc : hopfB p n f
 ·
  have H := Lib.hid (uni_no hc)
  go_enter Tryz.func47, Tryz.ntmps47
  go_wp2_with fail
  refine atomC fun W1 e1 => ?_
  have hb1 : Below w.heap.size w W1 := by rw [e1]; exact bt
  have q1 := hb1.size
  have r2_1 : IsRow W1 (w.heap.size) := by rw [e1]; simp [go_sem]
  have c2_1 := congrArg (fun x => blk x (w.heap.size)) e1; simp [go_sem] at c2_1
  have z2_1 := isRow_lt r2_1
  clear e1
  refine (isHopf_any _ _ _ _ HF.out).mono ?_; rintro _ W2 ⟨rfl, hw2⟩
  obtain ⟨r2_2, c2_2, z2_2⟩ := keepZ hw2 z2_1 r2_1 c2_1
  obtain ⟨hb2, q2⟩ := bN hb1 hw2
  clear hw2 r2_1 c2_1 z2_1 hb1
  go_wp2_with fail
  go_ret2
  exact ⟨by rw [H.out]; rfl, bt⟩
 ·
  obtain ⟨hp2, hp31, hn1, hn8⟩ := sizes_range (hopf_sizes hc)
  obtain ⟨n, rfl⟩ := Int.eq_ofNat_of_zero_le (show 0 ≤ n by omega)
  have HO := Lib.hid (hopf_intable hc HF.out)
  have hr0 := hopf_right hc
  have H := Lib.hid (uni_yes hc)
  go_enter Tryz.func47, Tryz.ntmps47
  go_wp2_with fail
  refine atomC fun W3 e3 => ?_
  have hb3 : Below w.heap.size w W3 := by rw [e3]; exact bt
  have q3 := hb3.size
  have r2_3 : IsRow W3 (w.heap.size) := by rw [e3]; simp [go_sem]
  have c2_3 := congrArg (fun x => blk x (w.heap.size)) e3; simp [go_sem] at c2_3
  have z2_3 := isRow_lt r2_3
  clear e3
  refine (isHopf_any _ _ _ _ HF.out).mono ?_; rintro _ W4 ⟨rfl, hw4⟩
  obtain ⟨r2_4, c2_4, z2_4⟩ := keepZ hw4 z2_3 r2_3 c2_3
  obtain ⟨hb4, q4⟩ := bN hb3 hw4
  clear hw4 r2_3 c2_3 z2_3 hb3
  go_wp2_with fail
  refine (isUnimodular_any p n f _ HO.out hr0).mono ?_; rintro _ W5 ⟨rfl, hw5⟩
  obtain ⟨hb5, q5⟩ := bN hb4 hw5
  clear hw5 hb4
  go_wp2_with fail
  go_ret2
  exact ⟨by rw [H.out]; rfl, bt⟩

set_option maxRecDepth 100000 in
set_option maxHeartbeats 1000000 in
theorem implUni_any (p n : Int) (f : Nat → Int) (w : World) (hF : Bytes 1104 f) :
    Calls Tryz.prog 21 #[.agg (hop p n f)] w fun e w' => e = .returned (.tuple #[.bool (uniB p n f), .int .i64 (codeB (hopfB p n f))]) ∧ Below w.heap.size w w' := by
 have HF := Lib.hid hF; clear hF
 go_enter Tryz.func21, Tryz.ntmps21
 go_wp2_with fail
 refine atomC fun W1 e1 => ?_
 have hb1 : Below w.heap.size w W1 := by rw [e1]; exact bt
 have q1 := hb1.size
 clear e1
 refine (ofHopf_uni _ _ _ _ HF.out).mono ?_; rintro _ W2 ⟨rfl, hw2⟩
 obtain ⟨hb2, q2⟩ := bN hb1 hw2
 clear hw2 hb1
 go_wp2_with fail
 go_ret2
 exact ⟨rfl, bt⟩

set_option maxRecDepth 100000 in
set_option maxHeartbeats 1000000 in
theorem specUni_any (p n : Int) (f : Nat → Int) (w : World) (hF : Bytes 1104 f) :
    Calls Tryz.prog 20 #[.agg (hop p n f)] w fun e w' => e = .returned (.tuple #[.bool (uniB p n f), .int .i64 (codeB (hopfB p n f))]) ∧ Below w.heap.size w w' := by
 have HF := Lib.hid hF; clear hF
 cases hc : hopfB p n f
 ·
  have H := Lib.hid (uni_no hc)
  go_enter Tryz.func20, Tryz.ntmps20
  go_wp2_with fail
  refine atomC fun W1 e1 => ?_
  have hb1 : Below w.heap.size w W1 := by rw [e1]; exact bt
  have q1 := hb1.size
  have r1_1 : IsRow W1 (w.heap.size) := by rw [e1]; simp [go_sem]
  have c1_1 := congrArg (fun x => blk x (w.heap.size)) e1; simp [go_sem] at c1_1
  have z1_1 := isRow_lt r1_1
  clear e1
  refine (l03Is_any _ _ _ _ HF.out).mono ?_; rintro _ W2 ⟨rfl, hw2⟩
  obtain ⟨r1_2, c1_2, z1_2⟩ := keepZ hw2 z1_1 r1_1 c1_1
  obtain ⟨hb2, q2⟩ := bN hb1 hw2
  clear hw2 r1_1 c1_1 z1_1 hb1
  go_wp2_with fail
  go_ret2
  exact ⟨by rw [H.out]; rfl, bt⟩
 ·
  obtain ⟨hp2, hp31, hn1, hn8⟩ := sizes_range (hopf_sizes hc)
  obtain ⟨n, rfl⟩ := Int.eq_ofNat_of_zero_le (show 0 ≤ n by omega)
  have HO := Lib.hid (hopf_intable hc HF.out)
  have hr0 := hopf_right hc
  have H := Lib.hid (uni_yes hc)
  go_enter Tryz.func20, Tryz.ntmps20
  go_wp2_with fail
  refine atomC fun W3 e3 => ?_
  have hb3 : Below w.heap.size w W3 := by rw [e3]; exact bt
  have q3 := hb3.size
  have r1_3 : IsRow W3 (w.heap.size) := by rw [e3]; simp [go_sem]
  have c1_3 := congrArg (fun x => blk x (w.heap.size)) e3; simp [go_sem] at c1_3
  have z1_3 := isRow_lt r1_3
  clear e3
  refine (l03Is_any _ _ _ _ HF.out).mono ?_; rintro _ W4 ⟨rfl, hw4⟩
  obtain ⟨r1_4, c1_4, z1_4⟩ := keepZ hw4 z1_3 r1_3 c1_3
  obtain ⟨hb4, q4⟩ := bN hb3 hw4
  clear hw4 r1_3 c1_3 z1_3 hb3
  go_wp2
  refine wp_quiet_all (Below W4.heap.size W4) (by kernel_rfl) (by kernel_rfl) (Below.refl _ _).drew ?_
  iterate 1 (refine q_plain rfl ?_; apply Exists.intro; refine ⟨fun W hW => ?_, ?_⟩; (focus (obtain ⟨x1, y1⟩ := keepB hW z1_4 r1_4 c1_4; go_simp; first | done | rfl)); simp only [Act.put, List.setIfInBounds_toArray, List.set_cons_zero, List.set_cons_succ])
  (refine q_plain rfl ?_; apply Exists.intro; refine ⟨fun W hW => ?_, ?_⟩; (focus (obtain ⟨x1, y1⟩ := keepB hW z1_4 r1_4 c1_4; go_simp; (go_at_call 40; exact (l05Left_lef p n f _ HO.out).mono fun e w2 ⟨he, hw2⟩ => ⟨he, hW.trans (hw2.mono hW.size)⟩))); simp only [Act.put, List.setIfInBounds_toArray, List.set_cons_zero, List.set_cons_succ])
  iterate 1 (refine q_plain rfl ?_; apply Exists.intro; refine ⟨fun W hW => ?_, ?_⟩; (focus (obtain ⟨x1, y1⟩ := keepB hW z1_4 r1_4 c1_4; go_simp; first | done | rfl)); simp only [Act.put, List.setIfInBounds_toArray, List.set_cons_zero, List.set_cons_succ])
  (refine q_plain rfl ?_; apply Exists.intro; refine ⟨fun W hW => ?_, ?_⟩; (focus (obtain ⟨x1, y1⟩ := keepB hW z1_4 r1_4 c1_4; go_simp; (go_at_call 40; exact (l05Left_rig p n f _ HO.out hr0).mono fun e w2 ⟨he, hw2⟩ => ⟨he, hW.trans (hw2.mono hW.size)⟩))); simp only [Act.put, List.setIfInBounds_toArray, List.set_cons_zero, List.set_cons_succ])
  iterate 3 (refine q_plain rfl ?_; apply Exists.intro; refine ⟨fun W hW => ?_, ?_⟩; (focus (obtain ⟨x1, y1⟩ := keepB hW z1_4 r1_4 c1_4; go_simp; first | done | rfl)); simp only [Act.put, List.setIfInBounds_toArray, List.set_cons_zero, List.set_cons_succ])
  refine wpQuiet_nil ?_
  intro W5 hw5
  obtain ⟨r1_5, c1_5, z1_5⟩ := keepZ hw5 z1_4 r1_4 c1_4
  obtain ⟨hb5, q5⟩ := bN hb4 hw5
  clear hw5 r1_4 c1_4 z1_4 hb4
  go_wp2_with fail
  go_ret2
  exact ⟨by rw [H.out]; rfl, bt⟩

set_option maxRecDepth 100000 in
set_option maxHeartbeats 2000000 in
theorem lawIsUnimodular (fp fn : Int) (f : Nat → Int) (w : World) (_wfp : (Lit.int .i64 fp).wf = true) (_wfn : (Lit.int .i64 fn).wf = true) (hf : Bytes 1104 f) :
    Calls Tryz.prog 5 #[.agg (hop fp fn f)] w fun e w' => e = .returned (.bool true) ∧ Below w.heap.size w w' := by
 have Hf := Lib.hid hf; clear hf
 go_enter Tryz.func5, Tryz.ntmps5
 go_wp2_with fail
 refine atomC fun W1 e1 => ?_
 have hb1 : Below w.heap.size w W1 := by rw [e1]; exact bt
 have q1 := hb1.size
 have r1_1 : IsRow W1 (w.heap.size) := by rw [e1]; simp [go_sem]
 have c1_1 := congrArg (fun x => blk x (w.heap.size)) e1; simp [go_sem] at c1_1
 have z1_1 := isRow_lt r1_1
 clear e1
 refine (toHopf_any _ _ _ _).mono ?_; rintro _ W2 ⟨rfl, hw2⟩
 obtain ⟨r1_2, c1_2, z1_2⟩ := keepZ hw2 z1_1 r1_1 c1_1
 obtain ⟨hb2, q2⟩ := bN hb1 hw2
 clear hw2 r1_1 c1_1 z1_1 hb1
 go_wp2_with fail
 refine (specUni_any _ _ _ _ Hf.out).mono ?_; rintro _ W3 ⟨rfl, hw3⟩
 obtain ⟨r1_3, c1_3, z1_3⟩ := keepZ hw3 z1_2 r1_2 c1_2
 obtain ⟨hb3, q3⟩ := bN hb2 hw3
 clear hw3 r1_2 c1_2 z1_2 hb2
 go_wp2_with fail
 refine (toHopf_any _ _ _ _).mono ?_; rintro _ W4 ⟨rfl, hw4⟩
 obtain ⟨hb4, q4⟩ := bN hb3 hw4
 clear hw4 hb3
 go_wp2_with fail
 refine (implUni_any _ _ _ _ Hf.out).mono ?_; rintro _ W5 ⟨rfl, hw5⟩
 obtain ⟨hb5, q5⟩ := bN hb4 hw5
 clear hw5 hb4
 go_wp2_with fail
 go_ret
 exact ⟨rfl, bt⟩

end Go.Proofs.YtjpdpnplnelgcaaGreat
