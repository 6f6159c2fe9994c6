/- What Hopf algebras have of algebras and coalgebras, their shape; pairs of vectors, unit maps, linear maps one after the other. -/
import Derived.Test.YtnjjcimpcnennaaHop
import Derived.Test.YtnjjcimpcnennaaQ7
namespace Go.Proofs.Ytnjjcimpcnennaa
open Go.RowKit
set_option linter.unusedSimpArgs false
set_option linter.unusedVariables false
attribute [local irreducible] wpQuiet wpQE

/-- p, n, f is shaped -/
def shapeH (p n : Int) (f : Nat → Int) : Bool := (shapeB p n f && shapeB p n (coF f)) && linB p n (anF f)
theorem lin_sizes {p n : Int} {f F : Nat → Int} (h : shapeB p n f = true) : (sizesB p n && linB p n F) = linB p n F := by rw [(shape_parts h).1, Bool.true_and]
theorem shapeH_parts {p n : Int} {f : Nat → Int} (h : shapeH p n f = true) : shapeB p n f = true ∧ shapeB p n (coF f) = true ∧ linB p n (anF f) = true := by
  unfold shapeH at h
  simp only [Bool.and_eq_true] at h
  exact ⟨h.1.1, h.1.2, h.2⟩

set_option maxRecDepth 100000 in
set_option maxHeartbeats 1000000 in
theorem algebraOf_any (p n : Int) (f : Nat → Int) (w : World)  :
    Calls Try.prog 41 #[.agg (hop p n f)] w fun e w' => e = .returned (.agg (alg p n f)) ∧ Below w.heap.size w w' := by
  go_enter Try.func41, Try.ntmps41
  go_wp2_with fail
  refine bodyPost_ret (result_cell rfl aggAlg _ _ (alg p n (joinUT f (tab f))) _ rfl ?_ ?_) rfl ⟨by rw [join_self], ?_⟩
  · simp [go_sem]
  · simp [go_sem]
  · repeat (first | exact Below.refl _ _ | refine Below.alloc ?_ (by first | omega | (simp; try omega)) _ | refine below_setRow ?_ (by omega) _ | refine Below.drew ?_)

set_option maxRecDepth 100000 in
set_option maxHeartbeats 1000000 in
theorem l03Algebra_any (p n : Int) (f : Nat → Int) (w : World)  :
    Calls Try.prog 40 #[.agg (hop p n f)] w fun e w' => e = .returned (.agg (alg p n f)) ∧ Below w.heap.size w w' := by
  go_enter Try.func40, Try.ntmps40
  go_wp2_with fail
  refine bodyPost_ret (result_cell rfl aggAlg _ _ (alg p n (joinUT f (tab f))) _ rfl ?_ ?_) rfl ⟨by rw [join_self], ?_⟩
  · simp [go_sem]
  · simp [go_sem]
  · repeat (first | exact Below.refl _ _ | refine Below.alloc ?_ (by first | omega | (simp; try omega)) _ | refine below_setRow ?_ (by omega) _ | refine Below.drew ?_)

set_option maxRecDepth 100000 in
set_option maxHeartbeats 1000000 in
theorem coalgebraOf_any (p n : Int) (f : Nat → Int) (w : World)  :
    Calls Try.prog 44 #[.agg (hop p n f)] w fun e w' => e = .returned (.agg (alg p n (coF f))) ∧ Below w.heap.size w w' := by
  go_enter Try.func44, Try.ntmps44
  go_wp2_with fail
  refine bodyPost_ret (result_cell rfl aggCoa _ _ (alg p n (joinUT (coF f) (tab (coF f)))) _ rfl ?_ ?_) rfl ⟨by rw [join_self], ?_⟩
  · simp [go_sem]
  · simp [go_sem]
  · repeat (first | exact Below.refl _ _ | refine Below.alloc ?_ (by first | omega | (simp; try omega)) _ | refine below_setRow ?_ (by omega) _ | refine Below.drew ?_)

set_option maxRecDepth 100000 in
set_option maxHeartbeats 1000000 in
theorem l03Coalgebra_any (p n : Int) (f : Nat → Int) (w : World)  :
    Calls Try.prog 43 #[.agg (hop p n f)] w fun e w' => e = .returned (.agg (alg p n (coF f))) ∧ Below w.heap.size w w' := by
  go_enter Try.func43, Try.ntmps43
  go_wp2_with fail
  refine bodyPost_ret (result_cell rfl aggCoa _ _ (alg p n (joinUT (coF f) (tab (coF f)))) _ rfl ?_ ?_) rfl ⟨by rw [join_self], ?_⟩
  · simp [go_sem]
  · simp [go_sem]
  · repeat (first | exact Below.refl _ _ | refine Below.alloc ?_ (by first | omega | (simp; try omega)) _ | refine below_setRow ?_ (by omega) _ | refine Below.drew ?_)

set_option maxRecDepth 100000 in
set_option maxHeartbeats 1000000 in
theorem isShapedHopf_any (p n : Int) (f : Nat → Int) (w : World) (hF : Bytes 1104 f) :
    Calls Try.prog 36 #[.agg (hop p n f)] w fun e w' => e = .returned (.bool (shapeH p n f)) ∧ Below w.heap.size w w' := by
  have HF := Lib.hid hF; clear hF
  have HA : Hid (Bytes 520 f) := Lib.hid (hop_bytes HF.out)
  have HC : Hid (Bytes 520 (coF f)) := Lib.hid (co_bytes HF.out)
  have HS : Hid (Bytes 64 (anF f)) := Lib.hid (an_bytes HF.out)
  have H : Hid (shapeH p n f = ((shapeB p n f && shapeB p n (coF f)) && linB p n (anF f))) := Lib.hid rfl
  cases h1 : shapeB p n f
  · skip
    go_enter Try.func36, Try.ntmps36
    go_wp2_with fail
    refine atomC fun W1 e1 => ?_
    have hb1 : Below w.heap.size w W1 := by rw [e1]; (repeat (first | exact Below.refl _ _ | refine Below.alloc ?_ (by first | omega | (simp; try omega)) _ | refine below_setRow ?_ (by omega) _ | refine Below.drew ?_))
    have q1 := hb1.size
    have r1_1 : IsRow W1 (w.heap.size) := by rw [e1]; simp [go_sem]
    have c1_1 := congrArg (fun x => blk x (w.heap.size)) e1; simp [go_sem] at c1_1
    have z1_1 := isRow_lt r1_1
    clear e1
    refine (algebraOf_any _ _ _ _).mono ?_; rintro _ W2 ⟨rfl, hw2⟩
    obtain ⟨r1_2, c1_2⟩ := keepB hw2 z1_1 r1_1 c1_1
    have z1_2 := isRow_lt r1_2
    have hb2 := hb1.trans (hw2.mono hb1.size)
    have q2 := hb2.size
    clear hw2 r1_1 c1_1 z1_1 hb1
    go_wp2_with fail
    refine (isShaped_any _ _ _ _ HA.out).mono ?_; rintro _ W3 ⟨rfl, hw3⟩
    obtain ⟨r1_3, c1_3⟩ := keepB hw3 z1_2 r1_2 c1_2
    have z1_3 := isRow_lt r1_3
    have hb3 := hb2.trans (hw3.mono hb2.size)
    have q3 := hb3.size
    clear hw3 r1_2 c1_2 z1_2 hb2
    go_wp2_with fail
    go_ret
    exact ⟨ret_bool (by rw [H.out, h1] <;> rfl), (by (repeat (first | exact hb3 | exact Below.refl _ _ | refine Below.alloc ?_ (by first | omega | (simp; try omega)) _ | refine below_setRow ?_ (by omega) _ | refine Below.drew ?_)))⟩
  · skip
    cases h2 : shapeB p n (coF f)
    · skip
      go_enter Try.func36, Try.ntmps36
      go_wp2_with fail
      refine atomC fun W4 e4 => ?_
      have hb4 : Below w.heap.size w W4 := by rw [e4]; (repeat (first | exact Below.refl _ _ | refine Below.alloc ?_ (by first | omega | (simp; try omega)) _ | refine below_setRow ?_ (by omega) _ | refine Below.drew ?_))
      have q4 := hb4.size
      have r1_4 : IsRow W4 (w.heap.size) := by rw [e4]; simp [go_sem]
      have c1_4 := congrArg (fun x => blk x (w.heap.size)) e4; simp [go_sem] at c1_4
      have z1_4 := isRow_lt r1_4
      clear e4
      refine (algebraOf_any _ _ _ _).mono ?_; rintro _ W5 ⟨rfl, hw5⟩
      obtain ⟨r1_5, c1_5⟩ := keepB hw5 z1_4 r1_4 c1_4
      have z1_5 := isRow_lt r1_5
      have hb5 := hb4.trans (hw5.mono hb4.size)
      have q5 := hb5.size
      clear hw5 r1_4 c1_4 z1_4 hb4
      go_wp2_with fail
      refine (isShaped_any _ _ _ _ HA.out).mono ?_; rintro _ W6 ⟨rfl, hw6⟩
      obtain ⟨r1_6, c1_6⟩ := keepB hw6 z1_5 r1_5 c1_5
      have z1_6 := isRow_lt r1_6
      have hb6 := hb5.trans (hw6.mono hb5.size)
      have q6 := hb6.size
      clear hw6 r1_5 c1_5 z1_5 hb5
      go_wp2_with fail
      refine (coalgebraOf_any _ _ _ _).mono ?_; rintro _ W7 ⟨rfl, hw7⟩
      obtain ⟨r1_7, c1_7⟩ := keepB hw7 z1_6 r1_6 c1_6
      have z1_7 := isRow_lt r1_7
      have hb7 := hb6.trans (hw7.mono hb6.size)
      have q7 := hb7.size
      clear hw7 r1_6 c1_6 z1_6 hb6
      go_wp2_with fail
      refine (isShapedCo_any _ _ _ _ HC.out).mono ?_; rintro _ W8 ⟨rfl, hw8⟩
      obtain ⟨r1_8, c1_8⟩ := keepB hw8 z1_7 r1_7 c1_7
      have z1_8 := isRow_lt r1_8
      have hb8 := hb7.trans (hw8.mono hb7.size)
      have q8 := hb8.size
      clear hw8 r1_7 c1_7 z1_7 hb7
      go_wp2_with fail
      go_ret
      exact ⟨ret_bool (by rw [H.out, h1, h2] <;> rfl), (by (repeat (first | exact hb8 | exact Below.refl _ _ | refine Below.alloc ?_ (by first | omega | (simp; try omega)) _ | refine below_setRow ?_ (by omega) _ | refine Below.drew ?_)))⟩
    · skip
      have HL := Lib.hid (lin_sizes (F := anF f) h1)
      go_enter Try.func36, Try.ntmps36
      go_wp2_with fail
      refine atomC fun W9 e9 => ?_
      have hb9 : Below w.heap.size w W9 := by rw [e9]; (repeat (first | exact Below.refl _ _ | refine Below.alloc ?_ (by first | omega | (simp; try omega)) _ | refine below_setRow ?_ (by omega) _ | refine Below.drew ?_))
      have q9 := hb9.size
      have r1_9 : IsRow W9 (w.heap.size) := by rw [e9]; simp [go_sem]
      have c1_9 := congrArg (fun x => blk x (w.heap.size)) e9; simp [go_sem] at c1_9
      have z1_9 := isRow_lt r1_9
      clear e9
      refine (algebraOf_any _ _ _ _).mono ?_; rintro _ W10 ⟨rfl, hw10⟩
      obtain ⟨r1_10, c1_10⟩ := keepB hw10 z1_9 r1_9 c1_9
      have z1_10 := isRow_lt r1_10
      have hb10 := hb9.trans (hw10.mono hb9.size)
      have q10 := hb10.size
      clear hw10 r1_9 c1_9 z1_9 hb9
      go_wp2_with fail
      refine (isShaped_any _ _ _ _ HA.out).mono ?_; rintro _ W11 ⟨rfl, hw11⟩
      obtain ⟨r1_11, c1_11⟩ := keepB hw11 z1_10 r1_10 c1_10
      have z1_11 := isRow_lt r1_11
      have hb11 := hb10.trans (hw11.mono hb10.size)
      have q11 := hb11.size
      clear hw11 r1_10 c1_10 z1_10 hb10
      go_wp2_with fail
      refine (coalgebraOf_any _ _ _ _).mono ?_; rintro _ W12 ⟨rfl, hw12⟩
      obtain ⟨r1_12, c1_12⟩ := keepB hw12 z1_11 r1_11 c1_11
      have z1_12 := isRow_lt r1_12
      have hb12 := hb11.trans (hw12.mono hb11.size)
      have q12 := hb12.size
      clear hw12 r1_11 c1_11 z1_11 hb11
      go_wp2_with fail
      refine (isShapedCo_any _ _ _ _ HC.out).mono ?_; rintro _ W13 ⟨rfl, hw13⟩
      obtain ⟨r1_13, c1_13⟩ := keepB hw13 z1_12 r1_12 c1_12
      have z1_13 := isRow_lt r1_13
      have hb13 := hb12.trans (hw13.mono hb12.size)
      have q13 := hb13.size
      clear hw13 r1_12 c1_12 z1_12 hb12
      go_wp2_with fail
      refine (isLinear_any _ _ _ _ HS.out).mono ?_; rintro _ W14 ⟨rfl, hw14⟩
      have hb14 := hb13.trans (hw14.mono hb13.size)
      have q14 := hb14.size
      clear hw14 hb13
      go_wp2_with fail
      go_ret
      exact ⟨ret_bool (by rw [H.out, h1, h2, HL.out] <;> rfl), (by (repeat (first | exact hb14 | exact Below.refl _ _ | refine Below.alloc ?_ (by first | omega | (simp; try omega)) _ | refine below_setRow ?_ (by omega) _ | refine Below.drew ?_)))⟩

theorem shapeH_spec (p n : Int) (f : Nat → Int) : shapeH p n f = (((shapeB p n f && vecB p n (coF f)) && tabB p n (tab (coF f))) && linB p n (anF f)) := by
  unfold shapeH
  cases h : shapeB p n f
  · rfl
  · have := (shape_parts h).1
    rw [show shapeB p n (coF f) = (sizesB p n && (vecB p n (coF f) && tabB p n (tab (coF f)))) from rfl, this]
    cases vecB p n (coF f) <;> cases tabB p n (tab (coF f)) <;> rfl
theorem co_unit {f : Nat → Int} (h : Bytes 1104 f) : Bytes 8 (coF f) := unit_bytes (co_bytes h)
theorem co_tab {f : Nat → Int} (h : Bytes 1104 f) : Bytes 512 (tab (coF f)) := tab_bytes (co_bytes h)

set_option maxRecDepth 100000 in
set_option maxHeartbeats 1000000 in
theorem l03Shape_any (p n : Int) (f : Nat → Int) (w : World) (hF : Bytes 1104 f) :
    Calls Try.prog 38 #[.agg (hop p n f)] w fun e w' => e = .returned (.bool (shapeH p n f)) ∧ Below w.heap.size w w' := by
  have HF := Lib.hid hF; clear hF
  have HA : Hid (Bytes 520 f) := Lib.hid (hop_bytes HF.out)
  have HC : Hid (Bytes 520 (coF f)) := Lib.hid (co_bytes HF.out)
  have HS : Hid (Bytes 64 (anF f)) := Lib.hid (an_bytes HF.out)
  have HU : Hid (Bytes 8 (coF f)) := Lib.hid (co_unit HF.out)
  have HT : Hid (Bytes 512 (tab (coF f))) := Lib.hid (co_tab HF.out)
  have H := Lib.hid (shapeH_spec p n f)
  cases h1 : shapeB p n f
  · skip
    go_enter Try.func38, Try.ntmps38
    go_wp2
    refine atomW fun W1 e1 => ?_
    have hb1 : Below w.heap.size w W1 := by rw [e1]; (repeat (first | exact Below.refl _ _ | refine Below.alloc ?_ (by first | omega | (simp; try omega)) _ | refine below_setRow ?_ (by omega) _ | refine Below.drew ?_))
    have q1 := hb1.size
    have r1_1 : IsRow W1 (w.heap.size) := by rw [e1]; simp [go_sem]
    have c1_1 := congrArg (fun x => blk x (w.heap.size)) e1; simp [go_sem] at c1_1
    have z1_1 := isRow_lt r1_1
    clear e1
    refine wp_quiet_all (Below W1.heap.size W1) (by kernel_rfl) (by kernel_rfl) (Below.refl _ _).drew ?_
    iterate 6 (refine q_plain rfl ?_; apply Exists.intro; refine ⟨fun W hW => ?_, ?_⟩; (focus (obtain ⟨x1, y1⟩ := keepB hW z1_1 r1_1 c1_1; go_simp; first | done | rfl)); simp only [Act.put, List.setIfInBounds_toArray, List.set_cons_zero, List.set_cons_succ])
    refine wpQuiet_nil ?_
    intro W2 hw2
    obtain ⟨r1_2, c1_2⟩ := keepB hw2 z1_1 r1_1 c1_1
    have z1_2 := isRow_lt r1_2
    have hb2 := hb1.trans (hw2.mono hb1.size)
    have q2 := hb2.size
    clear hw2 r1_1 c1_1 z1_1 hb1
    go_wp2_with fail
    refine (l03Algebra_any _ _ _ _).mono ?_; rintro _ W3 ⟨rfl, hw3⟩
    obtain ⟨r1_3, c1_3⟩ := keepB hw3 z1_2 r1_2 c1_2
    have z1_3 := isRow_lt r1_3
    have hb3 := hb2.trans (hw3.mono hb2.size)
    have q3 := hb3.size
    clear hw3 r1_2 c1_2 z1_2 hb2
    go_wp2_with fail
    refine (l01Shape_any _ _ _ _ HA.out).mono ?_; rintro _ W4 ⟨rfl, hw4⟩
    obtain ⟨r1_4, c1_4⟩ := keepB hw4 z1_3 r1_3 c1_3
    have z1_4 := isRow_lt r1_4
    have hb4 := hb3.trans (hw4.mono hb3.size)
    have q4 := hb4.size
    clear hw4 r1_3 c1_3 z1_3 hb3
    go_wp2_with fail
    go_ret
    exact ⟨ret_bool (by rw [H.out, h1] <;> rfl), (by (repeat (first | exact hb4 | exact Below.refl _ _ | refine Below.alloc ?_ (by first | omega | (simp; try omega)) _ | refine below_setRow ?_ (by omega) _ | refine Below.drew ?_)))⟩
  · skip
    cases h2 : vecB p n (coF f)
    · skip
      go_enter Try.func38, Try.ntmps38
      go_wp2
      refine atomW fun W5 e5 => ?_
      have hb5 : Below w.heap.size w W5 := by rw [e5]; (repeat (first | exact Below.refl _ _ | refine Below.alloc ?_ (by first | omega | (simp; try omega)) _ | refine below_setRow ?_ (by omega) _ | refine Below.drew ?_))
      have q5 := hb5.size
      have r1_5 : IsRow W5 (w.heap.size) := by rw [e5]; simp [go_sem]
      have c1_5 := congrArg (fun x => blk x (w.heap.size)) e5; simp [go_sem] at c1_5
      have z1_5 := isRow_lt r1_5
      clear e5
      refine wp_quiet_all (Below W5.heap.size W5) (by kernel_rfl) (by kernel_rfl) (Below.refl _ _).drew ?_
      iterate 6 (refine q_plain rfl ?_; apply Exists.intro; refine ⟨fun W hW => ?_, ?_⟩; (focus (obtain ⟨x1, y1⟩ := keepB hW z1_5 r1_5 c1_5; go_simp; first | done | rfl)); simp only [Act.put, List.setIfInBounds_toArray, List.set_cons_zero, List.set_cons_succ])
      refine wpQuiet_nil ?_
      intro W6 hw6
      obtain ⟨r1_6, c1_6⟩ := keepB hw6 z1_5 r1_5 c1_5
      have z1_6 := isRow_lt r1_6
      have hb6 := hb5.trans (hw6.mono hb5.size)
      have q6 := hb6.size
      clear hw6 r1_5 c1_5 z1_5 hb5
      go_wp2_with fail
      refine (l03Algebra_any _ _ _ _).mono ?_; rintro _ W7 ⟨rfl, hw7⟩
      obtain ⟨r1_7, c1_7⟩ := keepB hw7 z1_6 r1_6 c1_6
      have z1_7 := isRow_lt r1_7
      have hb7 := hb6.trans (hw7.mono hb6.size)
      have q7 := hb7.size
      clear hw7 r1_6 c1_6 z1_6 hb6
      go_wp2_with fail
      refine (l01Shape_any _ _ _ _ HA.out).mono ?_; rintro _ W8 ⟨rfl, hw8⟩
      obtain ⟨r1_8, c1_8⟩ := keepB hw8 z1_7 r1_7 c1_7
      have z1_8 := isRow_lt r1_8
      have hb8 := hb7.trans (hw8.mono hb7.size)
      have q8 := hb8.size
      clear hw8 r1_7 c1_7 z1_7 hb7
      go_wp2_with fail
      refine (l01Vector_any _ _ _ _ HU.out).mono ?_; rintro _ W9 ⟨rfl, hw9⟩
      obtain ⟨r1_9, c1_9⟩ := keepB hw9 z1_8 r1_8 c1_8
      have z1_9 := isRow_lt r1_9
      have hb9 := hb8.trans (hw9.mono hb8.size)
      have q9 := hb9.size
      clear hw9 r1_8 c1_8 z1_8 hb8
      go_wp2_with fail
      go_ret
      exact ⟨ret_bool (by rw [H.out, h1, h2] <;> rfl), (by (repeat (first | exact hb9 | exact Below.refl _ _ | refine Below.alloc ?_ (by first | omega | (simp; try omega)) _ | refine below_setRow ?_ (by omega) _ | refine Below.drew ?_)))⟩
    · skip
      cases h3 : tabB p n (tab (coF f))
      · skip
        go_enter Try.func38, Try.ntmps38
        go_wp2
        refine atomW fun W10 e10 => ?_
        have hb10 : Below w.heap.size w W10 := by rw [e10]; (repeat (first | exact Below.refl _ _ | refine Below.alloc ?_ (by first | omega | (simp; try omega)) _ | refine below_setRow ?_ (by omega) _ | refine Below.drew ?_))
        have q10 := hb10.size
        have r1_10 : IsRow W10 (w.heap.size) := by rw [e10]; simp [go_sem]
        have c1_10 := congrArg (fun x => blk x (w.heap.size)) e10; simp [go_sem] at c1_10
        have z1_10 := isRow_lt r1_10
        clear e10
        refine wp_quiet_all (Below W10.heap.size W10) (by kernel_rfl) (by kernel_rfl) (Below.refl _ _).drew ?_
        iterate 6 (refine q_plain rfl ?_; apply Exists.intro; refine ⟨fun W hW => ?_, ?_⟩; (focus (obtain ⟨x1, y1⟩ := keepB hW z1_10 r1_10 c1_10; go_simp; first | done | rfl)); simp only [Act.put, List.setIfInBounds_toArray, List.set_cons_zero, List.set_cons_succ])
        refine wpQuiet_nil ?_
        intro W11 hw11
        obtain ⟨r1_11, c1_11⟩ := keepB hw11 z1_10 r1_10 c1_10
        have z1_11 := isRow_lt r1_11
        have hb11 := hb10.trans (hw11.mono hb10.size)
        have q11 := hb11.size
        clear hw11 r1_10 c1_10 z1_10 hb10
        go_wp2_with fail
        refine (l03Algebra_any _ _ _ _).mono ?_; rintro _ W12 ⟨rfl, hw12⟩
        obtain ⟨r1_12, c1_12⟩ := keepB hw12 z1_11 r1_11 c1_11
        have z1_12 := isRow_lt r1_12
        have hb12 := hb11.trans (hw12.mono hb11.size)
        have q12 := hb12.size
        clear hw12 r1_11 c1_11 z1_11 hb11
        go_wp2_with fail
        refine (l01Shape_any _ _ _ _ HA.out).mono ?_; rintro _ W13 ⟨rfl, hw13⟩
        obtain ⟨r1_13, c1_13⟩ := keepB hw13 z1_12 r1_12 c1_12
        have z1_13 := isRow_lt r1_13
        have hb13 := hb12.trans (hw13.mono hb12.size)
        have q13 := hb13.size
        clear hw13 r1_12 c1_12 z1_12 hb12
        go_wp2_with fail
        refine (l01Vector_any _ _ _ _ HU.out).mono ?_; rintro _ W14 ⟨rfl, hw14⟩
        obtain ⟨r1_14, c1_14⟩ := keepB hw14 z1_13 r1_13 c1_13
        have z1_14 := isRow_lt r1_14
        have hb14 := hb13.trans (hw14.mono hb13.size)
        have q14 := hb14.size
        clear hw14 r1_13 c1_13 z1_13 hb13
        go_wp2_with fail
        refine (l01Table_any _ _ _ _ HT.out).mono ?_; rintro _ W15 ⟨rfl, hw15⟩
        obtain ⟨r1_15, c1_15⟩ := keepB hw15 z1_14 r1_14 c1_14
        have z1_15 := isRow_lt r1_15
        have hb15 := hb14.trans (hw15.mono hb14.size)
        have q15 := hb15.size
        clear hw15 r1_14 c1_14 z1_14 hb14
        go_wp2_with fail
        go_ret
        exact ⟨ret_bool (by rw [H.out, h1, h2, h3] <;> rfl), (by (repeat (first | exact hb15 | exact Below.refl _ _ | refine Below.alloc ?_ (by first | omega | (simp; try omega)) _ | refine below_setRow ?_ (by omega) _ | refine Below.drew ?_)))⟩
      · skip
        go_enter Try.func38, Try.ntmps38
        go_wp2
        refine atomW fun W16 e16 => ?_
        have hb16 : Below w.heap.size w W16 := by rw [e16]; (repeat (first | exact Below.refl _ _ | refine Below.alloc ?_ (by first | omega | (simp; try omega)) _ | refine below_setRow ?_ (by omega) _ | refine Below.drew ?_))
        have q16 := hb16.size
        have r1_16 : IsRow W16 (w.heap.size) := by rw [e16]; simp [go_sem]
        have c1_16 := congrArg (fun x => blk x (w.heap.size)) e16; simp [go_sem] at c1_16
        have z1_16 := isRow_lt r1_16
        clear e16
        refine wp_quiet_all (Below W16.heap.size W16) (by kernel_rfl) (by kernel_rfl) (Below.refl _ _).drew ?_
        iterate 6 (refine q_plain rfl ?_; apply Exists.intro; refine ⟨fun W hW => ?_, ?_⟩; (focus (obtain ⟨x1, y1⟩ := keepB hW z1_16 r1_16 c1_16; go_simp; first | done | rfl)); simp only [Act.put, List.setIfInBounds_toArray, List.set_cons_zero, List.set_cons_succ])
        refine wpQuiet_nil ?_
        intro W17 hw17
        obtain ⟨r1_17, c1_17⟩ := keepB hw17 z1_16 r1_16 c1_16
        have z1_17 := isRow_lt r1_17
        have hb17 := hb16.trans (hw17.mono hb16.size)
        have q17 := hb17.size
        clear hw17 r1_16 c1_16 z1_16 hb16
        go_wp2_with fail
        refine (l03Algebra_any _ _ _ _).mono ?_; rintro _ W18 ⟨rfl, hw18⟩
        obtain ⟨r1_18, c1_18⟩ := keepB hw18 z1_17 r1_17 c1_17
        have z1_18 := isRow_lt r1_18
        have hb18 := hb17.trans (hw18.mono hb17.size)
        have q18 := hb18.size
        clear hw18 r1_17 c1_17 z1_17 hb17
        go_wp2_with fail
        refine (l01Shape_any _ _ _ _ HA.out).mono ?_; rintro _ W19 ⟨rfl, hw19⟩
        obtain ⟨r1_19, c1_19⟩ := keepB hw19 z1_18 r1_18 c1_18
        have z1_19 := isRow_lt r1_19
        have hb19 := hb18.trans (hw19.mono hb18.size)
        have q19 := hb19.size
        clear hw19 r1_18 c1_18 z1_18 hb18
        go_wp2_with fail
        refine (l01Vector_any _ _ _ _ HU.out).mono ?_; rintro _ W20 ⟨rfl, hw20⟩
        obtain ⟨r1_20, c1_20⟩ := keepB hw20 z1_19 r1_19 c1_19
        have z1_20 := isRow_lt r1_20
        have hb20 := hb19.trans (hw20.mono hb19.size)
        have q20 := hb20.size
        clear hw20 r1_19 c1_19 z1_19 hb19
        go_wp2_with fail
        refine (l01Table_any _ _ _ _ HT.out).mono ?_; rintro _ W21 ⟨rfl, hw21⟩
        obtain ⟨r1_21, c1_21⟩ := keepB hw21 z1_20 r1_20 c1_20
        have z1_21 := isRow_lt r1_21
        have hb21 := hb20.trans (hw21.mono hb20.size)
        have q21 := hb21.size
        clear hw21 r1_20 c1_20 z1_20 hb20
        go_wp2_with fail
        refine (l01Linear_any _ _ _ _ HS.out).mono ?_; rintro _ W22 ⟨rfl, hw22⟩
        have hb22 := hb21.trans (hw22.mono hb21.size)
        have q22 := hb22.size
        clear hw22 hb21
        go_wp2_with fail
        go_ret
        exact ⟨ret_bool (by rw [H.out, h1, h2, h3] <;> rfl), (by (repeat (first | exact hb22 | exact Below.refl _ _ | refine Below.alloc ?_ (by first | omega | (simp; try omega)) _ | refine below_setRow ?_ (by omega) _ | refine Below.drew ?_)))⟩

set_option maxRecDepth 100000 in
set_option maxHeartbeats 1000000 in
theorem pairOf_any (p : Int) (v u : Nat → Int) (w : World) (hp : 0 < p) (hp' : p ≤ 255) (hv : Bytes 8 v) (hu : Bytes 8 u) :
    Calls Try.prog 85 #[.int .i64 p, .agg (row 8 v), .agg (row 8 u)] w fun e w' => e = .returned (.agg (row 64 (outF p v u 8))) ∧ Below w.heap.size w w' := by
  have Hv := Lib.hid hv; clear hv
  have Hu := Lib.hid hu; clear hu
  have HZ : Hid (∀ t, t < 64 → 0 ≤ zf t ∧ zf t < p) := Lib.hid fun t _ => by unfold zf; omega
  have HO := Lib.hid (pair_out p hp v u)
  go_enter Try.func85, Try.ntmps85
  go_wp2_with fail
  refine atomC fun W1 e1 => ?_
  have hb1 : Below w.heap.size w W1 := by rw [e1]; (repeat (first | exact Below.refl _ _ | refine Below.alloc ?_ (by first | omega | (simp; try omega)) _ | refine below_setRow ?_ (by omega) _ | refine Below.drew ?_))
  have q1 := hb1.size
  have r6_1 : IsRow W1 (w.heap.size + 2) := by rw [e1]; simp [go_sem]
  have c6_1 := congrArg (fun x => blk x (w.heap.size + 2)) e1; simp [go_sem] at c6_1
  have z6_1 := isRow_lt r6_1
  have r7_1 : IsRow W1 (w.heap.size + 3) := by rw [e1]; simp [go_sem]
  have c7_1 := congrArg (fun x => blk x (w.heap.size + 3)) e1; simp [go_sem] at c7_1
  have z7_1 := isRow_lt r7_1
  clear e1
  refine (addPair_any p 1 _ zf v u _ hp hp' (by omega) (by omega) HZ.out Hv.out Hu.out r7_1 c7_1).mono ?_; rintro _ W2 ⟨rfl, hw2, r7_2, c7_2⟩
  obtain ⟨r6_2, c6_2⟩ := keepA hw2 z6_1 (by first | assumption | (simp; done) | omega) r6_1 c6_1
  have z6_2 := isRow_lt r6_2
  have z7_2 := isRow_lt r7_2
  have hb2 := Below.aside hb1 hw2 (by omega)
  have q2 := hb2.size
  clear hw2 r6_1 c6_1 z6_1 r7_1 c7_1 z7_1 hb1
  rw [HO.out] at c7_2
  go_wp2_with fail
  refine bodyPost_ret (result_cell rfl aggLin _ _ (row 64 (outF p v u 8)) _ rfl ?_ ?_) rfl ⟨rfl, ?_⟩
  · simp [go_sem, r6_2, c6_2, r7_2, c7_2]
  · simp [go_sem, r6_2, c6_2, r7_2, c7_2]
  · repeat (first | exact hb2 | exact Below.refl _ _ | refine Below.alloc ?_ (by first | omega | (simp; try omega)) _ | refine below_setRow ?_ (by omega) _ | refine Below.drew ?_)

set_option maxRecDepth 100000 in
set_option maxHeartbeats 1000000 in
theorem unitMap_any (p n q m : Int) (f g : Nat → Int) (w : World) (hq : 0 < q) (hq' : q ≤ 255) (hF : Bytes 520 f) (hG : Bytes 520 g) :
    Calls Try.prog 88 #[.agg (alg p n f), .agg (alg q m g)] w fun e w' => e = .returned (.agg (row 64 (outF q f g 8))) ∧ Below w.heap.size w w' := by
  have HF := Lib.hid hF; clear hF
  have HG := Lib.hid hG; clear hG
  go_enter Try.func88, Try.ntmps88
  go_wp2_with fail
  refine atomC fun W1 e1 => ?_
  have hb1 : Below w.heap.size w W1 := by rw [e1]; (repeat (first | exact Below.refl _ _ | refine Below.alloc ?_ (by first | omega | (simp; try omega)) _ | refine below_setRow ?_ (by omega) _ | refine Below.drew ?_))
  have q1 := hb1.size
  have r4_1 : IsRow W1 (w.heap.size + 2) := by rw [e1]; simp [go_sem]
  have c4_1 := congrArg (fun x => blk x (w.heap.size + 2)) e1; simp [go_sem] at c4_1
  have z4_1 := isRow_lt r4_1
  clear e1
  refine (pairOf_any q f g _ hq hq' (unit_bytes HF.out) (unit_bytes HG.out)).mono ?_; rintro _ W2 ⟨rfl, hw2⟩
  obtain ⟨r4_2, c4_2⟩ := keepB hw2 z4_1 r4_1 c4_1
  have z4_2 := isRow_lt r4_2
  have hb2 := hb1.trans (hw2.mono hb1.size)
  have q2 := hb2.size
  clear hw2 r4_1 c4_1 z4_1 hb1
  go_wp2_with fail
  refine bodyPost_ret (result_cell rfl aggLin _ _ (row 64 (outF q f g 8)) _ rfl ?_ ?_) rfl ⟨rfl, ?_⟩
  · simp [go_sem, r4_2, c4_2]
  · simp [go_sem, r4_2, c4_2]
  · repeat (first | exact hb2 | exact Below.refl _ _ | refine Below.alloc ?_ (by first | omega | (simp; try omega)) _ | refine below_setRow ?_ (by omega) _ | refine Below.drew ?_)

/-- the first i images of the identity -/
def idK (i : Nat) : Nat → Int := fun t => if t / 8 < i then ebas (t / 8) (t % 8) else 0
theorem id_zero : row 64 zf = row 64 (idK 0) := row_congr fun t _ => by unfold idK zf; rw [if_neg (by omega)]
theorem id_step (i : Nat) (hi : i < 8) : lay (row 64 (idK i)) (i * 8) (row 8 (ebas i)) = row 64 (idK (i + 1)) := by
  rw [lay_row _ _ _ _ _ (by omega)]
  refine row_congr fun t _ => ?_
  by_cases h : i * 8 ≤ t ∧ t < i * 8 + 8
  · rw [if_pos h]
    unfold idK
    rw [if_pos (by omega), show t / 8 = i by omega, show t - i * 8 = t % 8 by omega]
  · rw [if_neg h]
    unfold idK
    by_cases h2 : t / 8 < i
    · rw [if_pos h2, if_pos (by omega)]
    · rw [if_neg h2, if_neg (by omega)]
theorem id_bytes (n : Nat) : Bytes 64 (idK n) := fun t ht => by
  unfold idK
  split
  · exact ebas_bytes _ _ (by omega)
  · omega

set_option maxRecDepth 100000 in
set_option maxHeartbeats 1000000 in
theorem identityLinear_any (n : Nat) (w : World) (hn : n ≤ 8) :
    Calls Try.prog 55 #[.int .i64 n] w fun e w' => e = .returned (.agg (row 64 (idK n))) ∧ Below w.heap.size w w' := by
  go_enter Try.func55, Try.ntmps55
  go_wp2
  refine atomW fun W1 e1 => ?_
  have hb1 : Below w.heap.size w W1 := by rw [e1]; (repeat (first | exact Below.refl _ _ | refine Below.alloc ?_ (by first | omega | (simp; try omega)) _ | refine below_setRow ?_ (by omega) _ | refine Below.drew ?_))
  have q1 := hb1.size
  have r2_1 : IsRow W1 (w.heap.size) := by rw [e1]; simp [go_sem]
  have c2_1 := congrArg (fun x => blk x (w.heap.size)) e1; simp [go_sem] at c2_1
  have z2_1 := isRow_lt r2_1
  have r3_1 : IsRow W1 (w.heap.size + 1) := by rw [e1]; simp [go_sem]
  have c3_1 := congrArg (fun x => blk x (w.heap.size + 1)) e1; simp [go_sem] at c3_1
  have z3_1 := isRow_lt r3_1
  clear e1
  go_loopw [6] (fun s6 wr => ∃ i : Nat, i ≤ n ∧ s6 = .int .i64 i ∧ Below w.heap.size w wr ∧ (IsRow wr (w.heap.size) ∧ blk wr (w.heap.size) = blk W1 (w.heap.size)) ∧ (IsRow wr (w.heap.size + 1) ∧ blk wr (w.heap.size + 1) = row 64 (idK i))) (fun s6 _ => n - (intOf s6).toNat)
  case atStart => exact ⟨0, by omega, rfl, hb1, ⟨r2_1, rfl⟩, ⟨r3_1, c3_1.trans (id_zero)⟩⟩
  case round =>
    obtain ⟨i, hle2, rfl, hb2, ⟨r2_2, c2_2⟩, ⟨r3_2, c3_2⟩⟩ := hrel
    obtain ⟨W2, rfl⟩ : ∃ W2 : World, W2 = wr := ⟨_, rfl⟩
    have q2 := hb2.size
    have E2_2 := Lib.hid c2_1; replace c2_2 := c2_2.trans c2_1
    have z2_2 := isRow_lt r2_2
    have z3_2 := isRow_lt r3_2
    clear r2_1 c2_1 z2_1 r3_1 c3_1 z3_1 hb1
    by_cases hlt2 : i < n
    · skip
      have i0_2 : (0 : Int) ≤ (i : Int) := by omega
      have i8_2 : (i : Int) < 8 := by omega
      have k8_2 : i < 8 := by omega
      have m8_2 : i * 8 + 8 ≤ 64 := by omega
      have m64_2 : i * 64 + 64 ≤ 512 := by omega
      have l1_2 : 10 + i * 64 + 64 ≤ 522 := by omega
      go_wp2_with fail
      refine (basisAt i (by omega) _).mono ?_; rintro _ W3 ⟨rfl, hw3⟩
      obtain ⟨r2_3, c2_3⟩ := keepB hw3 z2_2 r2_2 c2_2
      have z2_3 := isRow_lt r2_3
      obtain ⟨r3_3, c3_3⟩ := keepB hw3 z3_2 r3_2 c3_2
      have z3_3 := isRow_lt r3_3
      have hb3 := hb2.trans (hw3.mono hb2.size)
      have q3 := hb3.size
      clear hw3 r2_2 c2_2 z2_2 r3_2 c3_2 z3_2 hb2
      go_wp2
      go_roundw
      case rel => exact ⟨i + 1, by omega, by go_num, (by (repeat (first | exact hb3 | exact Below.refl _ _ | refine Below.alloc ?_ (by first | omega | (simp; try omega)) _ | refine below_setRow ?_ (by omega) _ | refine Below.drew ?_))), ⟨by simp [go_sem, r2_3, c2_3, r3_3, c3_3], (by rw [E2_2.out]; first | exact c2_3 | (simp [go_sem, r2_3, c2_3, r3_3, c3_3]; done))⟩, ⟨by simp [go_sem, r2_3, c2_3, r3_3, c3_3], (by first | (rw [blk_setRow _ _ _ _ r3_3, if_pos rfl]; exact id_step i (by omega)) | exact (c3_3).trans (id_step i (by omega)) | (simp [go_sem, r2_3, c2_3, r3_3, c3_3]; exact id_step i (by omega)))⟩⟩
      case measure => simp [intOf]; omega
    · skip
      obtain rfl : n = i := by omega
      go_wp2_with fail
      refine bodyPost_ret (result_cell rfl aggLin _ _ (row 64 (idK n)) _ rfl ?_ ?_) rfl ⟨rfl, ?_⟩
      · simp [go_sem, r2_2, c2_2, r3_2, c3_2]
      · simp [go_sem, r2_2, c2_2, r3_2, c3_2]
      · repeat (first | exact hb2 | exact Below.refl _ _ | refine Below.alloc ?_ (by first | omega | (simp; try omega)) _ | refine below_setRow ?_ (by omega) _ | refine Below.drew ?_)

set_option maxRecDepth 100000 in
set_option maxHeartbeats 1000000 in
theorem l03Same_any (n : Nat) (w : World) (hn : n ≤ 8) :
    Calls Try.prog 53 #[.int .i64 n] w fun e w' => e = .returned (.agg (row 64 (idK n))) ∧ Below w.heap.size w w' := by
  go_enter Try.func53, Try.ntmps53
  go_wp2
  refine atomW fun W1 e1 => ?_
  have hb1 : Below w.heap.size w W1 := by rw [e1]; (repeat (first | exact Below.refl _ _ | refine Below.alloc ?_ (by first | omega | (simp; try omega)) _ | refine below_setRow ?_ (by omega) _ | refine Below.drew ?_))
  have q1 := hb1.size
  have r2_1 : IsRow W1 (w.heap.size) := by rw [e1]; simp [go_sem]
  have c2_1 := congrArg (fun x => blk x (w.heap.size)) e1; simp [go_sem] at c2_1
  have z2_1 := isRow_lt r2_1
  have r3_1 : IsRow W1 (w.heap.size + 1) := by rw [e1]; simp [go_sem]
  have c3_1 := congrArg (fun x => blk x (w.heap.size + 1)) e1; simp [go_sem] at c3_1
  have z3_1 := isRow_lt r3_1
  clear e1
  go_loopw [4] (fun s4 wr => ∃ i : Nat, i ≤ n ∧ s4 = .int .i64 i ∧ Below w.heap.size w wr ∧ (IsRow wr (w.heap.size) ∧ blk wr (w.heap.size) = blk W1 (w.heap.size)) ∧ (IsRow wr (w.heap.size + 1) ∧ blk wr (w.heap.size + 1) = row 64 (idK i))) (fun s4 _ => n - (intOf s4).toNat)
  case atStart => exact ⟨0, by omega, rfl, hb1, ⟨r2_1, rfl⟩, ⟨r3_1, c3_1.trans (id_zero)⟩⟩
  case round =>
    obtain ⟨i, hle2, rfl, hb2, ⟨r2_2, c2_2⟩, ⟨r3_2, c3_2⟩⟩ := hrel
    obtain ⟨W2, rfl⟩ : ∃ W2 : World, W2 = wr := ⟨_, rfl⟩
    have q2 := hb2.size
    have E2_2 := Lib.hid c2_1; replace c2_2 := c2_2.trans c2_1
    have z2_2 := isRow_lt r2_2
    have z3_2 := isRow_lt r3_2
    clear r2_1 c2_1 z2_1 r3_1 c3_1 z3_1 hb1
    by_cases hlt2 : i < n
    · skip
      have i0_2 : (0 : Int) ≤ (i : Int) := by omega
      have i8_2 : (i : Int) < 8 := by omega
      have k8_2 : i < 8 := by omega
      have m8_2 : i * 8 + 8 ≤ 64 := by omega
      have m64_2 : i * 64 + 64 ≤ 512 := by omega
      have l1_2 : 10 + i * 64 + 64 ≤ 522 := by omega
      go_wp2_with fail
      refine (l01BasisAt i (by omega) _).mono ?_; rintro _ W3 ⟨rfl, hw3⟩
      obtain ⟨r2_3, c2_3⟩ := keepB hw3 z2_2 r2_2 c2_2
      have z2_3 := isRow_lt r2_3
      obtain ⟨r3_3, c3_3⟩ := keepB hw3 z3_2 r3_2 c3_2
      have z3_3 := isRow_lt r3_3
      have hb3 := hb2.trans (hw3.mono hb2.size)
      have q3 := hb3.size
      clear hw3 r2_2 c2_2 z2_2 r3_2 c3_2 z3_2 hb2
      go_wp2
      go_roundw
      case rel => exact ⟨i + 1, by omega, by go_num, (by (repeat (first | exact hb3 | exact Below.refl _ _ | refine Below.alloc ?_ (by first | omega | (simp; try omega)) _ | refine below_setRow ?_ (by omega) _ | refine Below.drew ?_))), ⟨by simp [go_sem, r2_3, c2_3, r3_3, c3_3], (by rw [E2_2.out]; first | exact c2_3 | (simp [go_sem, r2_3, c2_3, r3_3, c3_3]; done))⟩, ⟨by simp [go_sem, r2_3, c2_3, r3_3, c3_3], (by first | (rw [blk_setRow _ _ _ _ r3_3, if_pos rfl]; exact id_step i (by omega)) | exact (c3_3).trans (id_step i (by omega)) | (simp [go_sem, r2_3, c2_3, r3_3, c3_3]; exact id_step i (by omega)))⟩⟩
      case measure => simp [intOf]; omega
    · skip
      obtain rfl : n = i := by omega
      go_wp2_with fail
      refine bodyPost_ret (result_cell rfl aggLin _ _ (row 64 (idK n)) _ rfl ?_ ?_) rfl ⟨rfl, ?_⟩
      · simp [go_sem, r2_2, c2_2, r3_2, c3_2]
      · simp [go_sem, r2_2, c2_2, r3_2, c3_2]
      · repeat (first | exact hb2 | exact Below.refl _ _ | refine Below.alloc ?_ (by first | omega | (simp; try omega)) _ | refine below_setRow ?_ (by omega) _ | refine Below.drew ?_)

set_option maxRecDepth 100000 in
set_option maxHeartbeats 1000000 in
theorem l01Zero_any (v : Nat → Int) (w : World)  :
    Calls Try.prog 109 #[.agg (row 8 v)] w fun e w' => e = .returned (.bool (segEq 0 8 v zf)) ∧ Below w.heap.size w w' := by
  go_enter Try.func109, Try.ntmps109
  go_wp2_with fail
  go_ret
  exact ⟨rfl, (by (repeat (first | exact Below.refl _ _ | refine Below.alloc ?_ (by first | omega | (simp; try omega)) _ | refine below_setRow ?_ (by omega) _ | refine Below.drew ?_)))⟩

end Go.Proofs.Ytnjjcimpcnennaa
