/- Coalgebras: both programs say the same; and a coalgebra with vectors for it. -/
import Derived.Test.YtnjjcimpcnennaaQ6
import Derived.Test.YtnjjcimpcnennaaP13
namespace Go.Proofs.Ytnjjcimpcnennaa
open Go.RowKit
set_option linter.unusedSimpArgs false
set_option linter.unusedVariables false
attribute [local irreducible] wpQuiet wpQE

def noCoB (p : Int) (n : Nat) (f : Nat → Int) : Bool := (List.range (n * n * n * n)).all fun m => !cofM p n f m
theorem noCo_yes {p : Int} {n : Nat} {f : Nat → Int} (h : NoCo p n f) : noCoB p n f = true := all_yes _ fun m hm => by rw [h m hm]; rfl
theorem noCo_no {p : Int} {n : Nat} {f : Nat → Int} {m : Nat} (h : FirstCo p n f m) : noCoB p n f = false := all_no (q := fun m => !cofM p n f m) m _ h.1 (by rw [h.2.1]; rfl)
/-- p, n, f is a coalgebra -/
def coB (p n : Int) (f : Nat → Int) : Bool := shapeB p n f && (cuB p n.toNat f && noCoB p n.toNat f)

set_option maxRecDepth 100000 in
set_option maxHeartbeats 1000000 in
theorem isShapedCo_any (p n : Int) (f : Nat → Int) (w : World) (hF : Bytes 520 f) :
    Calls Try.prog 59 #[.agg (alg p n f)] w fun e w' => e = .returned (.bool (shapeB p n f)) ∧ Below w.heap.size w w' := by
  have HF := Lib.hid hF; clear hF
  have HU : Hid (Bytes 8 f) := Lib.hid (unit_bytes HF.out)
  have HT : Hid (Bytes 512 (tab f)) := Lib.hid (tab_bytes HF.out)
  have H : Hid (shapeB p n f = ((sizesB p n && vecB p n f) && (sizesB p n && tabB p n (tab f)))) := Lib.hid (by unfold shapeB; cases sizesB p n <;> cases vecB p n f <;> rfl)
  cases hv : (sizesB p n && vecB p n f)
  · skip
    go_enter Try.func59, Try.ntmps59
    go_wp2_with fail
    refine atomC fun W1 e1 => ?_
    have hb1 : Below w.heap.size w W1 := by rw [e1]; (repeat (first | exact Below.refl _ _ | refine Below.alloc ?_ (by first | omega | (simp; try omega)) _ | refine below_setRow ?_ (by omega) _ | refine Below.drew ?_))
    have q1 := hb1.size
    have r1_1 : IsRow W1 (w.heap.size) := by rw [e1]; simp [go_sem]
    have c1_1 := congrArg (fun x => blk x (w.heap.size)) e1; simp [go_sem] at c1_1
    have z1_1 := isRow_lt r1_1
    clear e1
    refine (isVector_any _ _ _ _ HU.out).mono ?_; rintro _ W2 ⟨rfl, hw2⟩
    obtain ⟨r1_2, c1_2⟩ := keepB hw2 z1_1 r1_1 c1_1
    have z1_2 := isRow_lt r1_2
    have hb2 := hb1.trans (hw2.mono hb1.size)
    have q2 := hb2.size
    clear hw2 r1_1 c1_1 z1_1 hb1
    go_wp2_with fail
    go_ret
    exact ⟨ret_bool (by rw [H.out, hv] <;> rfl), (by (repeat (first | exact hb2 | exact Below.refl _ _ | refine Below.alloc ?_ (by first | omega | (simp; try omega)) _ | refine below_setRow ?_ (by omega) _ | refine Below.drew ?_)))⟩
  · skip
    go_enter Try.func59, Try.ntmps59
    go_wp2_with fail
    refine atomC fun W3 e3 => ?_
    have hb3 : Below w.heap.size w W3 := by rw [e3]; (repeat (first | exact Below.refl _ _ | refine Below.alloc ?_ (by first | omega | (simp; try omega)) _ | refine below_setRow ?_ (by omega) _ | refine Below.drew ?_))
    have q3 := hb3.size
    have r1_3 : IsRow W3 (w.heap.size) := by rw [e3]; simp [go_sem]
    have c1_3 := congrArg (fun x => blk x (w.heap.size)) e3; simp [go_sem] at c1_3
    have z1_3 := isRow_lt r1_3
    clear e3
    refine (isVector_any _ _ _ _ HU.out).mono ?_; rintro _ W4 ⟨rfl, hw4⟩
    obtain ⟨r1_4, c1_4⟩ := keepB hw4 z1_3 r1_3 c1_3
    have z1_4 := isRow_lt r1_4
    have hb4 := hb3.trans (hw4.mono hb3.size)
    have q4 := hb4.size
    clear hw4 r1_3 c1_3 z1_3 hb3
    go_wp2_with fail
    refine (isTable_any _ _ _ _ HT.out).mono ?_; rintro _ W5 ⟨rfl, hw5⟩
    have hb5 := hb4.trans (hw5.mono hb4.size)
    have q5 := hb5.size
    clear hw5 hb4
    go_wp2_with fail
    go_ret
    exact ⟨ret_bool (by rw [H.out, hv] <;> rfl), (by (repeat (first | exact hb5 | exact Below.refl _ _ | refine Below.alloc ?_ (by first | omega | (simp; try omega)) _ | refine below_setRow ?_ (by omega) _ | refine Below.drew ?_)))⟩

set_option maxRecDepth 100000 in
set_option maxHeartbeats 1000000 in
theorem l02Shape_any (p n : Int) (f : Nat → Int) (w : World) (hF : Bytes 520 f) :
    Calls Try.prog 106 #[.agg (alg p n f)] w fun e w' => e = .returned (.bool (shapeB p n f)) ∧ Below w.heap.size w w' := by
  have HF := Lib.hid hF; clear hF
  have HU : Hid (Bytes 8 f) := Lib.hid (unit_bytes HF.out)
  have HT : Hid (Bytes 512 (tab f)) := Lib.hid (tab_bytes HF.out)
  have H : Hid (shapeB p n f = (sizesB p n && (vecB p n f && tabB p n (tab f)))) := Lib.hid rfl
  cases hs : sizesB p n
  · skip
    go_enter Try.func106, Try.ntmps106
    go_wp2_with fail
    refine atomC fun W1 e1 => ?_
    have hb1 : Below w.heap.size w W1 := by rw [e1]; (repeat (first | exact Below.refl _ _ | refine Below.alloc ?_ (by first | omega | (simp; try omega)) _ | refine below_setRow ?_ (by omega) _ | refine Below.drew ?_))
    have q1 := hb1.size
    have r1_1 : IsRow W1 (w.heap.size) := by rw [e1]; simp [go_sem]
    have c1_1 := congrArg (fun x => blk x (w.heap.size)) e1; simp [go_sem] at c1_1
    have z1_1 := isRow_lt r1_1
    clear e1
    refine (l01Sizes_any _ _ _).mono ?_; rintro _ _ ⟨rfl, rfl⟩
    go_wp2_with fail
    go_ret
    exact ⟨ret_bool (by rw [H.out, hs] <;> rfl), (by (repeat (first | exact hb1 | exact Below.refl _ _ | refine Below.alloc ?_ (by first | omega | (simp; try omega)) _ | refine below_setRow ?_ (by omega) _ | refine Below.drew ?_)))⟩
  · skip
    cases hv : vecB p n f
    · skip
      go_enter Try.func106, Try.ntmps106
      go_wp2_with fail
      refine atomC fun W2 e2 => ?_
      have hb2 : Below w.heap.size w W2 := by rw [e2]; (repeat (first | exact Below.refl _ _ | refine Below.alloc ?_ (by first | omega | (simp; try omega)) _ | refine below_setRow ?_ (by omega) _ | refine Below.drew ?_))
      have q2 := hb2.size
      have r1_2 : IsRow W2 (w.heap.size) := by rw [e2]; simp [go_sem]
      have c1_2 := congrArg (fun x => blk x (w.heap.size)) e2; simp [go_sem] at c1_2
      have z1_2 := isRow_lt r1_2
      clear e2
      refine (l01Sizes_any _ _ _).mono ?_; rintro _ _ ⟨rfl, rfl⟩
      go_wp2_with fail
      refine (l01Vector_any _ _ _ _ HU.out).mono ?_; rintro _ W3 ⟨rfl, hw3⟩
      obtain ⟨r1_3, c1_3⟩ := keepB hw3 z1_2 r1_2 c1_2
      have z1_3 := isRow_lt r1_3
      have hb3 := hb2.trans (hw3.mono hb2.size)
      have q3 := hb3.size
      clear hw3 r1_2 c1_2 z1_2 hb2
      go_wp2_with fail
      go_ret
      exact ⟨ret_bool (by rw [H.out, hs, hv] <;> rfl), (by (repeat (first | exact hb3 | exact Below.refl _ _ | refine Below.alloc ?_ (by first | omega | (simp; try omega)) _ | refine below_setRow ?_ (by omega) _ | refine Below.drew ?_)))⟩
    · skip
      go_enter Try.func106, Try.ntmps106
      go_wp2_with fail
      refine atomC fun W4 e4 => ?_
      have hb4 : Below w.heap.size w W4 := by rw [e4]; (repeat (first | exact Below.refl _ _ | refine Below.alloc ?_ (by first | omega | (simp; try omega)) _ | refine below_setRow ?_ (by omega) _ | refine Below.drew ?_))
      have q4 := hb4.size
      have r1_4 : IsRow W4 (w.heap.size) := by rw [e4]; simp [go_sem]
      have c1_4 := congrArg (fun x => blk x (w.heap.size)) e4; simp [go_sem] at c1_4
      have z1_4 := isRow_lt r1_4
      clear e4
      refine (l01Sizes_any _ _ _).mono ?_; rintro _ _ ⟨rfl, rfl⟩
      go_wp2_with fail
      refine (l01Vector_any _ _ _ _ HU.out).mono ?_; rintro _ W5 ⟨rfl, hw5⟩
      obtain ⟨r1_5, c1_5⟩ := keepB hw5 z1_4 r1_4 c1_4
      have z1_5 := isRow_lt r1_5
      have hb5 := hb4.trans (hw5.mono hb4.size)
      have q5 := hb5.size
      clear hw5 r1_4 c1_4 z1_4 hb4
      go_wp2_with fail
      refine (l01Table_any _ _ _ _ HT.out).mono ?_; rintro _ W6 ⟨rfl, hw6⟩
      have hb6 := hb5.trans (hw6.mono hb5.size)
      have q6 := hb6.size
      clear hw6 hb5
      go_wp2_with fail
      go_ret
      exact ⟨ret_bool (by rw [H.out, hs, hv] <;> rfl), (by (repeat (first | exact hb6 | exact Below.refl _ _ | refine Below.alloc ?_ (by first | omega | (simp; try omega)) _ | refine below_setRow ?_ (by omega) _ | refine Below.drew ?_)))⟩

theorem coB_shape {p n : Int} {f : Nat → Int} (h : shapeB p n f = false) : coB p n f = false := by unfold coB; rw [h]; rfl
theorem coB_of {p : Int} {n : Nat} {f : Nat → Int} (h : shapeB p n f = true) : coB p n f = (cuB p n f && noCoB p n f) := by unfold coB; rw [h]; rfl

set_option maxRecDepth 100000 in
set_option maxHeartbeats 1000000 in
theorem isCo_no (p n : Int) (f : Nat → Int) (w : World) (hF : Bytes 520 f) (hs : shapeB p n f = false) :
    Calls Try.prog 83 #[.agg (alg p n f)] w fun e w' => e = .returned (.bool (coB p n f)) ∧ Below w.heap.size w w' := by
  have HF := Lib.hid hF; clear hF
  have H := Lib.hid (coB_shape hs)
  go_enter Try.func83, Try.ntmps83
  go_wp2_with fail
  refine atomC fun W1 e1 => ?_
  have hb1 : Below w.heap.size w W1 := by rw [e1]; (repeat (first | exact Below.refl _ _ | refine Below.alloc ?_ (by first | omega | (simp; try omega)) _ | refine below_setRow ?_ (by omega) _ | refine Below.drew ?_))
  have q1 := hb1.size
  have r1_1 : IsRow W1 (w.heap.size) := by rw [e1]; simp [go_sem]
  have c1_1 := congrArg (fun x => blk x (w.heap.size)) e1; simp [go_sem] at c1_1
  have z1_1 := isRow_lt r1_1
  clear e1
  refine (isShapedCo_any _ _ _ _ HF.out).mono ?_; rintro _ W2 ⟨rfl, hw2⟩
  obtain ⟨r1_2, c1_2⟩ := keepB hw2 z1_1 r1_1 c1_1
  have z1_2 := isRow_lt r1_2
  have hb2 := hb1.trans (hw2.mono hb1.size)
  have q2 := hb2.size
  clear hw2 r1_1 c1_1 z1_1 hb1
  go_wp2_with fail
  go_ret
  exact ⟨ret_bool (by rw [H.out]), (by (repeat (first | exact hb2 | exact Below.refl _ _ | refine Below.alloc ?_ (by first | omega | (simp; try omega)) _ | refine below_setRow ?_ (by omega) _ | refine Below.drew ?_)))⟩

set_option maxRecDepth 100000 in
set_option maxHeartbeats 1000000 in
theorem isCo_cu (p : Int) (n : Nat) (f : Nat → Int) (w : World) (hp : 0 < p) (hp' : p ≤ 255) (hn : n ≤ 8) (hF : Bytes 520 f) (hs : shapeB p n f = true) (hc : cuB p n f = false) :
    Calls Try.prog 83 #[.agg (alg p n f)] w fun e w' => e = .returned (.bool (coB p n f)) ∧ Below w.heap.size w w' := by
  have HF := Lib.hid hF; clear hF
  have H := Lib.hid (coB_of hs)
  go_enter Try.func83, Try.ntmps83
  go_wp2_with fail
  refine atomC fun W1 e1 => ?_
  have hb1 : Below w.heap.size w W1 := by rw [e1]; (repeat (first | exact Below.refl _ _ | refine Below.alloc ?_ (by first | omega | (simp; try omega)) _ | refine below_setRow ?_ (by omega) _ | refine Below.drew ?_))
  have q1 := hb1.size
  have r1_1 : IsRow W1 (w.heap.size) := by rw [e1]; simp [go_sem]
  have c1_1 := congrArg (fun x => blk x (w.heap.size)) e1; simp [go_sem] at c1_1
  have z1_1 := isRow_lt r1_1
  clear e1
  refine (isShapedCo_any _ _ _ _ HF.out).mono ?_; rintro _ W2 ⟨rfl, hw2⟩
  obtain ⟨r1_2, c1_2⟩ := keepB hw2 z1_1 r1_1 c1_1
  have z1_2 := isRow_lt r1_2
  have hb2 := hb1.trans (hw2.mono hb1.size)
  have q2 := hb2.size
  clear hw2 r1_1 c1_1 z1_1 hb1
  go_wp2_with fail
  refine (hasCounit_any p n f _ hp hp' hn HF.out).mono ?_; rintro _ W3 ⟨rfl, hw3⟩
  obtain ⟨r1_3, c1_3⟩ := keepB hw3 z1_2 r1_2 c1_2
  have z1_3 := isRow_lt r1_3
  have hb3 := hb2.trans (hw3.mono hb2.size)
  have q3 := hb3.size
  clear hw3 r1_2 c1_2 z1_2 hb2
  go_wp2_with fail
  go_ret
  exact ⟨ret_bool (by rw [H.out, hc] <;> rfl), (by (repeat (first | exact hb3 | exact Below.refl _ _ | refine Below.alloc ?_ (by first | omega | (simp; try omega)) _ | refine below_setRow ?_ (by omega) _ | refine Below.drew ?_)))⟩

set_option maxRecDepth 100000 in
set_option maxHeartbeats 1000000 in
theorem isCo_none (p : Int) (n : Nat) (f : Nat → Int) (w : World) (hp : 0 < p) (hp' : p ≤ 255) (hn : n ≤ 8) (hF : Bytes 520 f) (hs : shapeB p n f = true) (hc : cuB p n f = true) (hno : NoCo p n f) :
    Calls Try.prog 83 #[.agg (alg p n f)] w fun e w' => e = .returned (.bool (coB p n f)) ∧ Below w.heap.size w w' := by
  have HF := Lib.hid hF; clear hF
  have Hno := Lib.hid hno; clear hno
  have H := Lib.hid (coB_of hs); have HN := Lib.hid (noCo_yes Hno.out)
  have hn1 := nil_none; have hn2 := nil_some
  go_enter Try.func83, Try.ntmps83
  go_wp2_with fail
  refine atomC fun W1 e1 => ?_
  have hb1 : Below w.heap.size w W1 := by rw [e1]; (repeat (first | exact Below.refl _ _ | refine Below.alloc ?_ (by first | omega | (simp; try omega)) _ | refine below_setRow ?_ (by omega) _ | refine Below.drew ?_))
  have q1 := hb1.size
  have r1_1 : IsRow W1 (w.heap.size) := by rw [e1]; simp [go_sem]
  have c1_1 := congrArg (fun x => blk x (w.heap.size)) e1; simp [go_sem] at c1_1
  have z1_1 := isRow_lt r1_1
  clear e1
  refine (isShapedCo_any _ _ _ _ HF.out).mono ?_; rintro _ W2 ⟨rfl, hw2⟩
  obtain ⟨r1_2, c1_2⟩ := keepB hw2 z1_1 r1_1 c1_1
  have z1_2 := isRow_lt r1_2
  have hb2 := hb1.trans (hw2.mono hb1.size)
  have q2 := hb2.size
  clear hw2 r1_1 c1_1 z1_1 hb1
  go_wp2_with fail
  refine (hasCounit_any p n f _ hp hp' hn HF.out).mono ?_; rintro _ W3 ⟨rfl, hw3⟩
  obtain ⟨r1_3, c1_3⟩ := keepB hw3 z1_2 r1_2 c1_2
  have z1_3 := isRow_lt r1_3
  have hb3 := hb2.trans (hw3.mono hb2.size)
  have q3 := hb3.size
  clear hw3 r1_2 c1_2 z1_2 hb2
  go_wp2_with fail
  refine (findCoFault_none p n f _ hp hp' hn HF.out Hno.out).mono ?_; rintro _ W4 ⟨rfl, hw4⟩
  have hb4 := hb3.trans (hw4.mono hb3.size)
  have q4 := hb4.size
  clear hw4 hb3
  go_wp2_with fail
  go_ret
  exact ⟨ret_bool (by rw [H.out, hc, HN.out] <;> rfl), (by (repeat (first | exact hb4 | exact Below.refl _ _ | refine Below.alloc ?_ (by first | omega | (simp; try omega)) _ | refine below_setRow ?_ (by omega) _ | refine Below.drew ?_)))⟩

set_option maxRecDepth 100000 in
set_option maxHeartbeats 1000000 in
theorem isCo_some (p : Int) (n : Nat) (f : Nat → Int) (m : Nat) (w : World) (hp : 0 < p) (hp' : p ≤ 255) (hn : n ≤ 8) (hF : Bytes 520 f) (hs : shapeB p n f = true) (hc : cuB p n f = true) (hfi : FirstCo p n f m) :
    Calls Try.prog 83 #[.agg (alg p n f)] w fun e w' => e = .returned (.bool (coB p n f)) ∧ Below w.heap.size w w' := by
  have HF := Lib.hid hF; clear hF
  have Hfi := Lib.hid hfi; clear hfi
  have H := Lib.hid (coB_of hs); have HN := Lib.hid (noCo_no Hfi.out)
  have hn1 := nil_none; have hn2 := nil_some
  go_enter Try.func83, Try.ntmps83
  go_wp2_with fail
  refine atomC fun W1 e1 => ?_
  have hb1 : Below w.heap.size w W1 := by rw [e1]; (repeat (first | exact Below.refl _ _ | refine Below.alloc ?_ (by first | omega | (simp; try omega)) _ | refine below_setRow ?_ (by omega) _ | refine Below.drew ?_))
  have q1 := hb1.size
  have r1_1 : IsRow W1 (w.heap.size) := by rw [e1]; simp [go_sem]
  have c1_1 := congrArg (fun x => blk x (w.heap.size)) e1; simp [go_sem] at c1_1
  have z1_1 := isRow_lt r1_1
  clear e1
  refine (isShapedCo_any _ _ _ _ HF.out).mono ?_; rintro _ W2 ⟨rfl, hw2⟩
  obtain ⟨r1_2, c1_2⟩ := keepB hw2 z1_1 r1_1 c1_1
  have z1_2 := isRow_lt r1_2
  have hb2 := hb1.trans (hw2.mono hb1.size)
  have q2 := hb2.size
  clear hw2 r1_1 c1_1 z1_1 hb1
  go_wp2_with fail
  refine (hasCounit_any p n f _ hp hp' hn HF.out).mono ?_; rintro _ W3 ⟨rfl, hw3⟩
  obtain ⟨r1_3, c1_3⟩ := keepB hw3 z1_2 r1_2 c1_2
  have z1_3 := isRow_lt r1_3
  have hb3 := hb2.trans (hw3.mono hb2.size)
  have q3 := hb3.size
  clear hw3 r1_2 c1_2 z1_2 hb2
  go_wp2_with fail
  refine (findCoFault_some p n f m _ hp hp' hn HF.out Hfi.out).mono ?_; rintro _ W4 ⟨b4, rfl, hw4, hl4, rb_4, cb_4⟩
  have hb4 := hb3.trans (hw4.mono hb3.size)
  have q4 := hb4.size
  clear hw4 hb3
  go_wp2_with fail
  go_ret
  exact ⟨ret_bool (by rw [H.out, hc, HN.out] <;> rfl), (by (repeat (first | exact hb4 | exact Below.refl _ _ | refine Below.alloc ?_ (by first | omega | (simp; try omega)) _ | refine below_setRow ?_ (by omega) _ | refine Below.drew ?_)))⟩

theorem isCo_any (p n : Int) (f : Nat → Int) (w : World) (hF : Bytes 520 f) :
    Calls Try.prog 83 #[.agg (alg p n f)] w fun e w' => e = .returned (.bool (coB p n f)) ∧ Below w.heap.size w w' := by
  cases hs : shapeB p n f
  · exact isCo_no p n f w hF hs
  · have hq := sizes_range (shape_parts hs).1
    obtain ⟨n, rfl⟩ := Int.eq_ofNat_of_zero_le (show 0 ≤ n by omega)
    cases hc : cuB p n f
    · exact isCo_cu p n f w (by omega) (by omega) (by omega) hF hs hc
    · rcases co_or p n f with h | ⟨m, h⟩
      · exact isCo_none p n f w (by omega) (by omega) (by omega) hF hs hc h
      · exact isCo_some p n f m w (by omega) (by omega) (by omega) hF hs hc h

set_option maxRecDepth 100000 in
set_option maxHeartbeats 1000000 in
theorem l02Is_no (p n : Int) (f : Nat → Int) (w : World) (hF : Bytes 520 f) (hs : shapeB p n f = false) :
    Calls Try.prog 91 #[.agg (alg p n f)] w fun e w' => e = .returned (.bool (coB p n f)) ∧ Below w.heap.size w w' := by
  have HF := Lib.hid hF; clear hF
  have H := Lib.hid (coB_shape hs)
  go_enter Try.func91, Try.ntmps91
  go_wp2_with fail
  refine atomC fun W1 e1 => ?_
  have hb1 : Below w.heap.size w W1 := by rw [e1]; (repeat (first | exact Below.refl _ _ | refine Below.alloc ?_ (by first | omega | (simp; try omega)) _ | refine below_setRow ?_ (by omega) _ | refine Below.drew ?_))
  have q1 := hb1.size
  have r1_1 : IsRow W1 (w.heap.size) := by rw [e1]; simp [go_sem]
  have c1_1 := congrArg (fun x => blk x (w.heap.size)) e1; simp [go_sem] at c1_1
  have z1_1 := isRow_lt r1_1
  clear e1
  refine (l02Shape_any _ _ _ _ HF.out).mono ?_; rintro _ W2 ⟨rfl, hw2⟩
  obtain ⟨r1_2, c1_2⟩ := keepB hw2 z1_1 r1_1 c1_1
  have z1_2 := isRow_lt r1_2
  have hb2 := hb1.trans (hw2.mono hb1.size)
  have q2 := hb2.size
  clear hw2 r1_1 c1_1 z1_1 hb1
  go_wp2_with fail
  go_ret
  exact ⟨ret_bool (by rw [H.out]), (by (repeat (first | exact hb2 | exact Below.refl _ _ | refine Below.alloc ?_ (by first | omega | (simp; try omega)) _ | refine below_setRow ?_ (by omega) _ | refine Below.drew ?_)))⟩

set_option maxRecDepth 100000 in
set_option maxHeartbeats 1000000 in
theorem l02Is_none (p : Int) (n : Nat) (f : Nat → Int) (w : World) (hp : 0 < p) (hp' : p ≤ 255) (hn : n ≤ 8) (hF : Bytes 520 f) (hs : shapeB p n f = true) (hno : NoCo p n f) :
    Calls Try.prog 91 #[.agg (alg p n f)] w fun e w' => e = .returned (.bool (coB p n f)) ∧ Below w.heap.size w w' := by
  have HF := Lib.hid hF; clear hF
  have Hno := Lib.hid hno; clear hno
  have H := Lib.hid (coB_of hs); have HN := Lib.hid (noCo_yes Hno.out); have HC := Lib.hid (cuS_eq hn hs)
  go_enter Try.func91, Try.ntmps91
  go_wp2_with fail
  refine atomC fun W1 e1 => ?_
  have hb1 : Below w.heap.size w W1 := by rw [e1]; (repeat (first | exact Below.refl _ _ | refine Below.alloc ?_ (by first | omega | (simp; try omega)) _ | refine below_setRow ?_ (by omega) _ | refine Below.drew ?_))
  have q1 := hb1.size
  have r1_1 : IsRow W1 (w.heap.size) := by rw [e1]; simp [go_sem]
  have c1_1 := congrArg (fun x => blk x (w.heap.size)) e1; simp [go_sem] at c1_1
  have z1_1 := isRow_lt r1_1
  clear e1
  refine (l02Shape_any _ _ _ _ HF.out).mono ?_; rintro _ W2 ⟨rfl, hw2⟩
  obtain ⟨r1_2, c1_2⟩ := keepB hw2 z1_1 r1_1 c1_1
  have z1_2 := isRow_lt r1_2
  have hb2 := hb1.trans (hw2.mono hb1.size)
  have q2 := hb2.size
  clear hw2 r1_1 c1_1 z1_1 hb1
  go_wp2_with fail
  refine (l02Fault_none p n f _ hp hp' hn HF.out Hno.out).mono ?_; rintro _ W3 ⟨rfl, hw3⟩
  obtain ⟨r1_3, c1_3⟩ := keepB hw3 z1_2 r1_2 c1_2
  have z1_3 := isRow_lt r1_3
  have hb3 := hb2.trans (hw3.mono hb2.size)
  have q3 := hb3.size
  clear hw3 r1_2 c1_2 z1_2 hb2
  go_wp2_with fail
  refine (l02Counits_any p n f _ hp hp' hn HF.out).mono ?_; rintro _ W4 ⟨rfl, hw4⟩
  have hb4 := hb3.trans (hw4.mono hb3.size)
  have q4 := hb4.size
  clear hw4 hb3
  go_wp2_with fail
  go_ret
  exact ⟨ret_bool (by rw [H.out, HN.out, HC.out, Bool.and_true]), (by (repeat (first | exact hb4 | exact Below.refl _ _ | refine Below.alloc ?_ (by first | omega | (simp; try omega)) _ | refine below_setRow ?_ (by omega) _ | refine Below.drew ?_)))⟩

set_option maxRecDepth 100000 in
set_option maxHeartbeats 1000000 in
theorem l02Is_some (p : Int) (n : Nat) (f : Nat → Int) (m : Nat) (w : World) (hp : 0 < p) (hp' : p ≤ 255) (hn : n ≤ 8) (hF : Bytes 520 f) (hs : shapeB p n f = true) (hfi : FirstCo p n f m) :
    Calls Try.prog 91 #[.agg (alg p n f)] w fun e w' => e = .returned (.bool (coB p n f)) ∧ Below w.heap.size w w' := by
  have HF := Lib.hid hF; clear hF
  have Hfi := Lib.hid hfi; clear hfi
  have H := Lib.hid (coB_of hs); have HN := Lib.hid (noCo_no Hfi.out)
  go_enter Try.func91, Try.ntmps91
  go_wp2_with fail
  refine atomC fun W1 e1 => ?_
  have hb1 : Below w.heap.size w W1 := by rw [e1]; (repeat (first | exact Below.refl _ _ | refine Below.alloc ?_ (by first | omega | (simp; try omega)) _ | refine below_setRow ?_ (by omega) _ | refine Below.drew ?_))
  have q1 := hb1.size
  have r1_1 : IsRow W1 (w.heap.size) := by rw [e1]; simp [go_sem]
  have c1_1 := congrArg (fun x => blk x (w.heap.size)) e1; simp [go_sem] at c1_1
  have z1_1 := isRow_lt r1_1
  clear e1
  refine (l02Shape_any _ _ _ _ HF.out).mono ?_; rintro _ W2 ⟨rfl, hw2⟩
  obtain ⟨r1_2, c1_2⟩ := keepB hw2 z1_1 r1_1 c1_1
  have z1_2 := isRow_lt r1_2
  have hb2 := hb1.trans (hw2.mono hb1.size)
  have q2 := hb2.size
  clear hw2 r1_1 c1_1 z1_1 hb1
  go_wp2_with fail
  refine (l02Fault_some p n f m _ hp hp' hn HF.out Hfi.out).mono ?_; rintro _ W3 ⟨b3, rfl, hw3, hl3, rb_3, cb_3⟩
  obtain ⟨r1_3, c1_3⟩ := keepB hw3 z1_2 r1_2 c1_2
  have z1_3 := isRow_lt r1_3
  have hb3 := hb2.trans (hw3.mono hb2.size)
  have q3 := hb3.size
  clear hw3 r1_2 c1_2 z1_2 hb2
  go_wp2_with fail
  go_ret
  exact ⟨ret_bool (by rw [H.out, HN.out, Bool.and_false]), (by (repeat (first | exact hb3 | exact Below.refl _ _ | refine Below.alloc ?_ (by first | omega | (simp; try omega)) _ | refine below_setRow ?_ (by omega) _ | refine Below.drew ?_)))⟩

theorem l02Is_any (p n : Int) (f : Nat → Int) (w : World) (hF : Bytes 520 f) :
    Calls Try.prog 91 #[.agg (alg p n f)] w fun e w' => e = .returned (.bool (coB p n f)) ∧ Below w.heap.size w w' := by
  cases hs : shapeB p n f
  · exact l02Is_no p n f w hF hs
  · have hq := sizes_range (shape_parts hs).1
    obtain ⟨n, rfl⟩ := Int.eq_ofNat_of_zero_le (show 0 ≤ n by omega)
    rcases co_or p n f with h | ⟨m, h⟩
    · exact l02Is_none p n f w (by omega) (by omega) (by omega) hF hs h
    · exact l02Is_some p n f m w (by omega) (by omega) (by omega) hF hs h

/-! ### a coalgebra and m vectors for it -/
def okC (p n : Int) (f : Nat → Int) (m : Nat) (g : Nat → Nat → Int) : Bool := coB p n f && allV p n m g
theorem co_sizes {p n : Int} {f : Nat → Int} (h : coB p n f = true) : sizesB p n = true := by
  unfold coB at h
  simp only [Bool.and_eq_true] at h
  exact (shape_parts h.1).1
theorem co_shape {p n : Int} {f : Nat → Int} (h : coB p n f = true) : shapeB p n f = true := by
  unfold coB at h
  simp only [Bool.and_eq_true] at h
  exact h.1
/-- a list of m vectors lies in block b from off on -/
def VecsAt (w : World) (b off m : Nat) (g : Nat → Nat → Int) : Prop := ∀ i, i < m → off + i * 8 + 8 ≤ (blk w b).size ∧ (blk w b).extract (off + i * 8) (off + i * 8 + 8) = row 8 (g i) ∧ Bytes 8 (g i)
theorem vecs_keep {w W : World} {b off m : Nat} {g : Nat → Nat → Int} (h : VecsAt w b off m g) (e : blk W b = blk w b) : VecsAt W b off m g := by unfold VecsAt; rw [e]; exact h
theorem okC_no {p n : Int} {f : Nat → Int} {m : Nat} {g : Nat → Nat → Int} (hv : (sizesB p n && allV p n m g) = false) : okC p n f m g = false := by
  unfold okC
  cases ha : coB p n f
  · rfl
  · rw [co_sizes ha, Bool.true_and] at hv; rw [hv]; rfl
theorem okC_yes {p n : Int} {f : Nat → Int} {m : Nat} {g : Nat → Nat → Int} (hv : (sizesB p n && allV p n m g) = true) : okC p n f m g = coB p n f := by
  unfold okC
  simp only [Bool.and_eq_true] at hv
  rw [hv.2, Bool.and_true]

end Go.Proofs.Ytnjjcimpcnennaa
