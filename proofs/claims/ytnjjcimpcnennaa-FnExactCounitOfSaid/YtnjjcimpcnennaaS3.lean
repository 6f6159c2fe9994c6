/- The laws on Hopf algebras. -/
import Derived.Test.YtnjjcimpcnennaaR8
namespace Go.Proofs.Ytnjjcimpcnennaa
open Go.RowKit
set_option linter.unusedSimpArgs false
set_option linter.unusedVariables false
attribute [local irreducible] wpQuiet wpQE

def atfR (p n : Int) (f : Nat → Int) : Int := match shapeH p n f with | true => failN p n.toNat f | false => 0
theorem atf_yes {p : Int} {n : Nat} {f : Nat → Int} (h : shapeH p n f = true) : atfR p n f = failN p n f := by unfold atfR; rw [h]; rfl
theorem atf_no {p n : Int} {f : Nat → Int} (h : shapeH p n f = false) : atfR p n f = 0 := by unfold atfR; rw [h]

set_option maxRecDepth 100000 in
set_option maxHeartbeats 1000000 in
theorem axiomThatFails_any (p n : Int) (f : Nat → Int) (w : World) (hF : Bytes 1104 f) :
    Calls Try.prog 15 #[.agg (hop p n f)] w fun e w' => e = .returned (.tuple #[.int .i64 (atfR p n f), .int .i64 (codeB (shapeH p n f))]) ∧ Below w.heap.size w w' := by
  have HF := Lib.hid hF; clear hF
  cases hs : shapeH p n f
  · skip
    have H := Lib.hid (atf_no hs)
    go_enter Try.func15, Try.ntmps15
    go_wp2_with fail
    refine atomC fun W1 e1 => ?_
    have hb1 : Below w.heap.size w W1 := by rw [e1]; (repeat (first | exact Below.refl _ _ | refine Below.alloc ?_ (by first | omega | (simp; try omega)) _ | refine below_setRow ?_ (by omega) _ | refine Below.drew ?_))
    have q1 := hb1.size
    have r1_1 : IsRow W1 (w.heap.size) := by rw [e1]; simp [go_sem]
    have c1_1 := congrArg (fun x => blk x (w.heap.size)) e1; simp [go_sem] at c1_1
    have z1_1 := isRow_lt r1_1
    clear e1
    refine (isShapedHopf_any _ _ _ _ HF.out).mono ?_; rintro _ W2 ⟨rfl, hw2⟩
    obtain ⟨r1_2, c1_2⟩ := keepB hw2 z1_1 r1_1 c1_1
    have z1_2 := isRow_lt r1_2
    have hb2 := hb1.trans (hw2.mono hb1.size)
    have q2 := hb2.size
    clear hw2 r1_1 c1_1 z1_1 hb1
    go_wp2_with fail
    go_ret2
    exact ⟨ret_ii H.out.symm (by rfl), (by (repeat (first | exact hb2 | exact Below.refl _ _ | refine Below.alloc ?_ (by first | omega | (simp; try omega)) _ | refine below_setRow ?_ (by omega) _ | refine Below.drew ?_)))⟩
  · skip
    have Hs := Lib.hid hs
    obtain ⟨hp2, hp31, hn1, hn8⟩ := sizes_range (shapeH_sizes hs)
    obtain ⟨n, rfl⟩ := Int.eq_ofNat_of_zero_le (show 0 ≤ n by omega)
    have hn : n ≤ 8 := by omega
    have hp : 0 < p := by omega
    have hp' : p ≤ 255 := by omega
    have H := Lib.hid (atf_yes hs)
    go_enter Try.func15, Try.ntmps15
    go_wp2_with fail
    refine atomC fun W3 e3 => ?_
    have hb3 : Below w.heap.size w W3 := by rw [e3]; (repeat (first | exact Below.refl _ _ | refine Below.alloc ?_ (by first | omega | (simp; try omega)) _ | refine below_setRow ?_ (by omega) _ | refine Below.drew ?_))
    have q3 := hb3.size
    have r1_3 : IsRow W3 (w.heap.size) := by rw [e3]; simp [go_sem]
    have c1_3 := congrArg (fun x => blk x (w.heap.size)) e3; simp [go_sem] at c1_3
    have z1_3 := isRow_lt r1_3
    clear e3
    refine (isShapedHopf_any _ _ _ _ HF.out).mono ?_; rintro _ W4 ⟨rfl, hw4⟩
    obtain ⟨r1_4, c1_4⟩ := keepB hw4 z1_3 r1_3 c1_3
    have z1_4 := isRow_lt r1_4
    have hb4 := hb3.trans (hw4.mono hb3.size)
    have q4 := hb4.size
    clear hw4 r1_3 c1_3 z1_3 hb3
    go_wp2_with fail
    refine (failingAxiom_any p n f _ hp hp' hn HF.out).mono ?_; rintro _ W5 ⟨rfl, hw5⟩
    have hb5 := hb4.trans (hw5.mono hb4.size)
    have q5 := hb5.size
    clear hw5 hb4
    go_wp2_with fail
    go_ret2
    exact ⟨ret_ii H.out.symm (by rfl), (by (repeat (first | exact hb5 | exact Below.refl _ _ | refine Below.alloc ?_ (by first | omega | (simp; try omega)) _ | refine below_setRow ?_ (by omega) _ | refine Below.drew ?_)))⟩

set_option maxRecDepth 100000 in
set_option maxHeartbeats 1000000 in
theorem specAxiomThatFails_any (p n : Int) (f : Nat → Int) (w : World) (hF : Bytes 1104 f) :
    Calls Try.prog 14 #[.agg (hop p n f)] w fun e w' => e = .returned (.tuple #[.int .i64 (atfR p n f), .int .i64 (codeB (shapeH p n f))]) ∧ Below w.heap.size w w' := by
  have HF := Lib.hid hF; clear hF
  cases hs : shapeH p n f
  · skip
    have H := Lib.hid (atf_no hs)
    go_enter Try.func14, Try.ntmps14
    go_wp2_with fail
    refine atomC fun W1 e1 => ?_
    have hb1 : Below w.heap.size w W1 := by rw [e1]; (repeat (first | exact Below.refl _ _ | refine Below.alloc ?_ (by first | omega | (simp; try omega)) _ | refine below_setRow ?_ (by omega) _ | refine Below.drew ?_))
    have q1 := hb1.size
    have r1_1 : IsRow W1 (w.heap.size) := by rw [e1]; simp [go_sem]
    have c1_1 := congrArg (fun x => blk x (w.heap.size)) e1; simp [go_sem] at c1_1
    have z1_1 := isRow_lt r1_1
    clear e1
    refine (l03Shape_any _ _ _ _ HF.out).mono ?_; rintro _ W2 ⟨rfl, hw2⟩
    obtain ⟨r1_2, c1_2⟩ := keepB hw2 z1_1 r1_1 c1_1
    have z1_2 := isRow_lt r1_2
    have hb2 := hb1.trans (hw2.mono hb1.size)
    have q2 := hb2.size
    clear hw2 r1_1 c1_1 z1_1 hb1
    go_wp2_with fail
    go_ret2
    exact ⟨ret_ii H.out.symm (by rfl), (by (repeat (first | exact hb2 | exact Below.refl _ _ | refine Below.alloc ?_ (by first | omega | (simp; try omega)) _ | refine below_setRow ?_ (by omega) _ | refine Below.drew ?_)))⟩
  · skip
    have Hs := Lib.hid hs
    obtain ⟨hp2, hp31, hn1, hn8⟩ := sizes_range (shapeH_sizes hs)
    obtain ⟨n, rfl⟩ := Int.eq_ofNat_of_zero_le (show 0 ≤ n by omega)
    have hn : n ≤ 8 := by omega
    have hp : 0 < p := by omega
    have hp' : p ≤ 255 := by omega
    have H := Lib.hid (atf_yes hs)
    go_enter Try.func14, Try.ntmps14
    go_wp2_with fail
    refine atomC fun W3 e3 => ?_
    have hb3 : Below w.heap.size w W3 := by rw [e3]; (repeat (first | exact Below.refl _ _ | refine Below.alloc ?_ (by first | omega | (simp; try omega)) _ | refine below_setRow ?_ (by omega) _ | refine Below.drew ?_))
    have q3 := hb3.size
    have r1_3 : IsRow W3 (w.heap.size) := by rw [e3]; simp [go_sem]
    have c1_3 := congrArg (fun x => blk x (w.heap.size)) e3; simp [go_sem] at c1_3
    have z1_3 := isRow_lt r1_3
    clear e3
    refine (l03Shape_any _ _ _ _ HF.out).mono ?_; rintro _ W4 ⟨rfl, hw4⟩
    obtain ⟨r1_4, c1_4⟩ := keepB hw4 z1_3 r1_3 c1_3
    have z1_4 := isRow_lt r1_4
    have hb4 := hb3.trans (hw4.mono hb3.size)
    have q4 := hb4.size
    clear hw4 r1_3 c1_3 z1_3 hb3
    go_wp2_with fail
    refine (l03Fails_any p n f _ hp hp' hn HF.out Hs.out).mono ?_; rintro _ W5 ⟨rfl, hw5⟩
    have hb5 := hb4.trans (hw5.mono hb4.size)
    have q5 := hb5.size
    clear hw5 hb4
    go_wp2_with fail
    go_ret2
    exact ⟨ret_ii H.out.symm (by rfl), (by (repeat (first | exact hb5 | exact Below.refl _ _ | refine Below.alloc ?_ (by first | omega | (simp; try omega)) _ | refine below_setRow ?_ (by omega) _ | refine Below.drew ?_)))⟩

set_option maxRecDepth 100000 in
set_option maxHeartbeats 1000000 in
theorem algebraOfHopf_any (p n : Int) (f : Nat → Int) (w : World) (hF : Bytes 1104 f) :
    Calls Try.prog 17 #[.agg (hop p n f)] w fun e w' => e = .returned (.tuple #[.agg (alg (onlyI (hopfB p n f) p) (onlyI (hopfB p n f) n) (onlyF (hopfB p n f) f)), .int .i64 (codeB (hopfB p n f))]) ∧ Below w.heap.size w w' := by
  have HF := Lib.hid hF; clear hF
  cases hc : hopfB p n f
  · skip
    go_enter Try.func17, Try.ntmps17
    go_wp2_with fail
    refine atomC fun W1 e1 => ?_
    have hb1 : Below w.heap.size w W1 := by rw [e1]; (repeat (first | exact Below.refl _ _ | refine Below.alloc ?_ (by first | omega | (simp; try omega)) _ | refine below_setRow ?_ (by omega) _ | refine Below.drew ?_))
    have q1 := hb1.size
    have R1 : IsRow W1 (w.heap.size) ∧ IsRow W1 (w.heap.size + 1) := by rw [e1]; simp [go_sem]
    obtain ⟨r1_1, r2_1⟩ := R1
    have C1 := (⟨congrArg (blk · (w.heap.size)) e1, congrArg (blk · (w.heap.size + 1)) e1⟩ : _ ∧ _); simp [go_sem] at C1
    obtain ⟨c1_1, c2_1⟩ := C1
    have z1_1 := isRow_lt r1_1; have z2_1 := isRow_lt r2_1
    clear e1
    refine (isHopf_any _ _ _ _ HF.out).mono ?_; rintro _ W2 ⟨rfl, hw2⟩
    obtain ⟨r1_2, c1_2⟩ := keepB hw2 z1_1 r1_1 c1_1
    have z1_2 := isRow_lt r1_2
    obtain ⟨r2_2, c2_2⟩ := keepB hw2 z2_1 r2_1 c2_1
    have z2_2 := isRow_lt r2_2
    have hb2 := hb1.trans (hw2.mono hb1.size)
    have q2 := hb2.size
    clear hw2 r1_1 c1_1 z1_1 r2_1 c2_1 z2_1 hb1
    go_wp2_with fail
    refine bodyPost_ret (result_cell_tmp rfl aggAlg _ _ (alg 0 0 zf) _ _ rfl rfl ?_ ?_) rfl ⟨by rfl, ?_⟩
    · simp [go_sem, r1_2, c1_2, r2_2, c2_2]
    · simp [go_sem, r1_2, c1_2, r2_2, c2_2]
    · repeat (first | exact hb2 | exact Below.refl _ _ | refine Below.alloc ?_ (by first | omega | (simp; try omega)) _ | refine below_setRow ?_ (by omega) _ | refine Below.drew ?_)
  · skip
    go_enter Try.func17, Try.ntmps17
    go_wp2_with fail
    refine atomC fun W3 e3 => ?_
    have hb3 : Below w.heap.size w W3 := by rw [e3]; (repeat (first | exact Below.refl _ _ | refine Below.alloc ?_ (by first | omega | (simp; try omega)) _ | refine below_setRow ?_ (by omega) _ | refine Below.drew ?_))
    have q3 := hb3.size
    have R3 : IsRow W3 (w.heap.size) ∧ IsRow W3 (w.heap.size + 1) := by rw [e3]; simp [go_sem]
    obtain ⟨r1_3, r2_3⟩ := R3
    have C3 := (⟨congrArg (blk · (w.heap.size)) e3, congrArg (blk · (w.heap.size + 1)) e3⟩ : _ ∧ _); simp [go_sem] at C3
    obtain ⟨c1_3, c2_3⟩ := C3
    have z1_3 := isRow_lt r1_3; have z2_3 := isRow_lt r2_3
    clear e3
    refine (isHopf_any _ _ _ _ HF.out).mono ?_; rintro _ W4 ⟨rfl, hw4⟩
    obtain ⟨r1_4, c1_4⟩ := keepB hw4 z1_3 r1_3 c1_3
    have z1_4 := isRow_lt r1_4
    obtain ⟨r2_4, c2_4⟩ := keepB hw4 z2_3 r2_3 c2_3
    have z2_4 := isRow_lt r2_4
    have hb4 := hb3.trans (hw4.mono hb3.size)
    have q4 := hb4.size
    clear hw4 r1_3 c1_3 z1_3 r2_3 c2_3 z2_3 hb3
    go_wp2_with fail
    refine (algebraOf_any _ _ _ _).mono ?_; rintro _ W5 ⟨rfl, hw5⟩
    obtain ⟨r2_5, c2_5⟩ := keepB hw5 z2_4 r2_4 c2_4
    have z2_5 := isRow_lt r2_5
    have hb5 := hb4.trans (hw5.mono hb4.size)
    have q5 := hb5.size
    clear hw5 r2_4 c2_4 z2_4 hb4
    go_wp2_with fail
    refine bodyPost_ret (result_cell_tmp rfl aggAlg _ _ (alg p n f) _ _ rfl rfl ?_ ?_) rfl ⟨by rfl, ?_⟩
    · simp [go_sem, r2_5, c2_5]
    · simp [go_sem, r2_5, c2_5]
    · repeat (first | exact hb5 | exact Below.refl _ _ | refine Below.alloc ?_ (by first | omega | (simp; try omega)) _ | refine below_setRow ?_ (by omega) _ | refine Below.drew ?_)

set_option maxRecDepth 100000 in
set_option maxHeartbeats 1000000 in
theorem specAlgebraOf_any (p n : Int) (f : Nat → Int) (w : World) (hF : Bytes 1104 f) :
    Calls Try.prog 16 #[.agg (hop p n f)] w fun e w' => e = .returned (.tuple #[.agg (alg (onlyI (hopfB p n f) p) (onlyI (hopfB p n f) n) (onlyF (hopfB p n f) f)), .int .i64 (codeB (hopfB p n f))]) ∧ Below w.heap.size w w' := by
  have HF := Lib.hid hF; clear hF
  cases hc : hopfB p n f
  · skip
    go_enter Try.func16, Try.ntmps16
    go_wp2_with fail
    refine atomC fun W1 e1 => ?_
    have hb1 : Below w.heap.size w W1 := by rw [e1]; (repeat (first | exact Below.refl _ _ | refine Below.alloc ?_ (by first | omega | (simp; try omega)) _ | refine below_setRow ?_ (by omega) _ | refine Below.drew ?_))
    have q1 := hb1.size
    have R1 : IsRow W1 (w.heap.size) ∧ IsRow W1 (w.heap.size + 1) := by rw [e1]; simp [go_sem]
    obtain ⟨r1_1, r2_1⟩ := R1
    have C1 := (⟨congrArg (blk · (w.heap.size)) e1, congrArg (blk · (w.heap.size + 1)) e1⟩ : _ ∧ _); simp [go_sem] at C1
    obtain ⟨c1_1, c2_1⟩ := C1
    have z1_1 := isRow_lt r1_1; have z2_1 := isRow_lt r2_1
    clear e1
    refine (l03Is_any _ _ _ _ HF.out).mono ?_; rintro _ W2 ⟨rfl, hw2⟩
    obtain ⟨r1_2, c1_2⟩ := keepB hw2 z1_1 r1_1 c1_1
    have z1_2 := isRow_lt r1_2
    obtain ⟨r2_2, c2_2⟩ := keepB hw2 z2_1 r2_1 c2_1
    have z2_2 := isRow_lt r2_2
    have hb2 := hb1.trans (hw2.mono hb1.size)
    have q2 := hb2.size
    clear hw2 r1_1 c1_1 z1_1 r2_1 c2_1 z2_1 hb1
    go_wp2_with fail
    refine bodyPost_ret (result_cell_tmp rfl aggAlg _ _ (alg 0 0 zf) _ _ rfl rfl ?_ ?_) rfl ⟨by rfl, ?_⟩
    · simp [go_sem, r1_2, c1_2, r2_2, c2_2]
    · simp [go_sem, r1_2, c1_2, r2_2, c2_2]
    · repeat (first | exact hb2 | exact Below.refl _ _ | refine Below.alloc ?_ (by first | omega | (simp; try omega)) _ | refine below_setRow ?_ (by omega) _ | refine Below.drew ?_)
  · skip
    go_enter Try.func16, Try.ntmps16
    go_wp2_with fail
    refine atomC fun W3 e3 => ?_
    have hb3 : Below w.heap.size w W3 := by rw [e3]; (repeat (first | exact Below.refl _ _ | refine Below.alloc ?_ (by first | omega | (simp; try omega)) _ | refine below_setRow ?_ (by omega) _ | refine Below.drew ?_))
    have q3 := hb3.size
    have R3 : IsRow W3 (w.heap.size) ∧ IsRow W3 (w.heap.size + 1) := by rw [e3]; simp [go_sem]
    obtain ⟨r1_3, r2_3⟩ := R3
    have C3 := (⟨congrArg (blk · (w.heap.size)) e3, congrArg (blk · (w.heap.size + 1)) e3⟩ : _ ∧ _); simp [go_sem] at C3
    obtain ⟨c1_3, c2_3⟩ := C3
    have z1_3 := isRow_lt r1_3; have z2_3 := isRow_lt r2_3
    clear e3
    refine (l03Is_any _ _ _ _ HF.out).mono ?_; rintro _ W4 ⟨rfl, hw4⟩
    obtain ⟨r1_4, c1_4⟩ := keepB hw4 z1_3 r1_3 c1_3
    have z1_4 := isRow_lt r1_4
    obtain ⟨r2_4, c2_4⟩ := keepB hw4 z2_3 r2_3 c2_3
    have z2_4 := isRow_lt r2_4
    have hb4 := hb3.trans (hw4.mono hb3.size)
    have q4 := hb4.size
    clear hw4 r1_3 c1_3 z1_3 r2_3 c2_3 z2_3 hb3
    go_wp2_with fail
    refine (l03Algebra_any _ _ _ _).mono ?_; rintro _ W5 ⟨rfl, hw5⟩
    obtain ⟨r2_5, c2_5⟩ := keepB hw5 z2_4 r2_4 c2_4
    have z2_5 := isRow_lt r2_5
    have hb5 := hb4.trans (hw5.mono hb4.size)
    have q5 := hb5.size
    clear hw5 r2_4 c2_4 z2_4 hb4
    go_wp2_with fail
    refine bodyPost_ret (result_cell_tmp rfl aggAlg _ _ (alg p n f) _ _ rfl rfl ?_ ?_) rfl ⟨by rfl, ?_⟩
    · simp [go_sem, r2_5, c2_5]
    · simp [go_sem, r2_5, c2_5]
    · repeat (first | exact hb5 | exact Below.refl _ _ | refine Below.alloc ?_ (by first | omega | (simp; try omega)) _ | refine below_setRow ?_ (by omega) _ | refine Below.drew ?_)

set_option maxRecDepth 100000 in
set_option maxHeartbeats 1000000 in
theorem coalgebraOfHopf_any (p n : Int) (f : Nat → Int) (w : World) (hF : Bytes 1104 f) :
    Calls Try.prog 20 #[.agg (hop p n f)] w fun e w' => e = .returned (.tuple #[.agg (alg (onlyI (hopfB p n f) p) (onlyI (hopfB p n f) n) (onlyF (hopfB p n f) (coF f))), .int .i64 (codeB (hopfB p n f))]) ∧ Below w.heap.size w w' := by
  have HF := Lib.hid hF; clear hF
  cases hc : hopfB p n f
  · skip
    go_enter Try.func20, Try.ntmps20
    go_wp2_with fail
    refine atomC fun W1 e1 => ?_
    have hb1 : Below w.heap.size w W1 := by rw [e1]; (repeat (first | exact Below.refl _ _ | refine Below.alloc ?_ (by first | omega | (simp; try omega)) _ | refine below_setRow ?_ (by omega) _ | refine Below.drew ?_))
    have q1 := hb1.size
    have R1 : IsRow W1 (w.heap.size) ∧ IsRow W1 (w.heap.size + 1) := by rw [e1]; simp [go_sem]
    obtain ⟨r1_1, r2_1⟩ := R1
    have C1 := (⟨congrArg (blk · (w.heap.size)) e1, congrArg (blk · (w.heap.size + 1)) e1⟩ : _ ∧ _); simp [go_sem] at C1
    obtain ⟨c1_1, c2_1⟩ := C1
    have z1_1 := isRow_lt r1_1; have z2_1 := isRow_lt r2_1
    clear e1
    refine (isHopf_any _ _ _ _ HF.out).mono ?_; rintro _ W2 ⟨rfl, hw2⟩
    obtain ⟨r1_2, c1_2⟩ := keepB hw2 z1_1 r1_1 c1_1
    have z1_2 := isRow_lt r1_2
    obtain ⟨r2_2, c2_2⟩ := keepB hw2 z2_1 r2_1 c2_1
    have z2_2 := isRow_lt r2_2
    have hb2 := hb1.trans (hw2.mono hb1.size)
    have q2 := hb2.size
    clear hw2 r1_1 c1_1 z1_1 r2_1 c2_1 z2_1 hb1
    go_wp2_with fail
    refine bodyPost_ret (result_cell_tmp rfl aggCoa _ _ (alg 0 0 zf) _ _ rfl rfl ?_ ?_) rfl ⟨by rfl, ?_⟩
    · simp [go_sem, r1_2, c1_2, r2_2, c2_2]
    · simp [go_sem, r1_2, c1_2, r2_2, c2_2]
    · repeat (first | exact hb2 | exact Below.refl _ _ | refine Below.alloc ?_ (by first | omega | (simp; try omega)) _ | refine below_setRow ?_ (by omega) _ | refine Below.drew ?_)
  · skip
    go_enter Try.func20, Try.ntmps20
    go_wp2_with fail
    refine atomC fun W3 e3 => ?_
    have hb3 : Below w.heap.size w W3 := by rw [e3]; (repeat (first | exact Below.refl _ _ | refine Below.alloc ?_ (by first | omega | (simp; try omega)) _ | refine below_setRow ?_ (by omega) _ | refine Below.drew ?_))
    have q3 := hb3.size
    have R3 : IsRow W3 (w.heap.size) ∧ IsRow W3 (w.heap.size + 1) := by rw [e3]; simp [go_sem]
    obtain ⟨r1_3, r2_3⟩ := R3
    have C3 := (⟨congrArg (blk · (w.heap.size)) e3, congrArg (blk · (w.heap.size + 1)) e3⟩ : _ ∧ _); simp [go_sem] at C3
    obtain ⟨c1_3, c2_3⟩ := C3
    have z1_3 := isRow_lt r1_3; have z2_3 := isRow_lt r2_3
    clear e3
    refine (isHopf_any _ _ _ _ HF.out).mono ?_; rintro _ W4 ⟨rfl, hw4⟩
    obtain ⟨r1_4, c1_4⟩ := keepB hw4 z1_3 r1_3 c1_3
    have z1_4 := isRow_lt r1_4
    obtain ⟨r2_4, c2_4⟩ := keepB hw4 z2_3 r2_3 c2_3
    have z2_4 := isRow_lt r2_4
    have hb4 := hb3.trans (hw4.mono hb3.size)
    have q4 := hb4.size
    clear hw4 r1_3 c1_3 z1_3 r2_3 c2_3 z2_3 hb3
    go_wp2_with fail
    refine (coalgebraOf_any _ _ _ _).mono ?_; rintro _ W5 ⟨rfl, hw5⟩
    obtain ⟨r2_5, c2_5⟩ := keepB hw5 z2_4 r2_4 c2_4
    have z2_5 := isRow_lt r2_5
    have hb5 := hb4.trans (hw5.mono hb4.size)
    have q5 := hb5.size
    clear hw5 r2_4 c2_4 z2_4 hb4
    go_wp2_with fail
    refine bodyPost_ret (result_cell_tmp rfl aggCoa _ _ (alg p n (coF f)) _ _ rfl rfl ?_ ?_) rfl ⟨by rfl, ?_⟩
    · simp [go_sem, r2_5, c2_5]
    · simp [go_sem, r2_5, c2_5]
    · repeat (first | exact hb5 | exact Below.refl _ _ | refine Below.alloc ?_ (by first | omega | (simp; try omega)) _ | refine below_setRow ?_ (by omega) _ | refine Below.drew ?_)

set_option maxRecDepth 100000 in
set_option maxHeartbeats 1000000 in
theorem specCoalgebraOf_any (p n : Int) (f : Nat → Int) (w : World) (hF : Bytes 1104 f) :
    Calls Try.prog 19 #[.agg (hop p n f)] w fun e w' => e = .returned (.tuple #[.agg (alg (onlyI (hopfB p n f) p) (onlyI (hopfB p n f) n) (onlyF (hopfB p n f) (coF f))), .int .i64 (codeB (hopfB p n f))]) ∧ Below w.heap.size w w' := by
  have HF := Lib.hid hF; clear hF
  cases hc : hopfB p n f
  · skip
    go_enter Try.func19, Try.ntmps19
    go_wp2_with fail
    refine atomC fun W1 e1 => ?_
    have hb1 : Below w.heap.size w W1 := by rw [e1]; (repeat (first | exact Below.refl _ _ | refine Below.alloc ?_ (by first | omega | (simp; try omega)) _ | refine below_setRow ?_ (by omega) _ | refine Below.drew ?_))
    have q1 := hb1.size
    have R1 : IsRow W1 (w.heap.size) ∧ IsRow W1 (w.heap.size + 1) := by rw [e1]; simp [go_sem]
    obtain ⟨r1_1, r2_1⟩ := R1
    have C1 := (⟨congrArg (blk · (w.heap.size)) e1, congrArg (blk · (w.heap.size + 1)) e1⟩ : _ ∧ _); simp [go_sem] at C1
    obtain ⟨c1_1, c2_1⟩ := C1
    have z1_1 := isRow_lt r1_1; have z2_1 := isRow_lt r2_1
    clear e1
    refine (l03Is_any _ _ _ _ HF.out).mono ?_; rintro _ W2 ⟨rfl, hw2⟩
    obtain ⟨r1_2, c1_2⟩ := keepB hw2 z1_1 r1_1 c1_1
    have z1_2 := isRow_lt r1_2
    obtain ⟨r2_2, c2_2⟩ := keepB hw2 z2_1 r2_1 c2_1
    have z2_2 := isRow_lt r2_2
    have hb2 := hb1.trans (hw2.mono hb1.size)
    have q2 := hb2.size
    clear hw2 r1_1 c1_1 z1_1 r2_1 c2_1 z2_1 hb1
    go_wp2_with fail
    refine bodyPost_ret (result_cell_tmp rfl aggCoa _ _ (alg 0 0 zf) _ _ rfl rfl ?_ ?_) rfl ⟨by rfl, ?_⟩
    · simp [go_sem, r1_2, c1_2, r2_2, c2_2]
    · simp [go_sem, r1_2, c1_2, r2_2, c2_2]
    · repeat (first | exact hb2 | exact Below.refl _ _ | refine Below.alloc ?_ (by first | omega | (simp; try omega)) _ | refine below_setRow ?_ (by omega) _ | refine Below.drew ?_)
  · skip
    go_enter Try.func19, Try.ntmps19
    go_wp2_with fail
    refine atomC fun W3 e3 => ?_
    have hb3 : Below w.heap.size w W3 := by rw [e3]; (repeat (first | exact Below.refl _ _ | refine Below.alloc ?_ (by first | omega | (simp; try omega)) _ | refine below_setRow ?_ (by omega) _ | refine Below.drew ?_))
    have q3 := hb3.size
    have R3 : IsRow W3 (w.heap.size) ∧ IsRow W3 (w.heap.size + 1) := by rw [e3]; simp [go_sem]
    obtain ⟨r1_3, r2_3⟩ := R3
    have C3 := (⟨congrArg (blk · (w.heap.size)) e3, congrArg (blk · (w.heap.size + 1)) e3⟩ : _ ∧ _); simp [go_sem] at C3
    obtain ⟨c1_3, c2_3⟩ := C3
    have z1_3 := isRow_lt r1_3; have z2_3 := isRow_lt r2_3
    clear e3
    refine (l03Is_any _ _ _ _ HF.out).mono ?_; rintro _ W4 ⟨rfl, hw4⟩
    obtain ⟨r1_4, c1_4⟩ := keepB hw4 z1_3 r1_3 c1_3
    have z1_4 := isRow_lt r1_4
    obtain ⟨r2_4, c2_4⟩ := keepB hw4 z2_3 r2_3 c2_3
    have z2_4 := isRow_lt r2_4
    have hb4 := hb3.trans (hw4.mono hb3.size)
    have q4 := hb4.size
    clear hw4 r1_3 c1_3 z1_3 r2_3 c2_3 z2_3 hb3
    go_wp2_with fail
    refine (l03Coalgebra_any _ _ _ _).mono ?_; rintro _ W5 ⟨rfl, hw5⟩
    obtain ⟨r2_5, c2_5⟩ := keepB hw5 z2_4 r2_4 c2_4
    have z2_5 := isRow_lt r2_5
    have hb5 := hb4.trans (hw5.mono hb4.size)
    have q5 := hb5.size
    clear hw5 r2_4 c2_4 z2_4 hb4
    go_wp2_with fail
    refine bodyPost_ret (result_cell_tmp rfl aggCoa _ _ (alg p n (coF f)) _ _ rfl rfl ?_ ?_) rfl ⟨by rfl, ?_⟩
    · simp [go_sem, r2_5, c2_5]
    · simp [go_sem, r2_5, c2_5]
    · repeat (first | exact hb5 | exact Below.refl _ _ | refine Below.alloc ?_ (by first | omega | (simp; try omega)) _ | refine below_setRow ?_ (by omega) _ | refine Below.drew ?_)

theorem okH_zero {p : Int} {n : Nat} {f v : Nat → Int} (h : okH p n f 1 (nth v) = true) (i : Nat) (h1 : n ≤ i) (h2 : i < 8) : v i = 0 := by have := (okH_vec h i h2).2; omega
theorem app_full {p : Int} {n : Nat} {g : Nat → Nat → Int} {v : Nat → Int} (hn : n ≤ 8) (hv : ∀ i, n ≤ i → i < 8 → v i = 0) : row 8 (appF p n g v) = row 8 (appF p 8 g v) := row_congr fun k _ => by
  unfold appF
  rw [sumTo_more (n := n) (fun i h1 h2 => by rw [hv i h1 h2, Int.zero_mul]) hn]

set_option maxRecDepth 100000 in
set_option maxHeartbeats 1000000 in
theorem counitOf_any (p n : Int) (f v : Nat → Int) (w : World) (hF : Bytes 1104 f) (hv : Bytes 8 v) :
    Calls Try.prog 27 #[.agg (hop p n f), .agg (row 8 v)] w fun e w' => e = .returned (.tuple #[.int .i64 (onlyI (okH p n f 1 (nth v)) (dotF 8 (coF f) v % p)), .int .i64 (codeB (okH p n f 1 (nth v)))]) ∧ Below w.heap.size w w' := by
  have HF := Lib.hid hF; clear hF
  have Hv := Lib.hid hv; clear hv
  cases hc : okH p n f 1 (nth v)
  · skip
    go_enter Try.func27, Try.ntmps27
    go_wp2_with fail
    refine atomC fun W1 e1 => ?_
    have hb1 : Below w.heap.size w W1 := by rw [e1]; (repeat (first | exact Below.refl _ _ | refine Below.alloc ?_ (by first | omega | (simp; try omega)) _ | refine below_setRow ?_ (by omega) _ | refine Below.drew ?_))
    have q1 := hb1.size
    have R1 : IsRow W1 (w.heap.size) ∧ IsRow W1 (w.heap.size + 1) ∧ IsRow W1 (w.heap.size + 2) := by rw [e1]; simp [go_sem]
    obtain ⟨r2_1, r3_1, r8_1⟩ := R1
    have C1 := (⟨congrArg (blk · (w.heap.size)) e1, congrArg (blk · (w.heap.size + 1)) e1, congrArg (blk · (w.heap.size + 2)) e1⟩ : _ ∧ _ ∧ _); simp [go_sem] at C1
    obtain ⟨c2_1, c3_1, c8_1⟩ := C1
    have z2_1 := isRow_lt r2_1; have z3_1 := isRow_lt r3_1; have z8_1 := isRow_lt r8_1
    clear e1
    refine (isHopfWith_any _ _ _ _ 0 1 1 (nth v) _ HF.out (by omega) r8_1 (vecs1 c8_1 Hv.out)).mono ?_; rintro _ W2 ⟨rfl, hw2⟩
    obtain ⟨r2_2, c2_2⟩ := keepB hw2 z2_1 r2_1 c2_1
    have z2_2 := isRow_lt r2_2
    obtain ⟨r3_2, c3_2⟩ := keepB hw2 z3_1 r3_1 c3_1
    have z3_2 := isRow_lt r3_2
    obtain ⟨r8_2, c8_2⟩ := keepB hw2 z8_1 r8_1 c8_1
    have z8_2 := isRow_lt r8_2
    have hb2 := hb1.trans (hw2.mono hb1.size)
    have q2 := hb2.size
    clear hw2 r2_1 c2_1 z2_1 r3_1 c3_1 z3_1 r8_1 c8_1 z8_1 hb1
    go_wp2_with fail
    go_ret2
    exact ⟨ret_ii (by rfl) (by rfl), (by (repeat (first | exact hb2 | exact Below.refl _ _ | refine Below.alloc ?_ (by first | omega | (simp; try omega)) _ | refine below_setRow ?_ (by omega) _ | refine Below.drew ?_)))⟩
  · skip
    have hs := hopf_shape (okH_hopf hc)
    have Hk := Lib.hid hc
    have Hs := Lib.hid hs
    obtain ⟨hp2, hp31, hn1, hn8⟩ := sizes_range (shapeH_sizes hs)
    obtain ⟨n, rfl⟩ := Int.eq_ofNat_of_zero_le (show 0 ≤ n by omega)
    have hn : n ≤ 8 := by omega
    have hp : 0 < p := by omega
    have hp' : p ≤ 255 := by omega
    go_enter Try.func27, Try.ntmps27
    go_wp2_with fail
    refine atomC fun W3 e3 => ?_
    have hb3 : Below w.heap.size w W3 := by rw [e3]; (repeat (first | exact Below.refl _ _ | refine Below.alloc ?_ (by first | omega | (simp; try omega)) _ | refine below_setRow ?_ (by omega) _ | refine Below.drew ?_))
    have q3 := hb3.size
    have R3 : IsRow W3 (w.heap.size) ∧ IsRow W3 (w.heap.size + 1) ∧ IsRow W3 (w.heap.size + 2) := by rw [e3]; simp [go_sem]
    obtain ⟨r2_3, r3_3, r8_3⟩ := R3
    have C3 := (⟨congrArg (blk · (w.heap.size)) e3, congrArg (blk · (w.heap.size + 1)) e3, congrArg (blk · (w.heap.size + 2)) e3⟩ : _ ∧ _ ∧ _); simp [go_sem] at C3
    obtain ⟨c2_3, c3_3, c8_3⟩ := C3
    have z2_3 := isRow_lt r2_3; have z3_3 := isRow_lt r3_3; have z8_3 := isRow_lt r8_3
    clear e3
    refine (isHopfWith_any _ _ _ _ 0 1 1 (nth v) _ HF.out (by omega) r8_3 (vecs1 c8_3 Hv.out)).mono ?_; rintro _ W4 ⟨rfl, hw4⟩
    obtain ⟨r2_4, c2_4⟩ := keepB hw4 z2_3 r2_3 c2_3
    have z2_4 := isRow_lt r2_4
    obtain ⟨r3_4, c3_4⟩ := keepB hw4 z3_3 r3_3 c3_3
    have z3_4 := isRow_lt r3_4
    obtain ⟨r8_4, c8_4⟩ := keepB hw4 z8_3 r8_3 c8_3
    have z8_4 := isRow_lt r8_4
    have hb4 := hb3.trans (hw4.mono hb3.size)
    have q4 := hb4.size
    clear hw4 r2_3 c2_3 z2_3 r3_3 c3_3 z3_3 r8_3 c8_3 z8_3 hb3
    go_wp2_with fail
    refine (formValue_any p (coF f) v _ hp hp' (co_unit HF.out) Hv.out).mono ?_; rintro _ W5 ⟨rfl, hw5⟩
    have hb5 := hb4.trans (hw5.mono hb4.size)
    have q5 := hb5.size
    clear hw5 hb4
    go_wp2_with fail
    go_ret2
    exact ⟨ret_ii (by rfl) (by rfl), (by (repeat (first | exact hb5 | exact Below.refl _ _ | refine Below.alloc ?_ (by first | omega | (simp; try omega)) _ | refine below_setRow ?_ (by omega) _ | refine Below.drew ?_)))⟩

set_option maxRecDepth 100000 in
set_option maxHeartbeats 1000000 in
theorem specCounitOf_any (p n : Int) (f v : Nat → Int) (w : World) (hF : Bytes 1104 f) (hv : Bytes 8 v) :
    Calls Try.prog 26 #[.agg (hop p n f), .agg (row 8 v)] w fun e w' => e = .returned (.tuple #[.int .i64 (onlyI (okH p n f 1 (nth v)) (dotF 8 (coF f) v % p)), .int .i64 (codeB (okH p n f 1 (nth v)))]) ∧ Below w.heap.size w w' := by
  have HF := Lib.hid hF; clear hF
  have Hv := Lib.hid hv; clear hv
  cases hc : okH p n f 1 (nth v)
  · skip
    have hc1 : codeB false = 1 := rfl
    go_enter Try.func26, Try.ntmps26
    go_wp2_with fail
    refine atomC fun W1 e1 => ?_
    have hb1 : Below w.heap.size w W1 := by rw [e1]; (repeat (first | exact Below.refl _ _ | refine Below.alloc ?_ (by first | omega | (simp; try omega)) _ | refine below_setRow ?_ (by omega) _ | refine Below.drew ?_))
    have q1 := hb1.size
    have R1 : IsRow W1 (w.heap.size) ∧ IsRow W1 (w.heap.size + 1) ∧ IsRow W1 (w.heap.size + 2) := by rw [e1]; simp [go_sem]
    obtain ⟨r2_1, r3_1, r9_1⟩ := R1
    have C1 := (⟨congrArg (blk · (w.heap.size)) e1, congrArg (blk · (w.heap.size + 1)) e1, congrArg (blk · (w.heap.size + 2)) e1⟩ : _ ∧ _ ∧ _); simp [go_sem] at C1
    obtain ⟨c2_1, c3_1, c9_1⟩ := C1
    have z2_1 := isRow_lt r2_1; have z3_1 := isRow_lt r3_1; have z9_1 := isRow_lt r9_1
    clear e1
    refine (l03Code_any _ _ _ _ 0 1 1 (nth v) _ HF.out (by omega) r9_1 (vecs1 c9_1 Hv.out)).mono ?_; rintro _ W2 ⟨rfl, hw2⟩
    obtain ⟨r2_2, c2_2⟩ := keepB hw2 z2_1 r2_1 c2_1
    have z2_2 := isRow_lt r2_2
    obtain ⟨r3_2, c3_2⟩ := keepB hw2 z3_1 r3_1 c3_1
    have z3_2 := isRow_lt r3_2
    obtain ⟨r9_2, c9_2⟩ := keepB hw2 z9_1 r9_1 c9_1
    have z9_2 := isRow_lt r9_2
    have hb2 := hb1.trans (hw2.mono hb1.size)
    have q2 := hb2.size
    clear hw2 r2_1 c2_1 z2_1 r3_1 c3_1 z3_1 r9_1 c9_1 z9_1 hb1
    go_wp2_with fail
    go_ret2
    exact ⟨ret_ii (by rfl) (by rfl), (by (repeat (first | exact hb2 | exact Below.refl _ _ | refine Below.alloc ?_ (by first | omega | (simp; try omega)) _ | refine below_setRow ?_ (by omega) _ | refine Below.drew ?_)))⟩
  · skip
    have hs := hopf_shape (okH_hopf hc)
    have Hk := Lib.hid hc
    have Hs := Lib.hid hs
    obtain ⟨hp2, hp31, hn1, hn8⟩ := sizes_range (shapeH_sizes hs)
    obtain ⟨n, rfl⟩ := Int.eq_ofNat_of_zero_le (show 0 ≤ n by omega)
    have hn : n ≤ 8 := by omega
    have hp : 0 < p := by omega
    have hp' : p ≤ 255 := by omega
    have hc1 : codeB true = 0 := rfl
    have HD := Lib.hid (dot_full (u := coF f) hn (okH_zero Hk.out))
    go_enter Try.func26, Try.ntmps26
    go_wp2_with fail
    refine atomC fun W3 e3 => ?_
    have hb3 : Below w.heap.size w W3 := by rw [e3]; (repeat (first | exact Below.refl _ _ | refine Below.alloc ?_ (by first | omega | (simp; try omega)) _ | refine below_setRow ?_ (by omega) _ | refine Below.drew ?_))
    have q3 := hb3.size
    have R3 : IsRow W3 (w.heap.size) ∧ IsRow W3 (w.heap.size + 1) ∧ IsRow W3 (w.heap.size + 2) := by rw [e3]; simp [go_sem]
    obtain ⟨r2_3, r3_3, r9_3⟩ := R3
    have C3 := (⟨congrArg (blk · (w.heap.size)) e3, congrArg (blk · (w.heap.size + 1)) e3, congrArg (blk · (w.heap.size + 2)) e3⟩ : _ ∧ _ ∧ _); simp [go_sem] at C3
    obtain ⟨c2_3, c3_3, c9_3⟩ := C3
    have z2_3 := isRow_lt r2_3; have z3_3 := isRow_lt r3_3; have z9_3 := isRow_lt r9_3
    clear e3
    refine (l03Code_any _ _ _ _ 0 1 1 (nth v) _ HF.out (by omega) r9_3 (vecs1 c9_3 Hv.out)).mono ?_; rintro _ W4 ⟨rfl, hw4⟩
    obtain ⟨r2_4, c2_4⟩ := keepB hw4 z2_3 r2_3 c2_3
    have z2_4 := isRow_lt r2_4
    obtain ⟨r3_4, c3_4⟩ := keepB hw4 z3_3 r3_3 c3_3
    have z3_4 := isRow_lt r3_4
    obtain ⟨r9_4, c9_4⟩ := keepB hw4 z9_3 r9_3 c9_3
    have z9_4 := isRow_lt r9_4
    have hb4 := hb3.trans (hw4.mono hb3.size)
    have q4 := hb4.size
    clear hw4 r2_3 c2_3 z2_3 r3_3 c3_3 z3_3 r9_3 c9_3 z9_3 hb3
    go_wp2_with fail
    refine (l03Counit_any p n f v _ hp hp' hn HF.out Hv.out).mono ?_; rintro _ W5 ⟨rfl, hw5⟩
    have hb5 := hb4.trans (hw5.mono hb4.size)
    have q5 := hb5.size
    clear hw5 hb4
    go_wp2_with fail
    go_ret2
    exact ⟨ret_ii (by rw [HD.out]; rfl) (by rfl), (by (repeat (first | exact hb5 | exact Below.refl _ _ | refine Below.alloc ?_ (by first | omega | (simp; try omega)) _ | refine below_setRow ?_ (by omega) _ | refine Below.drew ?_)))⟩

set_option maxRecDepth 100000 in
set_option maxHeartbeats 1000000 in
theorem coproductOf_any (p n : Int) (f v : Nat → Int) (w : World) (hF : Bytes 1104 f) (hv : Bytes 8 v) :
    Calls Try.prog 24 #[.agg (hop p n f), .agg (row 8 v)] w fun e w' => e = .returned (.tuple #[.agg (row 64 (onlyF (okH p n f 1 (nth v)) (copF p (coF f) v 8))), .int .i64 (codeB (okH p n f 1 (nth v)))]) ∧ Below w.heap.size w w' := by
  have HF := Lib.hid hF; clear hF
  have Hv := Lib.hid hv; clear hv
  cases hc : okH p n f 1 (nth v)
  · skip
    go_enter Try.func24, Try.ntmps24
    go_wp2_with fail
    refine atomC fun W1 e1 => ?_
    have hb1 : Below w.heap.size w W1 := by rw [e1]; (repeat (first | exact Below.refl _ _ | refine Below.alloc ?_ (by first | omega | (simp; try omega)) _ | refine below_setRow ?_ (by omega) _ | refine Below.drew ?_))
    have q1 := hb1.size
    have R1 : IsRow W1 (w.heap.size) ∧ IsRow W1 (w.heap.size + 1) ∧ IsRow W1 (w.heap.size + 2) ∧ IsRow W1 (w.heap.size + 3) := by rw [e1]; simp [go_sem]
    obtain ⟨r2_1, r3_1, r4_1, r8_1⟩ := R1
    have C1 := (⟨congrArg (blk · (w.heap.size)) e1, congrArg (blk · (w.heap.size + 1)) e1, congrArg (blk · (w.heap.size + 2)) e1, congrArg (blk · (w.heap.size + 3)) e1⟩ : _ ∧ _ ∧ _ ∧ _); simp [go_sem] at C1
    obtain ⟨c2_1, c3_1, c4_1, c8_1⟩ := C1
    have z2_1 := isRow_lt r2_1; have z3_1 := isRow_lt r3_1; have z4_1 := isRow_lt r4_1; have z8_1 := isRow_lt r8_1
    clear e1
    refine (isHopfWith_any _ _ _ _ 0 1 1 (nth v) _ HF.out (by omega) r8_1 (vecs1 c8_1 Hv.out)).mono ?_; rintro _ W2 ⟨rfl, hw2⟩
    obtain ⟨r2_2, c2_2⟩ := keepB hw2 z2_1 r2_1 c2_1
    have z2_2 := isRow_lt r2_2
    obtain ⟨r3_2, c3_2⟩ := keepB hw2 z3_1 r3_1 c3_1
    have z3_2 := isRow_lt r3_2
    obtain ⟨r4_2, c4_2⟩ := keepB hw2 z4_1 r4_1 c4_1
    have z4_2 := isRow_lt r4_2
    obtain ⟨r8_2, c8_2⟩ := keepB hw2 z8_1 r8_1 c8_1
    have z8_2 := isRow_lt r8_2
    have hb2 := hb1.trans (hw2.mono hb1.size)
    have q2 := hb2.size
    clear hw2 r2_1 c2_1 z2_1 r3_1 c3_1 z3_1 r4_1 c4_1 z4_1 r8_1 c8_1 z8_1 hb1
    go_wp2_with fail
    refine bodyPost_ret (result_cell_tmp rfl aggLin _ _ (row 64 zf) _ _ rfl rfl ?_ ?_) rfl ⟨by rfl, ?_⟩
    · simp [go_sem, r2_2, c2_2, r3_2, c3_2, r4_2, c4_2, r8_2, c8_2]
    · simp [go_sem, r2_2, c2_2, r3_2, c3_2, r4_2, c4_2, r8_2, c8_2]
    · repeat (first | exact hb2 | exact Below.refl _ _ | refine Below.alloc ?_ (by first | omega | (simp; try omega)) _ | refine below_setRow ?_ (by omega) _ | refine Below.drew ?_)
  · skip
    have hs := hopf_shape (okH_hopf hc)
    have Hk := Lib.hid hc
    have Hs := Lib.hid hs
    obtain ⟨hp2, hp31, hn1, hn8⟩ := sizes_range (shapeH_sizes hs)
    obtain ⟨n, rfl⟩ := Int.eq_ofNat_of_zero_le (show 0 ≤ n by omega)
    have hn : n ≤ 8 := by omega
    have hp : 0 < p := by omega
    have hp' : p ≤ 255 := by omega
    go_enter Try.func24, Try.ntmps24
    go_wp2_with fail
    refine atomC fun W3 e3 => ?_
    have hb3 : Below w.heap.size w W3 := by rw [e3]; (repeat (first | exact Below.refl _ _ | refine Below.alloc ?_ (by first | omega | (simp; try omega)) _ | refine below_setRow ?_ (by omega) _ | refine Below.drew ?_))
    have q3 := hb3.size
    have R3 : IsRow W3 (w.heap.size) ∧ IsRow W3 (w.heap.size + 1) ∧ IsRow W3 (w.heap.size + 2) ∧ IsRow W3 (w.heap.size + 3) := by rw [e3]; simp [go_sem]
    obtain ⟨r2_3, r3_3, r4_3, r8_3⟩ := R3
    have C3 := (⟨congrArg (blk · (w.heap.size)) e3, congrArg (blk · (w.heap.size + 1)) e3, congrArg (blk · (w.heap.size + 2)) e3, congrArg (blk · (w.heap.size + 3)) e3⟩ : _ ∧ _ ∧ _ ∧ _); simp [go_sem] at C3
    obtain ⟨c2_3, c3_3, c4_3, c8_3⟩ := C3
    have z2_3 := isRow_lt r2_3; have z3_3 := isRow_lt r3_3; have z4_3 := isRow_lt r4_3; have z8_3 := isRow_lt r8_3
    clear e3
    refine (isHopfWith_any _ _ _ _ 0 1 1 (nth v) _ HF.out (by omega) r8_3 (vecs1 c8_3 Hv.out)).mono ?_; rintro _ W4 ⟨rfl, hw4⟩
    obtain ⟨r2_4, c2_4⟩ := keepB hw4 z2_3 r2_3 c2_3
    have z2_4 := isRow_lt r2_4
    obtain ⟨r3_4, c3_4⟩ := keepB hw4 z3_3 r3_3 c3_3
    have z3_4 := isRow_lt r3_4
    obtain ⟨r4_4, c4_4⟩ := keepB hw4 z4_3 r4_3 c4_3
    have z4_4 := isRow_lt r4_4
    obtain ⟨r8_4, c8_4⟩ := keepB hw4 z8_3 r8_3 c8_3
    have z8_4 := isRow_lt r8_4
    have hb4 := hb3.trans (hw4.mono hb3.size)
    have q4 := hb4.size
    clear hw4 r2_3 c2_3 z2_3 r3_3 c3_3 z3_3 r4_3 c4_3 z4_3 r8_3 c8_3 z8_3 hb3
    go_wp2
    refine wp_quiet_tail 4 (Below W4.heap.size W4) (by kernel_rfl) (by kernel_rfl) (Below.refl _ _).drew ?_
    simp only [List.take_succ_cons, List.take_zero, List.drop_succ_cons, List.drop_zero]
    iterate 1 (refine q_plain rfl ?_; apply Exists.intro; refine ⟨fun W hW => ?_, ?_⟩; (focus (obtain ⟨x2, y2⟩ := keepB hW z2_4 r2_4 c2_4; obtain ⟨x3, y3⟩ := keepB hW z3_4 r3_4 c3_4; obtain ⟨x4, y4⟩ := keepB hW z4_4 r4_4 c4_4; go_simp; first | done | rfl)); simp only [Act.put, List.setIfInBounds_toArray, List.set_cons_zero, List.set_cons_succ])
    (refine q_plain rfl ?_; apply Exists.intro; refine ⟨fun W hW => ?_, ?_⟩; (focus (obtain ⟨x2, y2⟩ := keepB hW z2_4 r2_4 c2_4; obtain ⟨x3, y3⟩ := keepB hW z3_4 r3_4 c3_4; obtain ⟨x4, y4⟩ := keepB hW z4_4 r4_4 c4_4; go_simp; (go_at_call 44; exact (coalgebraOf_any _ _ _ _).mono fun e w2 ⟨he, hw2⟩ => ⟨he, hW.trans (hw2.mono hW.size)⟩))); simp only [Act.put, List.setIfInBounds_toArray, List.set_cons_zero, List.set_cons_succ])
    iterate 1 (refine q_plain rfl ?_; apply Exists.intro; refine ⟨fun W hW => ?_, ?_⟩; (focus (obtain ⟨x2, y2⟩ := keepB hW z2_4 r2_4 c2_4; obtain ⟨x3, y3⟩ := keepB hW z3_4 r3_4 c3_4; obtain ⟨x4, y4⟩ := keepB hW z4_4 r4_4 c4_4; go_simp; first | done | rfl)); simp only [Act.put, List.setIfInBounds_toArray, List.set_cons_zero, List.set_cons_succ])
    (refine q_plain rfl ?_; apply Exists.intro; refine ⟨fun W hW => ?_, ?_⟩; (focus (obtain ⟨x2, y2⟩ := keepB hW z2_4 r2_4 c2_4; obtain ⟨x3, y3⟩ := keepB hW z3_4 r3_4 c3_4; obtain ⟨x4, y4⟩ := keepB hW z4_4 r4_4 c4_4; go_simp; (go_at_call 48; exact (coproduct_any p n (coF f) v _ hp hp' (co_bytes HF.out) Hv.out).mono fun e w2 ⟨he, hw2⟩ => ⟨he, hW.trans (hw2.mono hW.size)⟩))); simp only [Act.put, List.setIfInBounds_toArray, List.set_cons_zero, List.set_cons_succ])
    refine wpQuiet_nil ?_
    intro W5 hw5
    obtain ⟨r2_5, c2_5⟩ := keepB hw5 z2_4 r2_4 c2_4
    have z2_5 := isRow_lt r2_5
    obtain ⟨r3_5, c3_5⟩ := keepB hw5 z3_4 r3_4 c3_4
    have z3_5 := isRow_lt r3_5
    obtain ⟨r4_5, c4_5⟩ := keepB hw5 z4_4 r4_4 c4_4
    have z4_5 := isRow_lt r4_5
    have hb5 := hb4.trans (hw5.mono hb4.size)
    have q5 := hb5.size
    clear hw5 r2_4 c2_4 z2_4 r3_4 c3_4 z3_4 r4_4 c4_4 z4_4 hb4
    go_wp2_with fail
    refine bodyPost_ret (result_cell_tmp rfl aggLin _ _ (row 64 (copF p (coF f) v 8)) _ _ rfl rfl ?_ ?_) rfl ⟨by rfl, ?_⟩
    · simp [go_sem, r2_5, c2_5, r3_5, c3_5, r4_5, c4_5]
    · simp [go_sem, r2_5, c2_5, r3_5, c3_5, r4_5, c4_5]
    · repeat (first | exact hb5 | exact Below.refl _ _ | refine Below.alloc ?_ (by first | omega | (simp; try omega)) _ | refine below_setRow ?_ (by omega) _ | refine Below.drew ?_)

set_option maxRecDepth 100000 in
set_option maxHeartbeats 1000000 in
theorem specCoproductOf_any (p n : Int) (f v : Nat → Int) (w : World) (hF : Bytes 1104 f) (hv : Bytes 8 v) :
    Calls Try.prog 22 #[.agg (hop p n f), .agg (row 8 v)] w fun e w' => e = .returned (.tuple #[.agg (row 64 (onlyF (okH p n f 1 (nth v)) (copF p (coF f) v 8))), .int .i64 (codeB (okH p n f 1 (nth v)))]) ∧ Below w.heap.size w w' := by
  have HF := Lib.hid hF; clear hF
  have Hv := Lib.hid hv; clear hv
  cases hc : okH p n f 1 (nth v)
  · skip
    have hc1 : codeB false = 1 := rfl
    go_enter Try.func22, Try.ntmps22
    go_wp2_with fail
    refine atomC fun W1 e1 => ?_
    have hb1 : Below w.heap.size w W1 := by rw [e1]; (repeat (first | exact Below.refl _ _ | refine Below.alloc ?_ (by first | omega | (simp; try omega)) _ | refine below_setRow ?_ (by omega) _ | refine Below.drew ?_))
    have q1 := hb1.size
    have R1 : IsRow W1 (w.heap.size) ∧ IsRow W1 (w.heap.size + 1) ∧ IsRow W1 (w.heap.size + 2) ∧ IsRow W1 (w.heap.size + 3) := by rw [e1]; simp [go_sem]
    obtain ⟨r2_1, r3_1, r4_1, r9_1⟩ := R1
    have C1 := (⟨congrArg (blk · (w.heap.size)) e1, congrArg (blk · (w.heap.size + 1)) e1, congrArg (blk · (w.heap.size + 2)) e1, congrArg (blk · (w.heap.size + 3)) e1⟩ : _ ∧ _ ∧ _ ∧ _); simp [go_sem] at C1
    obtain ⟨c2_1, c3_1, c4_1, c9_1⟩ := C1
    have z2_1 := isRow_lt r2_1; have z3_1 := isRow_lt r3_1; have z4_1 := isRow_lt r4_1; have z9_1 := isRow_lt r9_1
    clear e1
    refine (l03Code_any _ _ _ _ 0 1 1 (nth v) _ HF.out (by omega) r9_1 (vecs1 c9_1 Hv.out)).mono ?_; rintro _ W2 ⟨rfl, hw2⟩
    obtain ⟨r2_2, c2_2⟩ := keepB hw2 z2_1 r2_1 c2_1
    have z2_2 := isRow_lt r2_2
    obtain ⟨r3_2, c3_2⟩ := keepB hw2 z3_1 r3_1 c3_1
    have z3_2 := isRow_lt r3_2
    obtain ⟨r4_2, c4_2⟩ := keepB hw2 z4_1 r4_1 c4_1
    have z4_2 := isRow_lt r4_2
    obtain ⟨r9_2, c9_2⟩ := keepB hw2 z9_1 r9_1 c9_1
    have z9_2 := isRow_lt r9_2
    have hb2 := hb1.trans (hw2.mono hb1.size)
    have q2 := hb2.size
    clear hw2 r2_1 c2_1 z2_1 r3_1 c3_1 z3_1 r4_1 c4_1 z4_1 r9_1 c9_1 z9_1 hb1
    go_wp2_with fail
    refine bodyPost_ret (result_cell_tmp rfl aggLin _ _ (row 64 zf) _ _ rfl rfl ?_ ?_) rfl ⟨by rfl, ?_⟩
    · simp [go_sem, r2_2, c2_2, r3_2, c3_2, r4_2, c4_2, r9_2, c9_2]
    · simp [go_sem, r2_2, c2_2, r3_2, c3_2, r4_2, c4_2, r9_2, c9_2]
    · repeat (first | exact hb2 | exact Below.refl _ _ | refine Below.alloc ?_ (by first | omega | (simp; try omega)) _ | refine below_setRow ?_ (by omega) _ | refine Below.drew ?_)
  · skip
    have hs := hopf_shape (okH_hopf hc)
    have Hk := Lib.hid hc
    have Hs := Lib.hid hs
    obtain ⟨hp2, hp31, hn1, hn8⟩ := sizes_range (shapeH_sizes hs)
    obtain ⟨n, rfl⟩ := Int.eq_ofNat_of_zero_le (show 0 ≤ n by omega)
    have hn : n ≤ 8 := by omega
    have hp : 0 < p := by omega
    have hp' : p ≤ 255 := by omega
    have hc1 : codeB true = 0 := rfl
    have HD := Lib.hid (row_congr (copS_full (v := v) hn Hs.out))
    go_enter Try.func22, Try.ntmps22
    go_wp2_with fail
    refine atomC fun W3 e3 => ?_
    have hb3 : Below w.heap.size w W3 := by rw [e3]; (repeat (first | exact Below.refl _ _ | refine Below.alloc ?_ (by first | omega | (simp; try omega)) _ | refine below_setRow ?_ (by omega) _ | refine Below.drew ?_))
    have q3 := hb3.size
    have R3 : IsRow W3 (w.heap.size) ∧ IsRow W3 (w.heap.size + 1) ∧ IsRow W3 (w.heap.size + 2) ∧ IsRow W3 (w.heap.size + 3) := by rw [e3]; simp [go_sem]
    obtain ⟨r2_3, r3_3, r4_3, r9_3⟩ := R3
    have C3 := (⟨congrArg (blk · (w.heap.size)) e3, congrArg (blk · (w.heap.size + 1)) e3, congrArg (blk · (w.heap.size + 2)) e3, congrArg (blk · (w.heap.size + 3)) e3⟩ : _ ∧ _ ∧ _ ∧ _); simp [go_sem] at C3
    obtain ⟨c2_3, c3_3, c4_3, c9_3⟩ := C3
    have z2_3 := isRow_lt r2_3; have z3_3 := isRow_lt r3_3; have z4_3 := isRow_lt r4_3; have z9_3 := isRow_lt r9_3
    clear e3
    refine (l03Code_any _ _ _ _ 0 1 1 (nth v) _ HF.out (by omega) r9_3 (vecs1 c9_3 Hv.out)).mono ?_; rintro _ W4 ⟨rfl, hw4⟩
    obtain ⟨r2_4, c2_4⟩ := keepB hw4 z2_3 r2_3 c2_3
    have z2_4 := isRow_lt r2_4
    obtain ⟨r3_4, c3_4⟩ := keepB hw4 z3_3 r3_3 c3_3
    have z3_4 := isRow_lt r3_4
    obtain ⟨r4_4, c4_4⟩ := keepB hw4 z4_3 r4_3 c4_3
    have z4_4 := isRow_lt r4_4
    obtain ⟨r9_4, c9_4⟩ := keepB hw4 z9_3 r9_3 c9_3
    have z9_4 := isRow_lt r9_4
    have hb4 := hb3.trans (hw4.mono hb3.size)
    have q4 := hb4.size
    clear hw4 r2_3 c2_3 z2_3 r3_3 c3_3 z3_3 r4_3 c4_3 z4_3 r9_3 c9_3 z9_3 hb3
    go_wp2_with fail
    refine (l03Coproduct_any p n f v _ hp hp' hn HF.out Hv.out).mono ?_; rintro _ W5 ⟨rfl, hw5⟩
    obtain ⟨r4_5, c4_5⟩ := keepB hw5 z4_4 r4_4 c4_4
    have z4_5 := isRow_lt r4_5
    have hb5 := hb4.trans (hw5.mono hb4.size)
    have q5 := hb5.size
    clear hw5 r4_4 c4_4 z4_4 hb4
    go_wp2_with fail
    refine bodyPost_ret (result_cell_tmp rfl aggLin _ _ (row 64 (copS p (coF f) v n n 0)) _ _ rfl rfl ?_ ?_) rfl ⟨by rw [HD.out]; rfl, ?_⟩
    · simp [go_sem, r4_5, c4_5]
    · simp [go_sem, r4_5, c4_5]
    · repeat (first | exact hb5 | exact Below.refl _ _ | refine Below.alloc ?_ (by first | omega | (simp; try omega)) _ | refine below_setRow ?_ (by omega) _ | refine Below.drew ?_)

set_option maxRecDepth 100000 in
set_option maxHeartbeats 1000000 in
theorem antipodeOf_any (p n : Int) (f v : Nat → Int) (w : World) (hF : Bytes 1104 f) (hv : Bytes 8 v) :
    Calls Try.prog 29 #[.agg (hop p n f), .agg (row 8 v)] w fun e w' => e = .returned (.tuple #[.agg (row 8 (onlyF (okH p n f 1 (nth v)) (appF p 8 (fun j k => anF f (j * 8 + k)) v))), .int .i64 (codeB (okH p n f 1 (nth v)))]) ∧ Below w.heap.size w w' := by
  have HF := Lib.hid hF; clear hF
  have Hv := Lib.hid hv; clear hv
  cases hc : okH p n f 1 (nth v)
  · skip
    go_enter Try.func29, Try.ntmps29
    go_wp2_with fail
    refine atomC fun W1 e1 => ?_
    have hb1 : Below w.heap.size w W1 := by rw [e1]; (repeat (first | exact Below.refl _ _ | refine Below.alloc ?_ (by first | omega | (simp; try omega)) _ | refine below_setRow ?_ (by omega) _ | refine Below.drew ?_))
    have q1 := hb1.size
    have R1 : IsRow W1 (w.heap.size) ∧ IsRow W1 (w.heap.size + 1) ∧ IsRow W1 (w.heap.size + 2) ∧ IsRow W1 (w.heap.size + 3) := by rw [e1]; simp [go_sem]
    obtain ⟨r2_1, r3_1, r4_1, r8_1⟩ := R1
    have C1 := (⟨congrArg (blk · (w.heap.size)) e1, congrArg (blk · (w.heap.size + 1)) e1, congrArg (blk · (w.heap.size + 2)) e1, congrArg (blk · (w.heap.size + 3)) e1⟩ : _ ∧ _ ∧ _ ∧ _); simp [go_sem] at C1
    obtain ⟨c2_1, c3_1, c4_1, c8_1⟩ := C1
    have z2_1 := isRow_lt r2_1; have z3_1 := isRow_lt r3_1; have z4_1 := isRow_lt r4_1; have z8_1 := isRow_lt r8_1
    clear e1
    refine (isHopfWith_any _ _ _ _ 0 1 1 (nth v) _ HF.out (by omega) r8_1 (vecs1 c8_1 Hv.out)).mono ?_; rintro _ W2 ⟨rfl, hw2⟩
    obtain ⟨r2_2, c2_2⟩ := keepB hw2 z2_1 r2_1 c2_1
    have z2_2 := isRow_lt r2_2
    obtain ⟨r3_2, c3_2⟩ := keepB hw2 z3_1 r3_1 c3_1
    have z3_2 := isRow_lt r3_2
    obtain ⟨r4_2, c4_2⟩ := keepB hw2 z4_1 r4_1 c4_1
    have z4_2 := isRow_lt r4_2
    obtain ⟨r8_2, c8_2⟩ := keepB hw2 z8_1 r8_1 c8_1
    have z8_2 := isRow_lt r8_2
    have hb2 := hb1.trans (hw2.mono hb1.size)
    have q2 := hb2.size
    clear hw2 r2_1 c2_1 z2_1 r3_1 c3_1 z3_1 r4_1 c4_1 z4_1 r8_1 c8_1 z8_1 hb1
    go_wp2_with fail
    refine bodyPost_ret (result_cell_tmp rfl aggVec _ _ (row 8 zf) _ _ rfl rfl ?_ ?_) rfl ⟨by rfl, ?_⟩
    · simp [go_sem, r2_2, c2_2, r3_2, c3_2, r4_2, c4_2, r8_2, c8_2]
    · simp [go_sem, r2_2, c2_2, r3_2, c3_2, r4_2, c4_2, r8_2, c8_2]
    · repeat (first | exact hb2 | exact Below.refl _ _ | refine Below.alloc ?_ (by first | omega | (simp; try omega)) _ | refine below_setRow ?_ (by omega) _ | refine Below.drew ?_)
  · skip
    have hs := hopf_shape (okH_hopf hc)
    have Hk := Lib.hid hc
    have Hs := Lib.hid hs
    obtain ⟨hp2, hp31, hn1, hn8⟩ := sizes_range (shapeH_sizes hs)
    obtain ⟨n, rfl⟩ := Int.eq_ofNat_of_zero_le (show 0 ≤ n by omega)
    have hn : n ≤ 8 := by omega
    have hp : 0 < p := by omega
    have hp' : p ≤ 255 := by omega
    go_enter Try.func29, Try.ntmps29
    go_wp2_with fail
    refine atomC fun W3 e3 => ?_
    have hb3 : Below w.heap.size w W3 := by rw [e3]; (repeat (first | exact Below.refl _ _ | refine Below.alloc ?_ (by first | omega | (simp; try omega)) _ | refine below_setRow ?_ (by omega) _ | refine Below.drew ?_))
    have q3 := hb3.size
    have R3 : IsRow W3 (w.heap.size) ∧ IsRow W3 (w.heap.size + 1) ∧ IsRow W3 (w.heap.size + 2) ∧ IsRow W3 (w.heap.size + 3) := by rw [e3]; simp [go_sem]
    obtain ⟨r2_3, r3_3, r4_3, r8_3⟩ := R3
    have C3 := (⟨congrArg (blk · (w.heap.size)) e3, congrArg (blk · (w.heap.size + 1)) e3, congrArg (blk · (w.heap.size + 2)) e3, congrArg (blk · (w.heap.size + 3)) e3⟩ : _ ∧ _ ∧ _ ∧ _); simp [go_sem] at C3
    obtain ⟨c2_3, c3_3, c4_3, c8_3⟩ := C3
    have z2_3 := isRow_lt r2_3; have z3_3 := isRow_lt r3_3; have z4_3 := isRow_lt r4_3; have z8_3 := isRow_lt r8_3
    clear e3
    refine (isHopfWith_any _ _ _ _ 0 1 1 (nth v) _ HF.out (by omega) r8_3 (vecs1 c8_3 Hv.out)).mono ?_; rintro _ W4 ⟨rfl, hw4⟩
    obtain ⟨r2_4, c2_4⟩ := keepB hw4 z2_3 r2_3 c2_3
    have z2_4 := isRow_lt r2_4
    obtain ⟨r3_4, c3_4⟩ := keepB hw4 z3_3 r3_3 c3_3
    have z3_4 := isRow_lt r3_4
    obtain ⟨r4_4, c4_4⟩ := keepB hw4 z4_3 r4_3 c4_3
    have z4_4 := isRow_lt r4_4
    obtain ⟨r8_4, c8_4⟩ := keepB hw4 z8_3 r8_3 c8_3
    have z8_4 := isRow_lt r8_4
    have hb4 := hb3.trans (hw4.mono hb3.size)
    have q4 := hb4.size
    clear hw4 r2_3 c2_3 z2_3 r3_3 c3_3 z3_3 r4_3 c4_3 z4_3 r8_3 c8_3 z8_3 hb3
    go_wp2_with fail
    refine (applyLinear_any p (anF f) v _ hp hp' (an_bytes HF.out) Hv.out).mono ?_; rintro _ W5 ⟨rfl, hw5⟩
    obtain ⟨r4_5, c4_5⟩ := keepB hw5 z4_4 r4_4 c4_4
    have z4_5 := isRow_lt r4_5
    have hb5 := hb4.trans (hw5.mono hb4.size)
    have q5 := hb5.size
    clear hw5 r4_4 c4_4 z4_4 hb4
    go_wp2_with fail
    refine bodyPost_ret (result_cell_tmp rfl aggVec _ _ (row 8 (appF p 8 (fun j k => anF f (j * 8 + k)) v)) _ _ rfl rfl ?_ ?_) rfl ⟨by rfl, ?_⟩
    · simp [go_sem, r4_5, c4_5]
    · simp [go_sem, r4_5, c4_5]
    · repeat (first | exact hb5 | exact Below.refl _ _ | refine Below.alloc ?_ (by first | omega | (simp; try omega)) _ | refine below_setRow ?_ (by omega) _ | refine Below.drew ?_)

set_option maxRecDepth 100000 in
set_option maxHeartbeats 1000000 in
theorem specAntipodeOf_any (p n : Int) (f v : Nat → Int) (w : World) (hF : Bytes 1104 f) (hv : Bytes 8 v) :
    Calls Try.prog 28 #[.agg (hop p n f), .agg (row 8 v)] w fun e w' => e = .returned (.tuple #[.agg (row 8 (onlyF (okH p n f 1 (nth v)) (appF p 8 (fun j k => anF f (j * 8 + k)) v))), .int .i64 (codeB (okH p n f 1 (nth v)))]) ∧ Below w.heap.size w w' := by
  have HF := Lib.hid hF; clear hF
  have Hv := Lib.hid hv; clear hv
  cases hc : okH p n f 1 (nth v)
  · skip
    have hc1 : codeB false = 1 := rfl
    go_enter Try.func28, Try.ntmps28
    go_wp2_with fail
    refine atomC fun W1 e1 => ?_
    have hb1 : Below w.heap.size w W1 := by rw [e1]; (repeat (first | exact Below.refl _ _ | refine Below.alloc ?_ (by first | omega | (simp; try omega)) _ | refine below_setRow ?_ (by omega) _ | refine Below.drew ?_))
    have q1 := hb1.size
    have R1 : IsRow W1 (w.heap.size) ∧ IsRow W1 (w.heap.size + 1) ∧ IsRow W1 (w.heap.size + 2) ∧ IsRow W1 (w.heap.size + 3) := by rw [e1]; simp [go_sem]
    obtain ⟨r2_1, r3_1, r4_1, r9_1⟩ := R1
    have C1 := (⟨congrArg (blk · (w.heap.size)) e1, congrArg (blk · (w.heap.size + 1)) e1, congrArg (blk · (w.heap.size + 2)) e1, congrArg (blk · (w.heap.size + 3)) e1⟩ : _ ∧ _ ∧ _ ∧ _); simp [go_sem] at C1
    obtain ⟨c2_1, c3_1, c4_1, c9_1⟩ := C1
    have z2_1 := isRow_lt r2_1; have z3_1 := isRow_lt r3_1; have z4_1 := isRow_lt r4_1; have z9_1 := isRow_lt r9_1
    clear e1
    refine (l03Code_any _ _ _ _ 0 1 1 (nth v) _ HF.out (by omega) r9_1 (vecs1 c9_1 Hv.out)).mono ?_; rintro _ W2 ⟨rfl, hw2⟩
    obtain ⟨r2_2, c2_2⟩ := keepB hw2 z2_1 r2_1 c2_1
    have z2_2 := isRow_lt r2_2
    obtain ⟨r3_2, c3_2⟩ := keepB hw2 z3_1 r3_1 c3_1
    have z3_2 := isRow_lt r3_2
    obtain ⟨r4_2, c4_2⟩ := keepB hw2 z4_1 r4_1 c4_1
    have z4_2 := isRow_lt r4_2
    obtain ⟨r9_2, c9_2⟩ := keepB hw2 z9_1 r9_1 c9_1
    have z9_2 := isRow_lt r9_2
    have hb2 := hb1.trans (hw2.mono hb1.size)
    have q2 := hb2.size
    clear hw2 r2_1 c2_1 z2_1 r3_1 c3_1 z3_1 r4_1 c4_1 z4_1 r9_1 c9_1 z9_1 hb1
    go_wp2_with fail
    refine bodyPost_ret (result_cell_tmp rfl aggVec _ _ (row 8 zf) _ _ rfl rfl ?_ ?_) rfl ⟨by rfl, ?_⟩
    · simp [go_sem, r2_2, c2_2, r3_2, c3_2, r4_2, c4_2, r9_2, c9_2]
    · simp [go_sem, r2_2, c2_2, r3_2, c3_2, r4_2, c4_2, r9_2, c9_2]
    · repeat (first | exact hb2 | exact Below.refl _ _ | refine Below.alloc ?_ (by first | omega | (simp; try omega)) _ | refine below_setRow ?_ (by omega) _ | refine Below.drew ?_)
  · skip
    have hs := hopf_shape (okH_hopf hc)
    have Hk := Lib.hid hc
    have Hs := Lib.hid hs
    obtain ⟨hp2, hp31, hn1, hn8⟩ := sizes_range (shapeH_sizes hs)
    obtain ⟨n, rfl⟩ := Int.eq_ofNat_of_zero_le (show 0 ≤ n by omega)
    have hn : n ≤ 8 := by omega
    have hp : 0 < p := by omega
    have hp' : p ≤ 255 := by omega
    have hc1 : codeB true = 0 := rfl
    have HD := Lib.hid (app_full (p := p) (g := fun j k => anF f (j * 8 + k)) hn (okH_zero Hk.out))
    go_enter Try.func28, Try.ntmps28
    go_wp2_with fail
    refine atomC fun W3 e3 => ?_
    have hb3 : Below w.heap.size w W3 := by rw [e3]; (repeat (first | exact Below.refl _ _ | refine Below.alloc ?_ (by first | omega | (simp; try omega)) _ | refine below_setRow ?_ (by omega) _ | refine Below.drew ?_))
    have q3 := hb3.size
    have R3 : IsRow W3 (w.heap.size) ∧ IsRow W3 (w.heap.size + 1) ∧ IsRow W3 (w.heap.size + 2) ∧ IsRow W3 (w.heap.size + 3) := by rw [e3]; simp [go_sem]
    obtain ⟨r2_3, r3_3, r4_3, r9_3⟩ := R3
    have C3 := (⟨congrArg (blk · (w.heap.size)) e3, congrArg (blk · (w.heap.size + 1)) e3, congrArg (blk · (w.heap.size + 2)) e3, congrArg (blk · (w.heap.size + 3)) e3⟩ : _ ∧ _ ∧ _ ∧ _); simp [go_sem] at C3
    obtain ⟨c2_3, c3_3, c4_3, c9_3⟩ := C3
    have z2_3 := isRow_lt r2_3; have z3_3 := isRow_lt r3_3; have z4_3 := isRow_lt r4_3; have z9_3 := isRow_lt r9_3
    clear e3
    refine (l03Code_any _ _ _ _ 0 1 1 (nth v) _ HF.out (by omega) r9_3 (vecs1 c9_3 Hv.out)).mono ?_; rintro _ W4 ⟨rfl, hw4⟩
    obtain ⟨r2_4, c2_4⟩ := keepB hw4 z2_3 r2_3 c2_3
    have z2_4 := isRow_lt r2_4
    obtain ⟨r3_4, c3_4⟩ := keepB hw4 z3_3 r3_3 c3_3
    have z3_4 := isRow_lt r3_4
    obtain ⟨r4_4, c4_4⟩ := keepB hw4 z4_3 r4_3 c4_3
    have z4_4 := isRow_lt r4_4
    obtain ⟨r9_4, c9_4⟩ := keepB hw4 z9_3 r9_3 c9_3
    have z9_4 := isRow_lt r9_4
    have hb4 := hb3.trans (hw4.mono hb3.size)
    have q4 := hb4.size
    clear hw4 r2_3 c2_3 z2_3 r3_3 c3_3 z3_3 r4_3 c4_3 z4_3 r9_3 c9_3 z9_3 hb3
    go_wp2_with fail
    refine (l01Apply_any p n (anF f) v _ hp hp' hn (an_bytes HF.out) Hv.out).mono ?_; rintro _ W5 ⟨rfl, hw5⟩
    obtain ⟨r4_5, c4_5⟩ := keepB hw5 z4_4 r4_4 c4_4
    have z4_5 := isRow_lt r4_5
    have hb5 := hb4.trans (hw5.mono hb4.size)
    have q5 := hb5.size
    clear hw5 r4_4 c4_4 z4_4 hb4
    go_wp2_with fail
    refine bodyPost_ret (result_cell_tmp rfl aggVec _ _ (row 8 (appF p n (fun j k => anF f (j * 8 + k)) v)) _ _ rfl rfl ?_ ?_) rfl ⟨by rw [HD.out]; rfl, ?_⟩
    · simp [go_sem, r4_5, c4_5]
    · simp [go_sem, r4_5, c4_5]
    · repeat (first | exact hb5 | exact Below.refl _ _ | refine Below.alloc ?_ (by first | omega | (simp; try omega)) _ | refine below_setRow ?_ (by omega) _ | refine Below.drew ?_)

set_option maxRecDepth 100000 in
set_option maxHeartbeats 2000000 in
theorem lawIsHopf (fp fn : Int) (f : Nat → Int) (w : World) (_wfp : (Lit.int .i64 fp).wf = true) (_wfn : (Lit.int .i64 fn).wf = true) (hf : Bytes 1104 f) :
    Calls Try.prog 3 #[.agg (hop fp fn f)] w fun e w' => e = .returned (.bool true) ∧ Below w.heap.size w w' := by
  have Hf := Lib.hid hf; clear hf
  go_enter Try.func3, Try.ntmps3
  go_wp2_with fail
  refine atomC fun W1 e1 => ?_
  have hb1 : Below w.heap.size w W1 := by rw [e1]; (repeat (first | exact Below.refl _ _ | refine Below.alloc ?_ (by first | omega | (simp; try omega)) _ | refine below_setRow ?_ (by omega) _ | refine Below.drew ?_))
  have q1 := hb1.size
  have r1_1 : IsRow W1 (w.heap.size) := by rw [e1]; simp [go_sem]
  have c1_1 := congrArg (fun x => blk x (w.heap.size)) e1; simp [go_sem] at c1_1
  have z1_1 := isRow_lt r1_1
  clear e1
  refine (toHopf_any _ _ _ _).mono ?_; rintro _ W2 ⟨rfl, hw2⟩
  obtain ⟨r1_2, c1_2⟩ := keepB hw2 z1_1 r1_1 c1_1
  have z1_2 := isRow_lt r1_2
  have hb2 := hb1.trans (hw2.mono hb1.size)
  have q2 := hb2.size
  clear hw2 r1_1 c1_1 z1_1 hb1
  go_wp2_with fail
  refine (specIsHopf_any _ _ _ _ Hf.out).mono ?_; rintro _ W3 ⟨rfl, hw3⟩
  obtain ⟨r1_3, c1_3⟩ := keepB hw3 z1_2 r1_2 c1_2
  have z1_3 := isRow_lt r1_3
  have hb3 := hb2.trans (hw3.mono hb2.size)
  have q3 := hb3.size
  clear hw3 r1_2 c1_2 z1_2 hb2
  go_wp2_with fail
  refine (toHopf_any _ _ _ _).mono ?_; rintro _ W4 ⟨rfl, hw4⟩
  have hb4 := hb3.trans (hw4.mono hb3.size)
  have q4 := hb4.size
  clear hw4 hb3
  go_wp2_with fail
  refine (isHopf_any _ _ _ _ Hf.out).mono ?_; rintro _ W5 ⟨rfl, hw5⟩
  have hb5 := hb4.trans (hw5.mono hb4.size)
  have q5 := hb5.size
  clear hw5 hb4
  go_wp2_with fail
  go_ret
  exact ⟨rfl, (by (repeat (first | exact hb5 | exact Below.refl _ _ | refine Below.alloc ?_ (by first | omega | (simp; try omega)) _ | refine below_setRow ?_ (by omega) _ | refine Below.drew ?_)))⟩

set_option maxRecDepth 100000 in
set_option maxHeartbeats 2000000 in
theorem lawAxiomThatFails (fp fn : Int) (f : Nat → Int) (w : World) (_wfp : (Lit.int .i64 fp).wf = true) (_wfn : (Lit.int .i64 fn).wf = true) (hf : Bytes 1104 f) :
    Calls Try.prog 4 #[.agg (hop fp fn f)] w fun e w' => e = .returned (.bool true) ∧ Below w.heap.size w w' := by
  have Hf := Lib.hid hf; clear hf
  go_enter Try.func4, Try.ntmps4
  go_wp2_with fail
  refine atomC fun W1 e1 => ?_
  have hb1 : Below w.heap.size w W1 := by rw [e1]; (repeat (first | exact Below.refl _ _ | refine Below.alloc ?_ (by first | omega | (simp; try omega)) _ | refine below_setRow ?_ (by omega) _ | refine Below.drew ?_))
  have q1 := hb1.size
  have r1_1 : IsRow W1 (w.heap.size) := by rw [e1]; simp [go_sem]
  have c1_1 := congrArg (fun x => blk x (w.heap.size)) e1; simp [go_sem] at c1_1
  have z1_1 := isRow_lt r1_1
  clear e1
  refine (toHopf_any _ _ _ _).mono ?_; rintro _ W2 ⟨rfl, hw2⟩
  obtain ⟨r1_2, c1_2⟩ := keepB hw2 z1_1 r1_1 c1_1
  have z1_2 := isRow_lt r1_2
  have hb2 := hb1.trans (hw2.mono hb1.size)
  have q2 := hb2.size
  clear hw2 r1_1 c1_1 z1_1 hb1
  go_wp2_with fail
  refine (specAxiomThatFails_any _ _ _ _ Hf.out).mono ?_; rintro _ W3 ⟨rfl, hw3⟩
  obtain ⟨r1_3, c1_3⟩ := keepB hw3 z1_2 r1_2 c1_2
  have z1_3 := isRow_lt r1_3
  have hb3 := hb2.trans (hw3.mono hb2.size)
  have q3 := hb3.size
  clear hw3 r1_2 c1_2 z1_2 hb2
  go_wp2_with fail
  refine (toHopf_any _ _ _ _).mono ?_; rintro _ W4 ⟨rfl, hw4⟩
  have hb4 := hb3.trans (hw4.mono hb3.size)
  have q4 := hb4.size
  clear hw4 hb3
  go_wp2_with fail
  refine (axiomThatFails_any _ _ _ _ Hf.out).mono ?_; rintro _ W5 ⟨rfl, hw5⟩
  have hb5 := hb4.trans (hw5.mono hb4.size)
  have q5 := hb5.size
  clear hw5 hb4
  go_wp2_with fail
  go_ret
  exact ⟨rfl, (by (repeat (first | exact hb5 | exact Below.refl _ _ | refine Below.alloc ?_ (by first | omega | (simp; try omega)) _ | refine below_setRow ?_ (by omega) _ | refine Below.drew ?_)))⟩

set_option maxRecDepth 100000 in
set_option maxHeartbeats 2000000 in
theorem lawAlgebraOf (fp fn : Int) (f : Nat → Int) (w : World) (_wfp : (Lit.int .i64 fp).wf = true) (_wfn : (Lit.int .i64 fn).wf = true) (hf : Bytes 1104 f) :
    Calls Try.prog 5 #[.agg (hop fp fn f)] w fun e w' => e = .returned (.bool true) ∧ Below w.heap.size w w' := by
  have Hf := Lib.hid hf; clear hf
  go_enter Try.func5, Try.ntmps5
  go_wp2_with fail
  refine atomC fun W1 e1 => ?_
  have hb1 : Below w.heap.size w W1 := by rw [e1]; (repeat (first | exact Below.refl _ _ | refine Below.alloc ?_ (by first | omega | (simp; try omega)) _ | refine below_setRow ?_ (by omega) _ | refine Below.drew ?_))
  have q1 := hb1.size
  have r1_1 : IsRow W1 (w.heap.size) := by rw [e1]; simp [go_sem]
  have c1_1 := congrArg (fun x => blk x (w.heap.size)) e1; simp [go_sem] at c1_1
  have z1_1 := isRow_lt r1_1
  clear e1
  refine (toHopf_any _ _ _ _).mono ?_; rintro _ W2 ⟨rfl, hw2⟩
  obtain ⟨r1_2, c1_2⟩ := keepB hw2 z1_1 r1_1 c1_1
  have z1_2 := isRow_lt r1_2
  have hb2 := hb1.trans (hw2.mono hb1.size)
  have q2 := hb2.size
  clear hw2 r1_1 c1_1 z1_1 hb1
  go_wp2_with fail
  refine (specAlgebraOf_any _ _ _ _ Hf.out).mono ?_; rintro _ W3 ⟨rfl, hw3⟩
  obtain ⟨r1_3, c1_3⟩ := keepB hw3 z1_2 r1_2 c1_2
  have z1_3 := isRow_lt r1_3
  have hb3 := hb2.trans (hw3.mono hb2.size)
  have q3 := hb3.size
  clear hw3 r1_2 c1_2 z1_2 hb2
  go_wp2_with fail
  refine atomC fun W4 e4 => ?_
  have hb4 : Below w.heap.size w W4 := by rw [e4]; (repeat (first | exact hb3 | exact Below.refl _ _ | refine Below.alloc ?_ (by first | omega | (simp; try omega)) _ | refine below_setRow ?_ (by omega) _ | refine Below.drew ?_))
  have q4 := hb4.size
  have r3_4 : IsRow W4 (W3.heap.size) := by rw [e4]; simp [go_sem, r1_3]
  have c3_4 := congrArg (fun x => blk x (W3.heap.size)) e4; simp [go_sem, r1_3] at c3_4
  have z3_4 := isRow_lt r3_4
  clear e4 hb3
  refine (toHopf_any _ _ _ _).mono ?_; rintro _ W5 ⟨rfl, hw5⟩
  obtain ⟨r3_5, c3_5⟩ := keepB hw5 z3_4 r3_4 c3_4
  have z3_5 := isRow_lt r3_5
  have hb5 := hb4.trans (hw5.mono hb4.size)
  have q5 := hb5.size
  clear hw5 r3_4 c3_4 z3_4 hb4
  go_wp2_with fail
  refine (algebraOfHopf_any _ _ _ _ Hf.out).mono ?_; rintro _ W6 ⟨rfl, hw6⟩
  obtain ⟨r3_6, c3_6⟩ := keepB hw6 z3_5 r3_5 c3_5
  have z3_6 := isRow_lt r3_6
  have hb6 := hb5.trans (hw6.mono hb5.size)
  have q6 := hb6.size
  clear hw6 r3_5 c3_5 z3_5 hb5
  go_wp2_with fail
  refine atomC fun W7 e7 => ?_
  have hb7 : Below w.heap.size w W7 := by rw [e7]; (repeat (first | exact hb6 | exact Below.refl _ _ | refine Below.alloc ?_ (by first | omega | (simp; try omega)) _ | refine below_setRow ?_ (by omega) _ | refine Below.drew ?_))
  have q7 := hb7.size
  clear e7 hb6
  refine (eqAlgebra_same _ _ _ _).mono ?_; rintro _ W8 ⟨rfl, hw8⟩
  have hb8 := hb7.trans (hw8.mono hb7.size)
  have q8 := hb8.size
  clear hw8 hb7
  go_wp2_with fail
  go_ret
  exact ⟨rfl, (by (repeat (first | exact hb8 | exact Below.refl _ _ | refine Below.alloc ?_ (by first | omega | (simp; try omega)) _ | refine below_setRow ?_ (by omega) _ | refine Below.drew ?_)))⟩

set_option maxRecDepth 100000 in
set_option maxHeartbeats 2000000 in
theorem lawCoalgebraOf (fp fn : Int) (f : Nat → Int) (w : World) (_wfp : (Lit.int .i64 fp).wf = true) (_wfn : (Lit.int .i64 fn).wf = true) (hf : Bytes 1104 f) :
    Calls Try.prog 6 #[.agg (hop fp fn f)] w fun e w' => e = .returned (.bool true) ∧ Below w.heap.size w w' := by
  have Hf := Lib.hid hf; clear hf
  go_enter Try.func6, Try.ntmps6
  go_wp2_with fail
  refine atomC fun W1 e1 => ?_
  have hb1 : Below w.heap.size w W1 := by rw [e1]; (repeat (first | exact Below.refl _ _ | refine Below.alloc ?_ (by first | omega | (simp; try omega)) _ | refine below_setRow ?_ (by omega) _ | refine Below.drew ?_))
  have q1 := hb1.size
  have r1_1 : IsRow W1 (w.heap.size) := by rw [e1]; simp [go_sem]
  have c1_1 := congrArg (fun x => blk x (w.heap.size)) e1; simp [go_sem] at c1_1
  have z1_1 := isRow_lt r1_1
  clear e1
  refine (toHopf_any _ _ _ _).mono ?_; rintro _ W2 ⟨rfl, hw2⟩
  obtain ⟨r1_2, c1_2⟩ := keepB hw2 z1_1 r1_1 c1_1
  have z1_2 := isRow_lt r1_2
  have hb2 := hb1.trans (hw2.mono hb1.size)
  have q2 := hb2.size
  clear hw2 r1_1 c1_1 z1_1 hb1
  go_wp2_with fail
  refine (specCoalgebraOf_any _ _ _ _ Hf.out).mono ?_; rintro _ W3 ⟨rfl, hw3⟩
  obtain ⟨r1_3, c1_3⟩ := keepB hw3 z1_2 r1_2 c1_2
  have z1_3 := isRow_lt r1_3
  have hb3 := hb2.trans (hw3.mono hb2.size)
  have q3 := hb3.size
  clear hw3 r1_2 c1_2 z1_2 hb2
  go_wp2_with fail
  refine atomC fun W4 e4 => ?_
  have hb4 : Below w.heap.size w W4 := by rw [e4]; (repeat (first | exact hb3 | exact Below.refl _ _ | refine Below.alloc ?_ (by first | omega | (simp; try omega)) _ | refine below_setRow ?_ (by omega) _ | refine Below.drew ?_))
  have q4 := hb4.size
  have r3_4 : IsRow W4 (W3.heap.size) := by rw [e4]; simp [go_sem, r1_3]
  have c3_4 := congrArg (fun x => blk x (W3.heap.size)) e4; simp [go_sem, r1_3] at c3_4
  have z3_4 := isRow_lt r3_4
  clear e4 hb3
  refine (toHopf_any _ _ _ _).mono ?_; rintro _ W5 ⟨rfl, hw5⟩
  obtain ⟨r3_5, c3_5⟩ := keepB hw5 z3_4 r3_4 c3_4
  have z3_5 := isRow_lt r3_5
  have hb5 := hb4.trans (hw5.mono hb4.size)
  have q5 := hb5.size
  clear hw5 r3_4 c3_4 z3_4 hb4
  go_wp2_with fail
  refine (coalgebraOfHopf_any _ _ _ _ Hf.out).mono ?_; rintro _ W6 ⟨rfl, hw6⟩
  obtain ⟨r3_6, c3_6⟩ := keepB hw6 z3_5 r3_5 c3_5
  have z3_6 := isRow_lt r3_6
  have hb6 := hb5.trans (hw6.mono hb5.size)
  have q6 := hb6.size
  clear hw6 r3_5 c3_5 z3_5 hb5
  go_wp2_with fail
  refine atomC fun W7 e7 => ?_
  have hb7 : Below w.heap.size w W7 := by rw [e7]; (repeat (first | exact hb6 | exact Below.refl _ _ | refine Below.alloc ?_ (by first | omega | (simp; try omega)) _ | refine below_setRow ?_ (by omega) _ | refine Below.drew ?_))
  have q7 := hb7.size
  clear e7 hb6
  refine (eqCoalgebra_same _ _ _ _).mono ?_; rintro _ W8 ⟨rfl, hw8⟩
  have hb8 := hb7.trans (hw8.mono hb7.size)
  have q8 := hb8.size
  clear hw8 hb7
  go_wp2_with fail
  go_ret
  exact ⟨rfl, (by (repeat (first | exact hb8 | exact Below.refl _ _ | refine Below.alloc ?_ (by first | omega | (simp; try omega)) _ | refine below_setRow ?_ (by omega) _ | refine Below.drew ?_)))⟩

set_option maxRecDepth 100000 in
set_option maxHeartbeats 2000000 in
theorem lawCounitOf (fp fn : Int) (f : Nat → Int) (v : Nat → Int) (w : World) (_wfp : (Lit.int .i64 fp).wf = true) (_wfn : (Lit.int .i64 fn).wf = true) (hf : Bytes 1104 f) (hv : Bytes 8 v) :
    Calls Try.prog 8 #[.agg (hop fp fn f), .agg (row 8 v)] w fun e w' => e = .returned (.bool true) ∧ Below w.heap.size w w' := by
  have Hf := Lib.hid hf; clear hf
  have Hv := Lib.hid hv; clear hv
  go_enter Try.func8, Try.ntmps8
  go_wp2
  refine atomW fun W1 e1 => ?_
  have hb1 : Below w.heap.size w W1 := by rw [e1]; (repeat (first | exact Below.refl _ _ | refine Below.alloc ?_ (by first | omega | (simp; try omega)) _ | refine below_setRow ?_ (by omega) _ | refine Below.drew ?_))
  have q1 := hb1.size
  have R1 : IsRow W1 (w.heap.size) ∧ IsRow W1 (w.heap.size + 1) := by rw [e1]; simp [go_sem]
  obtain ⟨r2_1, r3_1⟩ := R1
  have C1 := (⟨congrArg (blk · (w.heap.size)) e1, congrArg (blk · (w.heap.size + 1)) e1⟩ : _ ∧ _); simp [go_sem] at C1
  obtain ⟨c2_1, c3_1⟩ := C1
  have z2_1 := isRow_lt r2_1; have z3_1 := isRow_lt r3_1
  clear e1
  refine wp_quiet_all (Below W1.heap.size W1) (by kernel_rfl) (by kernel_rfl) (Below.refl _ _).drew ?_
  iterate 1 (refine q_plain rfl ?_; apply Exists.intro; refine ⟨fun W hW => ?_, ?_⟩; (focus (obtain ⟨x2, y2⟩ := keepB hW z2_1 r2_1 c2_1; obtain ⟨x3, y3⟩ := keepB hW z3_1 r3_1 c3_1; go_simp; first | done | rfl)); simp only [Act.put, List.setIfInBounds_toArray, List.set_cons_zero, List.set_cons_succ])
  (refine q_plain rfl ?_; apply Exists.intro; refine ⟨fun W hW => ?_, ?_⟩; (focus (obtain ⟨x2, y2⟩ := keepB hW z2_1 r2_1 c2_1; obtain ⟨x3, y3⟩ := keepB hW z3_1 r3_1 c3_1; go_simp; (go_at_call 12; exact (toHopf_any _ _ _ _).mono fun e w2 ⟨he, hw2⟩ => ⟨he, hW.trans (hw2.mono hW.size)⟩))); simp only [Act.put, List.setIfInBounds_toArray, List.set_cons_zero, List.set_cons_succ])
  iterate 1 (refine q_plain rfl ?_; apply Exists.intro; refine ⟨fun W hW => ?_, ?_⟩; (focus (obtain ⟨x2, y2⟩ := keepB hW z2_1 r2_1 c2_1; obtain ⟨x3, y3⟩ := keepB hW z3_1 r3_1 c3_1; go_simp; first | done | rfl)); simp only [Act.put, List.setIfInBounds_toArray, List.set_cons_zero, List.set_cons_succ])
  (refine q_plain rfl ?_; apply Exists.intro; refine ⟨fun W hW => ?_, ?_⟩; (focus (obtain ⟨x2, y2⟩ := keepB hW z2_1 r2_1 c2_1; obtain ⟨x3, y3⟩ := keepB hW z3_1 r3_1 c3_1; go_simp; (go_at_call 23; exact (toVector_any _ _).mono fun e w2 ⟨he, hw2⟩ => ⟨he, hW.trans (hw2.mono hW.size)⟩))); simp only [Act.put, List.setIfInBounds_toArray, List.set_cons_zero, List.set_cons_succ])
  (refine q_plain rfl ?_; apply Exists.intro; refine ⟨fun W hW => ?_, ?_⟩; (focus (obtain ⟨x2, y2⟩ := keepB hW z2_1 r2_1 c2_1; obtain ⟨x3, y3⟩ := keepB hW z3_1 r3_1 c3_1; go_simp; (go_at_call 26; exact (specCounitOf_any _ _ _ _ _ Hf.out Hv.out).mono fun e w2 ⟨he, hw2⟩ => ⟨he, hW.trans (hw2.mono hW.size)⟩))); simp only [Act.put, List.setIfInBounds_toArray, List.set_cons_zero, List.set_cons_succ])
  iterate 5 (refine q_plain rfl ?_; apply Exists.intro; refine ⟨fun W hW => ?_, ?_⟩; (focus (obtain ⟨x2, y2⟩ := keepB hW z2_1 r2_1 c2_1; obtain ⟨x3, y3⟩ := keepB hW z3_1 r3_1 c3_1; go_simp; first | done | rfl)); simp only [Act.put, List.setIfInBounds_toArray, List.set_cons_zero, List.set_cons_succ])
  refine wpQuiet_nil ?_
  intro W2 hw2
  obtain ⟨r2_2, c2_2⟩ := keepB hw2 z2_1 r2_1 c2_1
  have z2_2 := isRow_lt r2_2
  obtain ⟨r3_2, c3_2⟩ := keepB hw2 z3_1 r3_1 c3_1
  have z3_2 := isRow_lt r3_2
  have hb2 := hb1.trans (hw2.mono hb1.size)
  have q2 := hb2.size
  clear hw2 r2_1 c2_1 z2_1 r3_1 c3_1 z3_1 hb1
  go_wp2
  refine wp_quiet_all (Below W2.heap.size W2) (by kernel_rfl) (by kernel_rfl) (Below.refl _ _).drew ?_
  iterate 1 (refine q_plain rfl ?_; apply Exists.intro; refine ⟨fun W hW => ?_, ?_⟩; (focus (obtain ⟨x2, y2⟩ := keepB hW z2_2 r2_2 c2_2; obtain ⟨x3, y3⟩ := keepB hW z3_2 r3_2 c3_2; go_simp; first | done | rfl)); simp only [Act.put, List.setIfInBounds_toArray, List.set_cons_zero, List.set_cons_succ])
  (refine q_plain rfl ?_; apply Exists.intro; refine ⟨fun W hW => ?_, ?_⟩; (focus (obtain ⟨x2, y2⟩ := keepB hW z2_2 r2_2 c2_2; obtain ⟨x3, y3⟩ := keepB hW z3_2 r3_2 c3_2; go_simp; (go_at_call 12; exact (toHopf_any _ _ _ _).mono fun e w2 ⟨he, hw2⟩ => ⟨he, hW.trans (hw2.mono hW.size)⟩))); simp only [Act.put, List.setIfInBounds_toArray, List.set_cons_zero, List.set_cons_succ])
  iterate 1 (refine q_plain rfl ?_; apply Exists.intro; refine ⟨fun W hW => ?_, ?_⟩; (focus (obtain ⟨x2, y2⟩ := keepB hW z2_2 r2_2 c2_2; obtain ⟨x3, y3⟩ := keepB hW z3_2 r3_2 c3_2; go_simp; first | done | rfl)); simp only [Act.put, List.setIfInBounds_toArray, List.set_cons_zero, List.set_cons_succ])
  (refine q_plain rfl ?_; apply Exists.intro; refine ⟨fun W hW => ?_, ?_⟩; (focus (obtain ⟨x2, y2⟩ := keepB hW z2_2 r2_2 c2_2; obtain ⟨x3, y3⟩ := keepB hW z3_2 r3_2 c3_2; go_simp; (go_at_call 23; exact (toVector_any _ _).mono fun e w2 ⟨he, hw2⟩ => ⟨he, hW.trans (hw2.mono hW.size)⟩))); simp only [Act.put, List.setIfInBounds_toArray, List.set_cons_zero, List.set_cons_succ])
  (refine q_plain rfl ?_; apply Exists.intro; refine ⟨fun W hW => ?_, ?_⟩; (focus (obtain ⟨x2, y2⟩ := keepB hW z2_2 r2_2 c2_2; obtain ⟨x3, y3⟩ := keepB hW z3_2 r3_2 c3_2; go_simp; (go_at_call 27; exact (counitOf_any _ _ _ _ _ Hf.out Hv.out).mono fun e w2 ⟨he, hw2⟩ => ⟨he, hW.trans (hw2.mono hW.size)⟩))); simp only [Act.put, List.setIfInBounds_toArray, List.set_cons_zero, List.set_cons_succ])
  iterate 5 (refine q_plain rfl ?_; apply Exists.intro; refine ⟨fun W hW => ?_, ?_⟩; (focus (obtain ⟨x2, y2⟩ := keepB hW z2_2 r2_2 c2_2; obtain ⟨x3, y3⟩ := keepB hW z3_2 r3_2 c3_2; go_simp; first | done | rfl)); simp only [Act.put, List.setIfInBounds_toArray, List.set_cons_zero, List.set_cons_succ])
  refine wpQuiet_nil ?_
  intro W3 hw3
  obtain ⟨r2_3, c2_3⟩ := keepB hw3 z2_2 r2_2 c2_2
  have z2_3 := isRow_lt r2_3
  obtain ⟨r3_3, c3_3⟩ := keepB hw3 z3_2 r3_2 c3_2
  have z3_3 := isRow_lt r3_3
  have hb3 := hb2.trans (hw3.mono hb2.size)
  have q3 := hb3.size
  clear hw3 r2_2 c2_2 z2_2 r3_2 c3_2 z3_2 hb2
  go_wp2_with fail
  go_ret
  exact ⟨rfl, (by (repeat (first | exact hb3 | exact Below.refl _ _ | refine Below.alloc ?_ (by first | omega | (simp; try omega)) _ | refine below_setRow ?_ (by omega) _ | refine Below.drew ?_)))⟩

set_option maxRecDepth 100000 in
set_option maxHeartbeats 2000000 in
theorem lawCoproductOf (fp fn : Int) (f : Nat → Int) (v : Nat → Int) (w : World) (_wfp : (Lit.int .i64 fp).wf = true) (_wfn : (Lit.int .i64 fn).wf = true) (hf : Bytes 1104 f) (hv : Bytes 8 v) :
    Calls Try.prog 7 #[.agg (hop fp fn f), .agg (row 8 v)] w fun e w' => e = .returned (.bool true) ∧ Below w.heap.size w w' := by
  have Hf := Lib.hid hf; clear hf
  have Hv := Lib.hid hv; clear hv
  go_enter Try.func7, Try.ntmps7
  go_wp2
  refine atomW fun W1 e1 => ?_
  have hb1 : Below w.heap.size w W1 := by rw [e1]; (repeat (first | exact Below.refl _ _ | refine Below.alloc ?_ (by first | omega | (simp; try omega)) _ | refine below_setRow ?_ (by omega) _ | refine Below.drew ?_))
  have q1 := hb1.size
  have R1 : IsRow W1 (w.heap.size) ∧ IsRow W1 (w.heap.size + 1) := by rw [e1]; simp [go_sem]
  obtain ⟨r2_1, r3_1⟩ := R1
  have C1 := (⟨congrArg (blk · (w.heap.size)) e1, congrArg (blk · (w.heap.size + 1)) e1⟩ : _ ∧ _); simp [go_sem] at C1
  obtain ⟨c2_1, c3_1⟩ := C1
  have z2_1 := isRow_lt r2_1; have z3_1 := isRow_lt r3_1
  clear e1
  refine wp_quiet_alloc_late 8 7 _ _ (.cells (row 64 zf) 30) (Below W1.heap.size W1) (Made W1 (row 64 zf)) (by kernel_rfl) rfl rfl rfl (by kernel_rfl) (by kernel_rfl) (fun c a w d v h => by cases d <;> exact h) (fun a W => (xallocLin _ _ _ _ _ _ _).trans (allocLin W)) (closed_below W1) (closed_made W1 _) (fun b W h => h.1) (fun W h => made_new W1 _ _ W h) (Below.refl _ _).drew ?_
  simp only [List.take_succ_cons, List.take_zero, List.drop_succ_cons, List.drop_zero]
  iterate 1 (refine e_plain rfl ?_; apply Exists.intro; refine ⟨fun D hD hK W hW => ?_, ?_⟩; (focus (obtain ⟨x2, y2⟩ := keepB (hD W hW) z2_1 r2_1 c2_1; obtain ⟨x3, y3⟩ := keepB (hD W hW) z3_1 r3_1 c3_1; unfold Oper.quietAt; go_simp; first | done | rfl)); simp only [Act.put, List.setIfInBounds_toArray, List.set_cons_zero, List.set_cons_succ])
  (refine e_plain rfl ?_; apply Exists.intro; refine ⟨fun D hD hK W hW => ?_, ?_⟩; (focus (obtain ⟨x2, y2⟩ := keepB (hD W hW) z2_1 r2_1 c2_1; obtain ⟨x3, y3⟩ := keepB (hD W hW) z3_1 r3_1 c3_1; unfold Oper.quietAt; go_simp; (go_at_call 12; exact (toHopf_any _ _ _ _).mono fun e w2 ⟨he, hw2⟩ => ⟨he, hK _ _ hW hw2⟩))); simp only [Act.put, List.setIfInBounds_toArray, List.set_cons_zero, List.set_cons_succ])
  iterate 1 (refine e_plain rfl ?_; apply Exists.intro; refine ⟨fun D hD hK W hW => ?_, ?_⟩; (focus (obtain ⟨x2, y2⟩ := keepB (hD W hW) z2_1 r2_1 c2_1; obtain ⟨x3, y3⟩ := keepB (hD W hW) z3_1 r3_1 c3_1; unfold Oper.quietAt; go_simp; first | done | rfl)); simp only [Act.put, List.setIfInBounds_toArray, List.set_cons_zero, List.set_cons_succ])
  (refine e_plain rfl ?_; apply Exists.intro; refine ⟨fun D hD hK W hW => ?_, ?_⟩; (focus (obtain ⟨x2, y2⟩ := keepB (hD W hW) z2_1 r2_1 c2_1; obtain ⟨x3, y3⟩ := keepB (hD W hW) z3_1 r3_1 c3_1; unfold Oper.quietAt; go_simp; (go_at_call 23; exact (toVector_any _ _).mono fun e w2 ⟨he, hw2⟩ => ⟨he, hK _ _ hW hw2⟩))); simp only [Act.put, List.setIfInBounds_toArray, List.set_cons_zero, List.set_cons_succ])
  (refine e_plain rfl ?_; apply Exists.intro; refine ⟨fun D hD hK W hW => ?_, ?_⟩; (focus (obtain ⟨x2, y2⟩ := keepB (hD W hW) z2_1 r2_1 c2_1; obtain ⟨x3, y3⟩ := keepB (hD W hW) z3_1 r3_1 c3_1; unfold Oper.quietAt; go_simp; (go_at_call 22; exact (specCoproductOf_any _ _ _ _ _ Hf.out Hv.out).mono fun e w2 ⟨he, hw2⟩ => ⟨he, hK _ _ hW hw2⟩))); simp only [Act.put, List.setIfInBounds_toArray, List.set_cons_zero, List.set_cons_succ])
  iterate 3 (refine e_plain rfl ?_; apply Exists.intro; refine ⟨fun D hD hK W hW => ?_, ?_⟩; (focus (obtain ⟨x2, y2⟩ := keepB (hD W hW) z2_1 r2_1 c2_1; obtain ⟨x3, y3⟩ := keepB (hD W hW) z3_1 r3_1 c3_1; unfold Oper.quietAt; go_simp; first | done | rfl)); simp only [Act.put, List.setIfInBounds_toArray, List.set_cons_zero, List.set_cons_succ])
  refine e_nil ?_
  intro a2 W2 hW2
  obtain ⟨hw2, hl2, m1_2, m2_2⟩ := hW2
  have n2_5 : (w.heap.size) ≠ (a2) := by have := z2_1; omega
  have n5_2 : (a2) ≠ (w.heap.size) := by have := z2_1; omega
  have n3_5 : (w.heap.size + 1) ≠ (a2) := by have := z3_1; omega
  have n5_3 : (a2) ≠ (w.heap.size + 1) := by have := z3_1; omega
  obtain ⟨r2_2, c2_2⟩ := keepB hw2 z2_1 r2_1 c2_1
  have z2_2 := isRow_lt r2_2
  obtain ⟨r3_2, c3_2⟩ := keepB hw2 z3_1 r3_1 c3_1
  have z3_2 := isRow_lt r3_2
  have hb2 := hb1.trans (hw2.mono hb1.size)
  have q2 := hb2.size
  clear hw2 r2_1 c2_1 z2_1 r3_1 c3_1 z3_1 hb1
  have z5_2 := isRow_lt m1_2
  simp only [Act.put, List.setIfInBounds_toArray, List.set_cons_zero, List.set_cons_succ]
  go_wp2
  refine atomW fun W3 e3 => ?_
  have hb3 : Below w.heap.size w W3 := by rw [e3]; (repeat (first | exact hb2 | exact Below.refl _ _ | refine Below.alloc ?_ (by first | omega | (simp; try omega)) _ | refine below_setRow ?_ (by omega) _ | refine Below.drew ?_))
  have q3 := hb3.size
  have R3 : IsRow W3 (w.heap.size) ∧ IsRow W3 (w.heap.size + 1) ∧ IsRow W3 (a2) := by rw [e3]; simp [go_sem, r2_2, c2_2, n2_5, r3_2, c3_2, n3_5, m1_2, m2_2, n5_2, n5_3]
  obtain ⟨r2_3, r3_3, r5_3⟩ := R3
  have C3 := (⟨congrArg (blk · (w.heap.size)) e3, congrArg (blk · (w.heap.size + 1)) e3, congrArg (blk · (a2)) e3⟩ : _ ∧ _ ∧ _); simp [go_sem, r2_2, c2_2, n2_5, r3_2, c3_2, n3_5, m1_2, m2_2, n5_2, n5_3] at C3
  obtain ⟨c2_3, c3_3, c5_3⟩ := C3
  have z2_3 := isRow_lt r2_3; have z3_3 := isRow_lt r3_3; have z5_3 := isRow_lt r5_3
  clear e3 r2_2 c2_2 z2_2 r3_2 c3_2 z3_2 m1_2 m2_2 z5_2 hb2
  refine wp_quiet_alloc_late 8 7 _ _ (.cells (row 64 zf) 30) (Below W3.heap.size W3) (Made W3 (row 64 zf)) (by kernel_rfl) rfl rfl rfl (by kernel_rfl) (by kernel_rfl) (fun c a w d v h => by cases d <;> exact h) (fun a W => (xallocLin _ _ _ _ _ _ _).trans (allocLin W)) (closed_below W3) (closed_made W3 _) (fun b W h => h.1) (fun W h => made_new W3 _ _ W h) (Below.refl _ _).drew ?_
  simp only [List.take_succ_cons, List.take_zero, List.drop_succ_cons, List.drop_zero]
  iterate 1 (refine e_plain rfl ?_; apply Exists.intro; refine ⟨fun D hD hK W hW => ?_, ?_⟩; (focus (obtain ⟨x2, y2⟩ := keepB (hD W hW) z2_3 r2_3 c2_3; obtain ⟨x3, y3⟩ := keepB (hD W hW) z3_3 r3_3 c3_3; obtain ⟨x5, y5⟩ := keepB (hD W hW) z5_3 r5_3 c5_3; unfold Oper.quietAt; go_simp; first | done | rfl)); simp only [Act.put, List.setIfInBounds_toArray, List.set_cons_zero, List.set_cons_succ])
  (refine e_plain rfl ?_; apply Exists.intro; refine ⟨fun D hD hK W hW => ?_, ?_⟩; (focus (obtain ⟨x2, y2⟩ := keepB (hD W hW) z2_3 r2_3 c2_3; obtain ⟨x3, y3⟩ := keepB (hD W hW) z3_3 r3_3 c3_3; obtain ⟨x5, y5⟩ := keepB (hD W hW) z5_3 r5_3 c5_3; unfold Oper.quietAt; go_simp; (go_at_call 12; exact (toHopf_any _ _ _ _).mono fun e w2 ⟨he, hw2⟩ => ⟨he, hK _ _ hW hw2⟩))); simp only [Act.put, List.setIfInBounds_toArray, List.set_cons_zero, List.set_cons_succ])
  iterate 1 (refine e_plain rfl ?_; apply Exists.intro; refine ⟨fun D hD hK W hW => ?_, ?_⟩; (focus (obtain ⟨x2, y2⟩ := keepB (hD W hW) z2_3 r2_3 c2_3; obtain ⟨x3, y3⟩ := keepB (hD W hW) z3_3 r3_3 c3_3; obtain ⟨x5, y5⟩ := keepB (hD W hW) z5_3 r5_3 c5_3; unfold Oper.quietAt; go_simp; first | done | rfl)); simp only [Act.put, List.setIfInBounds_toArray, List.set_cons_zero, List.set_cons_succ])
  (refine e_plain rfl ?_; apply Exists.intro; refine ⟨fun D hD hK W hW => ?_, ?_⟩; (focus (obtain ⟨x2, y2⟩ := keepB (hD W hW) z2_3 r2_3 c2_3; obtain ⟨x3, y3⟩ := keepB (hD W hW) z3_3 r3_3 c3_3; obtain ⟨x5, y5⟩ := keepB (hD W hW) z5_3 r5_3 c5_3; unfold Oper.quietAt; go_simp; (go_at_call 23; exact (toVector_any _ _).mono fun e w2 ⟨he, hw2⟩ => ⟨he, hK _ _ hW hw2⟩))); simp only [Act.put, List.setIfInBounds_toArray, List.set_cons_zero, List.set_cons_succ])
  (refine e_plain rfl ?_; apply Exists.intro; refine ⟨fun D hD hK W hW => ?_, ?_⟩; (focus (obtain ⟨x2, y2⟩ := keepB (hD W hW) z2_3 r2_3 c2_3; obtain ⟨x3, y3⟩ := keepB (hD W hW) z3_3 r3_3 c3_3; obtain ⟨x5, y5⟩ := keepB (hD W hW) z5_3 r5_3 c5_3; unfold Oper.quietAt; go_simp; (go_at_call 24; exact (coproductOf_any _ _ _ _ _ Hf.out Hv.out).mono fun e w2 ⟨he, hw2⟩ => ⟨he, hK _ _ hW hw2⟩))); simp only [Act.put, List.setIfInBounds_toArray, List.set_cons_zero, List.set_cons_succ])
  iterate 3 (refine e_plain rfl ?_; apply Exists.intro; refine ⟨fun D hD hK W hW => ?_, ?_⟩; (focus (obtain ⟨x2, y2⟩ := keepB (hD W hW) z2_3 r2_3 c2_3; obtain ⟨x3, y3⟩ := keepB (hD W hW) z3_3 r3_3 c3_3; obtain ⟨x5, y5⟩ := keepB (hD W hW) z5_3 r5_3 c5_3; unfold Oper.quietAt; go_simp; first | done | rfl)); simp only [Act.put, List.setIfInBounds_toArray, List.set_cons_zero, List.set_cons_succ])
  refine e_nil ?_
  intro a4 W4 hW4
  obtain ⟨hw4, hl4, m1_4, m2_4⟩ := hW4
  have n2_7 : (w.heap.size) ≠ (a4) := by have := z2_3; omega
  have n7_2 : (a4) ≠ (w.heap.size) := by have := z2_3; omega
  have n3_7 : (w.heap.size + 1) ≠ (a4) := by have := z3_3; omega
  have n7_3 : (a4) ≠ (w.heap.size + 1) := by have := z3_3; omega
  have n5_7 : (a2) ≠ (a4) := by have := z5_3; omega
  have n7_5 : (a4) ≠ (a2) := by have := z5_3; omega
  obtain ⟨r2_4, c2_4⟩ := keepB hw4 z2_3 r2_3 c2_3
  have z2_4 := isRow_lt r2_4
  obtain ⟨r3_4, c3_4⟩ := keepB hw4 z3_3 r3_3 c3_3
  have z3_4 := isRow_lt r3_4
  obtain ⟨r5_4, c5_4⟩ := keepB hw4 z5_3 r5_3 c5_3
  have z5_4 := isRow_lt r5_4
  have hb4 := hb3.trans (hw4.mono hb3.size)
  have q4 := hb4.size
  clear hw4 r2_3 c2_3 z2_3 r3_3 c3_3 z3_3 r5_3 c5_3 z5_3 hb3
  have z7_4 := isRow_lt m1_4
  simp only [Act.put, List.setIfInBounds_toArray, List.set_cons_zero, List.set_cons_succ]
  go_wp2_with fail
  refine atomC fun W5 e5 => ?_
  have hb5 : Below w.heap.size w W5 := by rw [e5]; (repeat (first | exact hb4 | exact Below.refl _ _ | refine Below.alloc ?_ (by first | omega | (simp; try omega)) _ | refine below_setRow ?_ (by omega) _ | refine Below.drew ?_))
  have q5 := hb5.size
  clear e5 hb4
  refine (eqLinear_same _ _).mono ?_; rintro _ W6 ⟨rfl, hw6⟩
  have hb6 := hb5.trans (hw6.mono hb5.size)
  have q6 := hb6.size
  clear hw6 hb5
  go_wp2_with fail
  go_ret
  exact ⟨rfl, (by (repeat (first | exact hb6 | exact Below.refl _ _ | refine Below.alloc ?_ (by first | omega | (simp; try omega)) _ | refine below_setRow ?_ (by omega) _ | refine Below.drew ?_)))⟩

set_option maxRecDepth 100000 in
set_option maxHeartbeats 2000000 in
theorem lawAntipodeOf (fp fn : Int) (f : Nat → Int) (v : Nat → Int) (w : World) (_wfp : (Lit.int .i64 fp).wf = true) (_wfn : (Lit.int .i64 fn).wf = true) (hf : Bytes 1104 f) (hv : Bytes 8 v) :
    Calls Try.prog 9 #[.agg (hop fp fn f), .agg (row 8 v)] w fun e w' => e = .returned (.bool true) ∧ Below w.heap.size w w' := by
  have Hf := Lib.hid hf; clear hf
  have Hv := Lib.hid hv; clear hv
  go_enter Try.func9, Try.ntmps9
  go_wp2
  refine atomW fun W1 e1 => ?_
  have hb1 : Below w.heap.size w W1 := by rw [e1]; (repeat (first | exact Below.refl _ _ | refine Below.alloc ?_ (by first | omega | (simp; try omega)) _ | refine below_setRow ?_ (by omega) _ | refine Below.drew ?_))
  have q1 := hb1.size
  have R1 : IsRow W1 (w.heap.size) ∧ IsRow W1 (w.heap.size + 1) := by rw [e1]; simp [go_sem]
  obtain ⟨r2_1, r3_1⟩ := R1
  have C1 := (⟨congrArg (blk · (w.heap.size)) e1, congrArg (blk · (w.heap.size + 1)) e1⟩ : _ ∧ _); simp [go_sem] at C1
  obtain ⟨c2_1, c3_1⟩ := C1
  have z2_1 := isRow_lt r2_1; have z3_1 := isRow_lt r3_1
  clear e1
  refine wp_quiet_alloc_late 8 7 _ _ (.cells (row 8 zf) 28) (Below W1.heap.size W1) (Made W1 (row 8 zf)) (by kernel_rfl) rfl rfl rfl (by kernel_rfl) (by kernel_rfl) (fun c a w d v h => by cases d <;> exact h) (fun a W => (xallocVec _ _ _ _ _ _ _).trans (allocVec W)) (closed_below W1) (closed_made W1 _) (fun b W h => h.1) (fun W h => made_new W1 _ _ W h) (Below.refl _ _).drew ?_
  simp only [List.take_succ_cons, List.take_zero, List.drop_succ_cons, List.drop_zero]
  iterate 1 (refine e_plain rfl ?_; apply Exists.intro; refine ⟨fun D hD hK W hW => ?_, ?_⟩; (focus (obtain ⟨x2, y2⟩ := keepB (hD W hW) z2_1 r2_1 c2_1; obtain ⟨x3, y3⟩ := keepB (hD W hW) z3_1 r3_1 c3_1; unfold Oper.quietAt; go_simp; first | done | rfl)); simp only [Act.put, List.setIfInBounds_toArray, List.set_cons_zero, List.set_cons_succ])
  (refine e_plain rfl ?_; apply Exists.intro; refine ⟨fun D hD hK W hW => ?_, ?_⟩; (focus (obtain ⟨x2, y2⟩ := keepB (hD W hW) z2_1 r2_1 c2_1; obtain ⟨x3, y3⟩ := keepB (hD W hW) z3_1 r3_1 c3_1; unfold Oper.quietAt; go_simp; (go_at_call 12; exact (toHopf_any _ _ _ _).mono fun e w2 ⟨he, hw2⟩ => ⟨he, hK _ _ hW hw2⟩))); simp only [Act.put, List.setIfInBounds_toArray, List.set_cons_zero, List.set_cons_succ])
  iterate 1 (refine e_plain rfl ?_; apply Exists.intro; refine ⟨fun D hD hK W hW => ?_, ?_⟩; (focus (obtain ⟨x2, y2⟩ := keepB (hD W hW) z2_1 r2_1 c2_1; obtain ⟨x3, y3⟩ := keepB (hD W hW) z3_1 r3_1 c3_1; unfold Oper.quietAt; go_simp; first | done | rfl)); simp only [Act.put, List.setIfInBounds_toArray, List.set_cons_zero, List.set_cons_succ])
  (refine e_plain rfl ?_; apply Exists.intro; refine ⟨fun D hD hK W hW => ?_, ?_⟩; (focus (obtain ⟨x2, y2⟩ := keepB (hD W hW) z2_1 r2_1 c2_1; obtain ⟨x3, y3⟩ := keepB (hD W hW) z3_1 r3_1 c3_1; unfold Oper.quietAt; go_simp; (go_at_call 23; exact (toVector_any _ _).mono fun e w2 ⟨he, hw2⟩ => ⟨he, hK _ _ hW hw2⟩))); simp only [Act.put, List.setIfInBounds_toArray, List.set_cons_zero, List.set_cons_succ])
  (refine e_plain rfl ?_; apply Exists.intro; refine ⟨fun D hD hK W hW => ?_, ?_⟩; (focus (obtain ⟨x2, y2⟩ := keepB (hD W hW) z2_1 r2_1 c2_1; obtain ⟨x3, y3⟩ := keepB (hD W hW) z3_1 r3_1 c3_1; unfold Oper.quietAt; go_simp; (go_at_call 28; exact (specAntipodeOf_any _ _ _ _ _ Hf.out Hv.out).mono fun e w2 ⟨he, hw2⟩ => ⟨he, hK _ _ hW hw2⟩))); simp only [Act.put, List.setIfInBounds_toArray, List.set_cons_zero, List.set_cons_succ])
  iterate 3 (refine e_plain rfl ?_; apply Exists.intro; refine ⟨fun D hD hK W hW => ?_, ?_⟩; (focus (obtain ⟨x2, y2⟩ := keepB (hD W hW) z2_1 r2_1 c2_1; obtain ⟨x3, y3⟩ := keepB (hD W hW) z3_1 r3_1 c3_1; unfold Oper.quietAt; go_simp; first | done | rfl)); simp only [Act.put, List.setIfInBounds_toArray, List.set_cons_zero, List.set_cons_succ])
  refine e_nil ?_
  intro a2 W2 hW2
  obtain ⟨hw2, hl2, m1_2, m2_2⟩ := hW2
  have n2_5 : (w.heap.size) ≠ (a2) := by have := z2_1; omega
  have n5_2 : (a2) ≠ (w.heap.size) := by have := z2_1; omega
  have n3_5 : (w.heap.size + 1) ≠ (a2) := by have := z3_1; omega
  have n5_3 : (a2) ≠ (w.heap.size + 1) := by have := z3_1; omega
  obtain ⟨r2_2, c2_2⟩ := keepB hw2 z2_1 r2_1 c2_1
  have z2_2 := isRow_lt r2_2
  obtain ⟨r3_2, c3_2⟩ := keepB hw2 z3_1 r3_1 c3_1
  have z3_2 := isRow_lt r3_2
  have hb2 := hb1.trans (hw2.mono hb1.size)
  have q2 := hb2.size
  clear hw2 r2_1 c2_1 z2_1 r3_1 c3_1 z3_1 hb1
  have z5_2 := isRow_lt m1_2
  simp only [Act.put, List.setIfInBounds_toArray, List.set_cons_zero, List.set_cons_succ]
  go_wp2
  refine atomW fun W3 e3 => ?_
  have hb3 : Below w.heap.size w W3 := by rw [e3]; (repeat (first | exact hb2 | exact Below.refl _ _ | refine Below.alloc ?_ (by first | omega | (simp; try omega)) _ | refine below_setRow ?_ (by omega) _ | refine Below.drew ?_))
  have q3 := hb3.size
  have R3 : IsRow W3 (w.heap.size) ∧ IsRow W3 (w.heap.size + 1) ∧ IsRow W3 (a2) := by rw [e3]; simp [go_sem, r2_2, c2_2, n2_5, r3_2, c3_2, n3_5, m1_2, m2_2, n5_2, n5_3]
  obtain ⟨r2_3, r3_3, r5_3⟩ := R3
  have C3 := (⟨congrArg (blk · (w.heap.size)) e3, congrArg (blk · (w.heap.size + 1)) e3, congrArg (blk · (a2)) e3⟩ : _ ∧ _ ∧ _); simp [go_sem, r2_2, c2_2, n2_5, r3_2, c3_2, n3_5, m1_2, m2_2, n5_2, n5_3] at C3
  obtain ⟨c2_3, c3_3, c5_3⟩ := C3
  have z2_3 := isRow_lt r2_3; have z3_3 := isRow_lt r3_3; have z5_3 := isRow_lt r5_3
  clear e3 r2_2 c2_2 z2_2 r3_2 c3_2 z3_2 m1_2 m2_2 z5_2 hb2
  refine wp_quiet_alloc_late 8 7 _ _ (.cells (row 8 zf) 28) (Below W3.heap.size W3) (Made W3 (row 8 zf)) (by kernel_rfl) rfl rfl rfl (by kernel_rfl) (by kernel_rfl) (fun c a w d v h => by cases d <;> exact h) (fun a W => (xallocVec _ _ _ _ _ _ _).trans (allocVec W)) (closed_below W3) (closed_made W3 _) (fun b W h => h.1) (fun W h => made_new W3 _ _ W h) (Below.refl _ _).drew ?_
  simp only [List.take_succ_cons, List.take_zero, List.drop_succ_cons, List.drop_zero]
  iterate 1 (refine e_plain rfl ?_; apply Exists.intro; refine ⟨fun D hD hK W hW => ?_, ?_⟩; (focus (obtain ⟨x2, y2⟩ := keepB (hD W hW) z2_3 r2_3 c2_3; obtain ⟨x3, y3⟩ := keepB (hD W hW) z3_3 r3_3 c3_3; obtain ⟨x5, y5⟩ := keepB (hD W hW) z5_3 r5_3 c5_3; unfold Oper.quietAt; go_simp; first | done | rfl)); simp only [Act.put, List.setIfInBounds_toArray, List.set_cons_zero, List.set_cons_succ])
  (refine e_plain rfl ?_; apply Exists.intro; refine ⟨fun D hD hK W hW => ?_, ?_⟩; (focus (obtain ⟨x2, y2⟩ := keepB (hD W hW) z2_3 r2_3 c2_3; obtain ⟨x3, y3⟩ := keepB (hD W hW) z3_3 r3_3 c3_3; obtain ⟨x5, y5⟩ := keepB (hD W hW) z5_3 r5_3 c5_3; unfold Oper.quietAt; go_simp; (go_at_call 12; exact (toHopf_any _ _ _ _).mono fun e w2 ⟨he, hw2⟩ => ⟨he, hK _ _ hW hw2⟩))); simp only [Act.put, List.setIfInBounds_toArray, List.set_cons_zero, List.set_cons_succ])
  iterate 1 (refine e_plain rfl ?_; apply Exists.intro; refine ⟨fun D hD hK W hW => ?_, ?_⟩; (focus (obtain ⟨x2, y2⟩ := keepB (hD W hW) z2_3 r2_3 c2_3; obtain ⟨x3, y3⟩ := keepB (hD W hW) z3_3 r3_3 c3_3; obtain ⟨x5, y5⟩ := keepB (hD W hW) z5_3 r5_3 c5_3; unfold Oper.quietAt; go_simp; first | done | rfl)); simp only [Act.put, List.setIfInBounds_toArray, List.set_cons_zero, List.set_cons_succ])
  (refine e_plain rfl ?_; apply Exists.intro; refine ⟨fun D hD hK W hW => ?_, ?_⟩; (focus (obtain ⟨x2, y2⟩ := keepB (hD W hW) z2_3 r2_3 c2_3; obtain ⟨x3, y3⟩ := keepB (hD W hW) z3_3 r3_3 c3_3; obtain ⟨x5, y5⟩ := keepB (hD W hW) z5_3 r5_3 c5_3; unfold Oper.quietAt; go_simp; (go_at_call 23; exact (toVector_any _ _).mono fun e w2 ⟨he, hw2⟩ => ⟨he, hK _ _ hW hw2⟩))); simp only [Act.put, List.setIfInBounds_toArray, List.set_cons_zero, List.set_cons_succ])
  (refine e_plain rfl ?_; apply Exists.intro; refine ⟨fun D hD hK W hW => ?_, ?_⟩; (focus (obtain ⟨x2, y2⟩ := keepB (hD W hW) z2_3 r2_3 c2_3; obtain ⟨x3, y3⟩ := keepB (hD W hW) z3_3 r3_3 c3_3; obtain ⟨x5, y5⟩ := keepB (hD W hW) z5_3 r5_3 c5_3; unfold Oper.quietAt; go_simp; (go_at_call 29; exact (antipodeOf_any _ _ _ _ _ Hf.out Hv.out).mono fun e w2 ⟨he, hw2⟩ => ⟨he, hK _ _ hW hw2⟩))); simp only [Act.put, List.setIfInBounds_toArray, List.set_cons_zero, List.set_cons_succ])
  iterate 3 (refine e_plain rfl ?_; apply Exists.intro; refine ⟨fun D hD hK W hW => ?_, ?_⟩; (focus (obtain ⟨x2, y2⟩ := keepB (hD W hW) z2_3 r2_3 c2_3; obtain ⟨x3, y3⟩ := keepB (hD W hW) z3_3 r3_3 c3_3; obtain ⟨x5, y5⟩ := keepB (hD W hW) z5_3 r5_3 c5_3; unfold Oper.quietAt; go_simp; first | done | rfl)); simp only [Act.put, List.setIfInBounds_toArray, List.set_cons_zero, List.set_cons_succ])
  refine e_nil ?_
  intro a4 W4 hW4
  obtain ⟨hw4, hl4, m1_4, m2_4⟩ := hW4
  have n2_7 : (w.heap.size) ≠ (a4) := by have := z2_3; omega
  have n7_2 : (a4) ≠ (w.heap.size) := by have := z2_3; omega
  have n3_7 : (w.heap.size + 1) ≠ (a4) := by have := z3_3; omega
  have n7_3 : (a4) ≠ (w.heap.size + 1) := by have := z3_3; omega
  have n5_7 : (a2) ≠ (a4) := by have := z5_3; omega
  have n7_5 : (a4) ≠ (a2) := by have := z5_3; omega
  obtain ⟨r2_4, c2_4⟩ := keepB hw4 z2_3 r2_3 c2_3
  have z2_4 := isRow_lt r2_4
  obtain ⟨r3_4, c3_4⟩ := keepB hw4 z3_3 r3_3 c3_3
  have z3_4 := isRow_lt r3_4
  obtain ⟨r5_4, c5_4⟩ := keepB hw4 z5_3 r5_3 c5_3
  have z5_4 := isRow_lt r5_4
  have hb4 := hb3.trans (hw4.mono hb3.size)
  have q4 := hb4.size
  clear hw4 r2_3 c2_3 z2_3 r3_3 c3_3 z3_3 r5_3 c5_3 z5_3 hb3
  have z7_4 := isRow_lt m1_4
  simp only [Act.put, List.setIfInBounds_toArray, List.set_cons_zero, List.set_cons_succ]
  go_wp2_with fail
  refine atomC fun W5 e5 => ?_
  have hb5 : Below w.heap.size w W5 := by rw [e5]; (repeat (first | exact hb4 | exact Below.refl _ _ | refine Below.alloc ?_ (by first | omega | (simp; try omega)) _ | refine below_setRow ?_ (by omega) _ | refine Below.drew ?_))
  have q5 := hb5.size
  clear e5 hb4
  refine (eqVector_same _ _).mono ?_; rintro _ W6 ⟨rfl, hw6⟩
  have hb6 := hb5.trans (hw6.mono hb5.size)
  have q6 := hb6.size
  clear hw6 hb5
  go_wp2_with fail
  go_ret
  exact ⟨rfl, (by (repeat (first | exact hb6 | exact Below.refl _ _ | refine Below.alloc ?_ (by first | omega | (simp; try omega)) _ | refine below_setRow ?_ (by omega) _ | refine Below.drew ?_)))⟩

end Go.Proofs.Ytnjjcimpcnennaa
