/- Coproducts, Counits and duals, cocommutative coalgebras, group-like vectors: both programs, and their laws. -/
import Derived.Test.YtfdejhhgkpdfdaaQ8
import Derived.Test.YtfdejhhgkpdfdaaP20
import Derived.Test.YtfdejhhgkpdfdaaP14
namespace Go.Proofs.Ytfdejhhgkpdfdaa
open Go.RowKit
set_option linter.unusedSimpArgs false
set_option linter.unusedVariables false
attribute [local irreducible] wpQuiet wpQE

theorem vecs_one {W : World} {b : Nat} {v : Nat → Int} (hc : blk W b = row 8 v) (hv : Bytes 8 v) : VecsAt W b 0 1 (nth v) := fun i hi => by
  obtain rfl : i = 0 := by omega
  rw [hc, row_size]
  exact ⟨by omega, nth_row v 8 0 (by omega), by rw [nth_zero]; exact hv⟩
theorem vecs_two {W : World} {b : Nat} {v u : Nat → Int} (hc : blk W b = row 16 (pair v u)) (hv : Bytes 8 v) (hu : Bytes 8 u) : VecsAt W b 0 2 (nth (pair v u)) := fun i hi => by
  rw [hc, row_size]
  exact ⟨by omega, nth_row _ 16 i (by omega), pair_bytes hv hu i hi⟩
theorem okC_co {p n : Int} {f : Nat → Int} {m : Nat} {g : Nat → Nat → Int} (h : okC p n f m g = true) : coB p n f = true := by
  unfold okC at h
  simp only [Bool.and_eq_true] at h
  exact h.1
theorem okC_vec {p n : Int} {f v : Nat → Int} (h : okC p n f 1 (nth v) = true) (i : Nat) (hi : i < 8) : v i < p ∧ ((i : Int) < n ∨ v i = 0) := by
  unfold okC at h
  simp only [Bool.and_eq_true] at h
  have := all_get h.2 0 (by omega)

  rw [nth_zero] at this
  exact (vecB_iff p n v).1 this i hi
theorem ret_cell {c d : Array Value} {a b : Int} (h : c = d) (h' : a = b) : Ending.returned (.tuple #[.agg c, .int .i64 a]) = .returned (.tuple #[.agg d, .int .i64 b]) := by rw [h, h']
theorem ret_bc {c d : Bool} {a b : Int} (h : c = d) (h' : a = b) : Ending.returned (.tuple #[.bool c, .int .i64 a]) = .returned (.tuple #[.bool d, .int .i64 b]) := by rw [h, h']
theorem ret_ic {c d a b : Int} (h : c = d) (h' : a = b) : Ending.returned (.tuple #[.int .i64 c, .int .i64 a]) = .returned (.tuple #[.int .i64 d, .int .i64 b]) := by rw [h, h']

/-- the Counit of v, or 0 -/
def counitR (p n : Int) (f v : Nat → Int) : Int := match okC p n f 1 (nth v) with | true => dotF 8 f v % p | false => 0
theorem counit_yes {p n : Int} {f v : Nat → Int} (h : okC p n f 1 (nth v) = true) : counitR p n f v = dotF 8 f v % p := by unfold counitR; rw [h]
theorem counit_no {p n : Int} {f v : Nat → Int} (h : okC p n f 1 (nth v) = false) : counitR p n f v = 0 := by unfold counitR; rw [h]

set_option maxRecDepth 100000 in
set_option maxHeartbeats 1000000 in
theorem counitIn_any (p n : Int) (f v : Nat → Int) (w : World) (hF : Bytes 520 f) (hv : Bytes 8 v) :
    Calls Try.prog 34 #[.agg (alg p n f), .agg (row 8 v)] w fun e w' => e = .returned (.tuple #[.int .i64 (counitR p n f v), .int .i64 (codeB (okC p n f 1 (nth v)))]) ∧ Below w.heap.size w w' := by
  have HF := Lib.hid hF; clear hF
  have Hv := Lib.hid hv; clear hv
  cases hc : okC p n f 1 (nth v)
  · skip
    have HR := Lib.hid (counit_no hc)
    go_enter Try.func34, Try.ntmps34
    go_wp2_with fail
    refine atomC fun W1 e1 => ?_
    have hb1 : Below w.heap.size w W1 := by rw [e1]; (repeat (first | exact Below.refl _ _ | refine Below.alloc ?_ (by first | omega | (simp; try omega)) _ | refine below_setRow ?_ (by omega) _ | refine Below.drew ?_))
    have q1 := hb1.size
    have R1 : IsRow W1 (w.heap.size) ∧ IsRow W1 (w.heap.size + 1) ∧ IsRow W1 (w.heap.size + 2) := by rw [e1]; simp [go_sem]
    obtain ⟨r2_1, r3_1, r8_1⟩ := R1
    have C1 := (⟨congrArg (blk · (w.heap.size)) e1, congrArg (blk · (w.heap.size + 1)) e1, congrArg (blk · (w.heap.size + 2)) e1⟩ : _ ∧ _ ∧ _); simp [go_sem] at C1
    obtain ⟨c2_1, c3_1, c8_1⟩ := C1
    have z2_1 := isRow_lt r2_1; have z3_1 := isRow_lt r3_1; have z8_1 := isRow_lt r8_1
    clear e1
    refine (isCoWith_any _ _ _ _ 0 1 1 (nth v) _ HF.out (by omega) r8_1 (vecs_one c8_1 Hv.out)).mono ?_; rintro _ W2 ⟨rfl, hw2⟩
    obtain ⟨r2_2, c2_2⟩ := keepB hw2 z2_1 r2_1 c2_1
    have z2_2 := isRow_lt r2_2
    obtain ⟨r3_2, c3_2⟩ := keepB hw2 z3_1 r3_1 c3_1
    have z3_2 := isRow_lt r3_2
    obtain ⟨r8_2, c8_2⟩ := keepB hw2 z8_1 r8_1 c8_1
    have z8_2 := isRow_lt r8_2
    have hb2 := hb1.trans (hw2.mono hb1.size)
    have q2 := hb2.size
    clear hw2 r2_1 c2_1 z2_1 r3_1 c3_1 z3_1 r8_1 c8_1 z8_1 hb1
    go_wp2_with fail
    go_ret2
    exact ⟨ret_ic HR.out.symm (by rfl), (by (repeat (first | exact hb2 | exact Below.refl _ _ | refine Below.alloc ?_ (by first | omega | (simp; try omega)) _ | refine below_setRow ?_ (by omega) _ | refine Below.drew ?_)))⟩
  · skip
    obtain ⟨hp2, hp31, hn1, hn8⟩ := sizes_range (co_sizes (okC_co hc))
    obtain ⟨n, rfl⟩ := Int.eq_ofNat_of_zero_le (show 0 ≤ n by omega)
    have hn : n ≤ 8 := by omega
    have hp : 0 < p := by omega
    have hp' : p ≤ 255 := by omega
    have HR := Lib.hid (counit_yes hc)
    go_enter Try.func34, Try.ntmps34
    go_wp2_with fail
    refine atomC fun W3 e3 => ?_
    have hb3 : Below w.heap.size w W3 := by rw [e3]; (repeat (first | exact Below.refl _ _ | refine Below.alloc ?_ (by first | omega | (simp; try omega)) _ | refine below_setRow ?_ (by omega) _ | refine Below.drew ?_))
    have q3 := hb3.size
    have R3 : IsRow W3 (w.heap.size) ∧ IsRow W3 (w.heap.size + 1) ∧ IsRow W3 (w.heap.size + 2) := by rw [e3]; simp [go_sem]
    obtain ⟨r2_3, r3_3, r8_3⟩ := R3
    have C3 := (⟨congrArg (blk · (w.heap.size)) e3, congrArg (blk · (w.heap.size + 1)) e3, congrArg (blk · (w.heap.size + 2)) e3⟩ : _ ∧ _ ∧ _); simp [go_sem] at C3
    obtain ⟨c2_3, c3_3, c8_3⟩ := C3
    have z2_3 := isRow_lt r2_3; have z3_3 := isRow_lt r3_3; have z8_3 := isRow_lt r8_3
    clear e3
    refine (isCoWith_any _ _ _ _ 0 1 1 (nth v) _ HF.out (by omega) r8_3 (vecs_one c8_3 Hv.out)).mono ?_; rintro _ W4 ⟨rfl, hw4⟩
    obtain ⟨r2_4, c2_4⟩ := keepB hw4 z2_3 r2_3 c2_3
    have z2_4 := isRow_lt r2_4
    obtain ⟨r3_4, c3_4⟩ := keepB hw4 z3_3 r3_3 c3_3
    have z3_4 := isRow_lt r3_4
    obtain ⟨r8_4, c8_4⟩ := keepB hw4 z8_3 r8_3 c8_3
    have z8_4 := isRow_lt r8_4
    have hb4 := hb3.trans (hw4.mono hb3.size)
    have q4 := hb4.size
    clear hw4 r2_3 c2_3 z2_3 r3_3 c3_3 z3_3 r8_3 c8_3 z8_3 hb3
    go_wp2_with fail
    refine (formValue_any _ _ _ _ hp hp' (unit_bytes HF.out) Hv.out).mono ?_; rintro _ W5 ⟨rfl, hw5⟩
    have hb5 := hb4.trans (hw5.mono hb4.size)
    have q5 := hb5.size
    clear hw5 hb4
    go_wp2_with fail
    go_ret2
    exact ⟨ret_ic HR.out.symm (by rfl), (by (repeat (first | exact hb5 | exact Below.refl _ _ | refine Below.alloc ?_ (by first | omega | (simp; try omega)) _ | refine below_setRow ?_ (by omega) _ | refine Below.drew ?_)))⟩

set_option maxRecDepth 100000 in
set_option maxHeartbeats 1000000 in
theorem specCounitIn_any (p n : Int) (f v : Nat → Int) (w : World) (hF : Bytes 520 f) (hv : Bytes 8 v) :
    Calls Try.prog 33 #[.agg (alg p n f), .agg (row 8 v)] w fun e w' => e = .returned (.tuple #[.int .i64 (counitR p n f v), .int .i64 (codeB (okC p n f 1 (nth v)))]) ∧ Below w.heap.size w w' := by
  have HF := Lib.hid hF; clear hF
  have Hv := Lib.hid hv; clear hv
  cases hc : okC p n f 1 (nth v)
  · skip
    have HR := Lib.hid (counit_no hc)
    have hc1 : codeB false = 1 := rfl
    go_enter Try.func33, Try.ntmps33
    go_wp2_with fail
    refine atomC fun W1 e1 => ?_
    have hb1 : Below w.heap.size w W1 := by rw [e1]; (repeat (first | exact Below.refl _ _ | refine Below.alloc ?_ (by first | omega | (simp; try omega)) _ | refine below_setRow ?_ (by omega) _ | refine Below.drew ?_))
    have q1 := hb1.size
    have R1 : IsRow W1 (w.heap.size) ∧ IsRow W1 (w.heap.size + 1) ∧ IsRow W1 (w.heap.size + 2) := by rw [e1]; simp [go_sem]
    obtain ⟨r2_1, r3_1, r9_1⟩ := R1
    have C1 := (⟨congrArg (blk · (w.heap.size)) e1, congrArg (blk · (w.heap.size + 1)) e1, congrArg (blk · (w.heap.size + 2)) e1⟩ : _ ∧ _ ∧ _); simp [go_sem] at C1
    obtain ⟨c2_1, c3_1, c9_1⟩ := C1
    have z2_1 := isRow_lt r2_1; have z3_1 := isRow_lt r3_1; have z9_1 := isRow_lt r9_1
    clear e1
    refine (l02Code_any _ _ _ _ 0 1 1 (nth v) _ HF.out (by omega) r9_1 (vecs_one c9_1 Hv.out)).mono ?_; rintro _ W2 ⟨rfl, hw2⟩
    obtain ⟨r2_2, c2_2⟩ := keepB hw2 z2_1 r2_1 c2_1
    have z2_2 := isRow_lt r2_2
    obtain ⟨r3_2, c3_2⟩ := keepB hw2 z3_1 r3_1 c3_1
    have z3_2 := isRow_lt r3_2
    obtain ⟨r9_2, c9_2⟩ := keepB hw2 z9_1 r9_1 c9_1
    have z9_2 := isRow_lt r9_2
    have hb2 := hb1.trans (hw2.mono hb1.size)
    have q2 := hb2.size
    clear hw2 r2_1 c2_1 z2_1 r3_1 c3_1 z3_1 r9_1 c9_1 z9_1 hb1
    go_wp2_with fail
    go_ret2
    exact ⟨ret_ic HR.out.symm (by rfl), (by (repeat (first | exact hb2 | exact Below.refl _ _ | refine Below.alloc ?_ (by first | omega | (simp; try omega)) _ | refine below_setRow ?_ (by omega) _ | refine Below.drew ?_)))⟩
  · skip
    obtain ⟨hp2, hp31, hn1, hn8⟩ := sizes_range (co_sizes (okC_co hc))
    obtain ⟨n, rfl⟩ := Int.eq_ofNat_of_zero_le (show 0 ≤ n by omega)
    have hn : n ≤ 8 := by omega
    have hp : 0 < p := by omega
    have hp' : p ≤ 255 := by omega
    have HR := Lib.hid (counit_yes hc)
    have hc1 : codeB true = 0 := rfl
    have HD := Lib.hid (dot_comm 8 v f)
    go_enter Try.func33, Try.ntmps33
    go_wp2_with fail
    refine atomC fun W3 e3 => ?_
    have hb3 : Below w.heap.size w W3 := by rw [e3]; (repeat (first | exact Below.refl _ _ | refine Below.alloc ?_ (by first | omega | (simp; try omega)) _ | refine below_setRow ?_ (by omega) _ | refine Below.drew ?_))
    have q3 := hb3.size
    have R3 : IsRow W3 (w.heap.size) ∧ IsRow W3 (w.heap.size + 1) ∧ IsRow W3 (w.heap.size + 2) := by rw [e3]; simp [go_sem]
    obtain ⟨r2_3, r3_3, r9_3⟩ := R3
    have C3 := (⟨congrArg (blk · (w.heap.size)) e3, congrArg (blk · (w.heap.size + 1)) e3, congrArg (blk · (w.heap.size + 2)) e3⟩ : _ ∧ _ ∧ _); simp [go_sem] at C3
    obtain ⟨c2_3, c3_3, c9_3⟩ := C3
    have z2_3 := isRow_lt r2_3; have z3_3 := isRow_lt r3_3; have z9_3 := isRow_lt r9_3
    clear e3
    refine (l02Code_any _ _ _ _ 0 1 1 (nth v) _ HF.out (by omega) r9_3 (vecs_one c9_3 Hv.out)).mono ?_; rintro _ W4 ⟨rfl, hw4⟩
    obtain ⟨r2_4, c2_4⟩ := keepB hw4 z2_3 r2_3 c2_3
    have z2_4 := isRow_lt r2_4
    obtain ⟨r3_4, c3_4⟩ := keepB hw4 z3_3 r3_3 c3_3
    have z3_4 := isRow_lt r3_4
    obtain ⟨r9_4, c9_4⟩ := keepB hw4 z9_3 r9_3 c9_3
    have z9_4 := isRow_lt r9_4
    have hb4 := hb3.trans (hw4.mono hb3.size)
    have q4 := hb4.size
    clear hw4 r2_3 c2_3 z2_3 r3_3 c3_3 z3_3 r9_3 c9_3 z9_3 hb3
    go_wp2_with fail
    refine (l02Counit_any _ _ _ _ _ hp hp' HF.out Hv.out).mono ?_; rintro _ W5 ⟨rfl, hw5⟩
    have hb5 := hb4.trans (hw5.mono hb4.size)
    have q5 := hb5.size
    clear hw5 hb4
    go_wp2_with fail
    go_ret2
    exact ⟨ret_ic (by rw [HR.out, HD.out]) (by rfl), (by (repeat (first | exact hb5 | exact Below.refl _ _ | refine Below.alloc ?_ (by first | omega | (simp; try omega)) _ | refine below_setRow ?_ (by omega) _ | refine Below.drew ?_)))⟩

/-- the coproduct of v, or zeros -/
def copR (p n : Int) (f v : Nat → Int) : Nat → Int := match okC p n f 1 (nth v) with | true => copF p f v 8 | false => zf
theorem copR_yes {p n : Int} {f v : Nat → Int} (h : okC p n f 1 (nth v) = true) : row 64 (copF p f v 8) = row 64 (copR p n f v) := by unfold copR; rw [h]
theorem copR_no {p n : Int} {f v : Nat → Int} (h : okC p n f 1 (nth v) = false) : row 64 zf = row 64 (copR p n f v) := by unfold copR; rw [h]
/-- by the images before n alone it is the same -/
theorem cop_same {p : Int} {n : Nat} {f v : Nat → Int} (hn : n ≤ 8) (h : shapeB p n f = true) : ∀ t, t < 64 → copS p f v n n 0 t = copF p f v 8 t := fun t ht => by
  unfold copS copK copF
  split
  · rw [if_neg (by omega), sumTo_more (n := n) (fun i h1 h2 => by have := (shape_entry h i (t / 8) (t % 8) h2 (by omega) (by omega)).2; rw [show mtab f i (t / 8) (t % 8) = 0 by omega, Int.mul_zero]) hn]
  · rw [sumTo_zero 8 fun i hi => by have := (shape_entry h i (t / 8) (t % 8) hi (by omega) (by omega)).2; rw [show mtab f i (t / 8) (t % 8) = 0 by omega, Int.mul_zero]]
    rfl

set_option maxRecDepth 100000 in
set_option maxHeartbeats 1000000 in
theorem coproductIn_any (p n : Int) (f v : Nat → Int) (w : World) (hF : Bytes 520 f) (hv : Bytes 8 v) :
    Calls Try.prog 31 #[.agg (alg p n f), .agg (row 8 v)] w fun e w' => e = .returned (.tuple #[.agg (row 64 (copR p n f v)), .int .i64 (codeB (okC p n f 1 (nth v)))]) ∧ Below w.heap.size w w' := by
  have HF := Lib.hid hF; clear hF
  have Hv := Lib.hid hv; clear hv
  cases hc : okC p n f 1 (nth v)
  · skip
    have HR := Lib.hid (copR_no hc)
    go_enter Try.func31, Try.ntmps31
    go_wp2_with fail
    refine atomC fun W1 e1 => ?_
    have hb1 : Below w.heap.size w W1 := by rw [e1]; (repeat (first | exact Below.refl _ _ | refine Below.alloc ?_ (by first | omega | (simp; try omega)) _ | refine below_setRow ?_ (by omega) _ | refine Below.drew ?_))
    have q1 := hb1.size
    have R1 : IsRow W1 (w.heap.size) ∧ IsRow W1 (w.heap.size + 1) ∧ IsRow W1 (w.heap.size + 2) ∧ IsRow W1 (w.heap.size + 3) := by rw [e1]; simp [go_sem]
    obtain ⟨r2_1, r3_1, r4_1, r8_1⟩ := R1
    have C1 := (⟨congrArg (blk · (w.heap.size)) e1, congrArg (blk · (w.heap.size + 1)) e1, congrArg (blk · (w.heap.size + 2)) e1, congrArg (blk · (w.heap.size + 3)) e1⟩ : _ ∧ _ ∧ _ ∧ _); simp [go_sem] at C1
    obtain ⟨c2_1, c3_1, c4_1, c8_1⟩ := C1
    have z2_1 := isRow_lt r2_1; have z3_1 := isRow_lt r3_1; have z4_1 := isRow_lt r4_1; have z8_1 := isRow_lt r8_1
    clear e1
    refine (isCoWith_any _ _ _ _ 0 1 1 (nth v) _ HF.out (by omega) r8_1 (vecs_one c8_1 Hv.out)).mono ?_; rintro _ W2 ⟨rfl, hw2⟩
    obtain ⟨r2_2, c2_2⟩ := keepB hw2 z2_1 r2_1 c2_1
    have z2_2 := isRow_lt r2_2
    obtain ⟨r3_2, c3_2⟩ := keepB hw2 z3_1 r3_1 c3_1
    have z3_2 := isRow_lt r3_2
    obtain ⟨r4_2, c4_2⟩ := keepB hw2 z4_1 r4_1 c4_1
    have z4_2 := isRow_lt r4_2
    obtain ⟨r8_2, c8_2⟩ := keepB hw2 z8_1 r8_1 c8_1
    have z8_2 := isRow_lt r8_2
    have hb2 := hb1.trans (hw2.mono hb1.size)
    have q2 := hb2.size
    clear hw2 r2_1 c2_1 z2_1 r3_1 c3_1 z3_1 r4_1 c4_1 z4_1 r8_1 c8_1 z8_1 hb1
    go_wp2_with fail
    refine bodyPost_ret (result_cell_tmp rfl aggLin _ _ (row 64 zf) _ _ rfl rfl ?_ ?_) rfl ⟨by rw [← HR.out]; rfl, ?_⟩
    · simp [go_sem, r2_2, c2_2, r3_2, c3_2, r4_2, c4_2, r8_2, c8_2]
    · simp [go_sem, r2_2, c2_2, r3_2, c3_2, r4_2, c4_2, r8_2, c8_2]
    · repeat (first | exact hb2 | exact Below.refl _ _ | refine Below.alloc ?_ (by first | omega | (simp; try omega)) _ | refine below_setRow ?_ (by omega) _ | refine Below.drew ?_)
  · skip
    obtain ⟨hp2, hp31, hn1, hn8⟩ := sizes_range (co_sizes (okC_co hc))
    obtain ⟨n, rfl⟩ := Int.eq_ofNat_of_zero_le (show 0 ≤ n by omega)
    have hn : n ≤ 8 := by omega
    have hp : 0 < p := by omega
    have hp' : p ≤ 255 := by omega
    have HR := Lib.hid (copR_yes hc)
    go_enter Try.func31, Try.ntmps31
    go_wp2_with fail
    refine atomC fun W3 e3 => ?_
    have hb3 : Below w.heap.size w W3 := by rw [e3]; (repeat (first | exact Below.refl _ _ | refine Below.alloc ?_ (by first | omega | (simp; try omega)) _ | refine below_setRow ?_ (by omega) _ | refine Below.drew ?_))
    have q3 := hb3.size
    have R3 : IsRow W3 (w.heap.size) ∧ IsRow W3 (w.heap.size + 1) ∧ IsRow W3 (w.heap.size + 2) ∧ IsRow W3 (w.heap.size + 3) := by rw [e3]; simp [go_sem]
    obtain ⟨r2_3, r3_3, r4_3, r8_3⟩ := R3
    have C3 := (⟨congrArg (blk · (w.heap.size)) e3, congrArg (blk · (w.heap.size + 1)) e3, congrArg (blk · (w.heap.size + 2)) e3, congrArg (blk · (w.heap.size + 3)) e3⟩ : _ ∧ _ ∧ _ ∧ _); simp [go_sem] at C3
    obtain ⟨c2_3, c3_3, c4_3, c8_3⟩ := C3
    have z2_3 := isRow_lt r2_3; have z3_3 := isRow_lt r3_3; have z4_3 := isRow_lt r4_3; have z8_3 := isRow_lt r8_3
    clear e3
    refine (isCoWith_any _ _ _ _ 0 1 1 (nth v) _ HF.out (by omega) r8_3 (vecs_one c8_3 Hv.out)).mono ?_; rintro _ W4 ⟨rfl, hw4⟩
    obtain ⟨r2_4, c2_4⟩ := keepB hw4 z2_3 r2_3 c2_3
    have z2_4 := isRow_lt r2_4
    obtain ⟨r3_4, c3_4⟩ := keepB hw4 z3_3 r3_3 c3_3
    have z3_4 := isRow_lt r3_4
    obtain ⟨r4_4, c4_4⟩ := keepB hw4 z4_3 r4_3 c4_3
    have z4_4 := isRow_lt r4_4
    obtain ⟨r8_4, c8_4⟩ := keepB hw4 z8_3 r8_3 c8_3
    have z8_4 := isRow_lt r8_4
    have hb4 := hb3.trans (hw4.mono hb3.size)
    have q4 := hb4.size
    clear hw4 r2_3 c2_3 z2_3 r3_3 c3_3 z3_3 r4_3 c4_3 z4_3 r8_3 c8_3 z8_3 hb3
    go_wp2_with fail
    refine (coproduct_any _ _ _ _ _ hp hp' HF.out Hv.out).mono ?_; rintro _ W5 ⟨rfl, hw5⟩
    obtain ⟨r4_5, c4_5⟩ := keepB hw5 z4_4 r4_4 c4_4
    have z4_5 := isRow_lt r4_5
    have hb5 := hb4.trans (hw5.mono hb4.size)
    have q5 := hb5.size
    clear hw5 r4_4 c4_4 z4_4 hb4
    go_wp2_with fail
    refine bodyPost_ret (result_cell_tmp rfl aggLin _ _ (row 64 (copF p f v 8)) _ _ rfl rfl ?_ ?_) rfl ⟨by rw [← HR.out]; rfl, ?_⟩
    · simp [go_sem, r4_5, c4_5]
    · simp [go_sem, r4_5, c4_5]
    · repeat (first | exact hb5 | exact Below.refl _ _ | refine Below.alloc ?_ (by first | omega | (simp; try omega)) _ | refine below_setRow ?_ (by omega) _ | refine Below.drew ?_)

set_option maxRecDepth 100000 in
set_option maxHeartbeats 1000000 in
theorem specCoproductIn_any (p n : Int) (f v : Nat → Int) (w : World) (hF : Bytes 520 f) (hv : Bytes 8 v) :
    Calls Try.prog 29 #[.agg (alg p n f), .agg (row 8 v)] w fun e w' => e = .returned (.tuple #[.agg (row 64 (copR p n f v)), .int .i64 (codeB (okC p n f 1 (nth v)))]) ∧ Below w.heap.size w w' := by
  have HF := Lib.hid hF; clear hF
  have Hv := Lib.hid hv; clear hv
  cases hc : okC p n f 1 (nth v)
  · skip
    have HR := Lib.hid (copR_no hc)
    have hc1 : codeB false = 1 := rfl
    go_enter Try.func29, Try.ntmps29
    go_wp2_with fail
    refine atomC fun W1 e1 => ?_
    have hb1 : Below w.heap.size w W1 := by rw [e1]; (repeat (first | exact Below.refl _ _ | refine Below.alloc ?_ (by first | omega | (simp; try omega)) _ | refine below_setRow ?_ (by omega) _ | refine Below.drew ?_))
    have q1 := hb1.size
    have R1 : IsRow W1 (w.heap.size) ∧ IsRow W1 (w.heap.size + 1) ∧ IsRow W1 (w.heap.size + 2) ∧ IsRow W1 (w.heap.size + 3) := by rw [e1]; simp [go_sem]
    obtain ⟨r2_1, r3_1, r4_1, r9_1⟩ := R1
    have C1 := (⟨congrArg (blk · (w.heap.size)) e1, congrArg (blk · (w.heap.size + 1)) e1, congrArg (blk · (w.heap.size + 2)) e1, congrArg (blk · (w.heap.size + 3)) e1⟩ : _ ∧ _ ∧ _ ∧ _); simp [go_sem] at C1
    obtain ⟨c2_1, c3_1, c4_1, c9_1⟩ := C1
    have z2_1 := isRow_lt r2_1; have z3_1 := isRow_lt r3_1; have z4_1 := isRow_lt r4_1; have z9_1 := isRow_lt r9_1
    clear e1
    refine (l02Code_any _ _ _ _ 0 1 1 (nth v) _ HF.out (by omega) r9_1 (vecs_one c9_1 Hv.out)).mono ?_; rintro _ W2 ⟨rfl, hw2⟩
    obtain ⟨r2_2, c2_2⟩ := keepB hw2 z2_1 r2_1 c2_1
    have z2_2 := isRow_lt r2_2
    obtain ⟨r3_2, c3_2⟩ := keepB hw2 z3_1 r3_1 c3_1
    have z3_2 := isRow_lt r3_2
    obtain ⟨r4_2, c4_2⟩ := keepB hw2 z4_1 r4_1 c4_1
    have z4_2 := isRow_lt r4_2
    obtain ⟨r9_2, c9_2⟩ := keepB hw2 z9_1 r9_1 c9_1
    have z9_2 := isRow_lt r9_2
    have hb2 := hb1.trans (hw2.mono hb1.size)
    have q2 := hb2.size
    clear hw2 r2_1 c2_1 z2_1 r3_1 c3_1 z3_1 r4_1 c4_1 z4_1 r9_1 c9_1 z9_1 hb1
    go_wp2_with fail
    refine bodyPost_ret (result_cell_tmp rfl aggLin _ _ (row 64 zf) _ _ rfl rfl ?_ ?_) rfl ⟨by rw [← HR.out]; rfl, ?_⟩
    · simp [go_sem, r2_2, c2_2, r3_2, c3_2, r4_2, c4_2, r9_2, c9_2]
    · simp [go_sem, r2_2, c2_2, r3_2, c3_2, r4_2, c4_2, r9_2, c9_2]
    · repeat (first | exact hb2 | exact Below.refl _ _ | refine Below.alloc ?_ (by first | omega | (simp; try omega)) _ | refine below_setRow ?_ (by omega) _ | refine Below.drew ?_)
  · skip
    obtain ⟨hp2, hp31, hn1, hn8⟩ := sizes_range (co_sizes (okC_co hc))
    obtain ⟨n, rfl⟩ := Int.eq_ofNat_of_zero_le (show 0 ≤ n by omega)
    have hn : n ≤ 8 := by omega
    have hp : 0 < p := by omega
    have hp' : p ≤ 255 := by omega
    have HR := Lib.hid ((row_congr (cop_same hn (co_shape (okC_co hc)))).trans (copR_yes hc))
    have hc1 : codeB true = 0 := rfl
    go_enter Try.func29, Try.ntmps29
    go_wp2_with fail
    refine atomC fun W3 e3 => ?_
    have hb3 : Below w.heap.size w W3 := by rw [e3]; (repeat (first | exact Below.refl _ _ | refine Below.alloc ?_ (by first | omega | (simp; try omega)) _ | refine below_setRow ?_ (by omega) _ | refine Below.drew ?_))
    have q3 := hb3.size
    have R3 : IsRow W3 (w.heap.size) ∧ IsRow W3 (w.heap.size + 1) ∧ IsRow W3 (w.heap.size + 2) ∧ IsRow W3 (w.heap.size + 3) := by rw [e3]; simp [go_sem]
    obtain ⟨r2_3, r3_3, r4_3, r9_3⟩ := R3
    have C3 := (⟨congrArg (blk · (w.heap.size)) e3, congrArg (blk · (w.heap.size + 1)) e3, congrArg (blk · (w.heap.size + 2)) e3, congrArg (blk · (w.heap.size + 3)) e3⟩ : _ ∧ _ ∧ _ ∧ _); simp [go_sem] at C3
    obtain ⟨c2_3, c3_3, c4_3, c9_3⟩ := C3
    have z2_3 := isRow_lt r2_3; have z3_3 := isRow_lt r3_3; have z4_3 := isRow_lt r4_3; have z9_3 := isRow_lt r9_3
    clear e3
    refine (l02Code_any _ _ _ _ 0 1 1 (nth v) _ HF.out (by omega) r9_3 (vecs_one c9_3 Hv.out)).mono ?_; rintro _ W4 ⟨rfl, hw4⟩
    obtain ⟨r2_4, c2_4⟩ := keepB hw4 z2_3 r2_3 c2_3
    have z2_4 := isRow_lt r2_4
    obtain ⟨r3_4, c3_4⟩ := keepB hw4 z3_3 r3_3 c3_3
    have z3_4 := isRow_lt r3_4
    obtain ⟨r4_4, c4_4⟩ := keepB hw4 z4_3 r4_3 c4_3
    have z4_4 := isRow_lt r4_4
    obtain ⟨r9_4, c9_4⟩ := keepB hw4 z9_3 r9_3 c9_3
    have z9_4 := isRow_lt r9_4
    have hb4 := hb3.trans (hw4.mono hb3.size)
    have q4 := hb4.size
    clear hw4 r2_3 c2_3 z2_3 r3_3 c3_3 z3_3 r4_3 c4_3 z4_3 r9_3 c9_3 z9_3 hb3
    go_wp2_with fail
    refine (l02Coproduct_any _ _ _ _ _ hp hp' hn HF.out Hv.out).mono ?_; rintro _ W5 ⟨rfl, hw5⟩
    obtain ⟨r4_5, c4_5⟩ := keepB hw5 z4_4 r4_4 c4_4
    have z4_5 := isRow_lt r4_5
    have hb5 := hb4.trans (hw5.mono hb4.size)
    have q5 := hb5.size
    clear hw5 r4_4 c4_4 z4_4 hb4
    go_wp2_with fail
    refine bodyPost_ret (result_cell_tmp rfl aggLin _ _ (row 64 (copS p f v n n 0)) _ _ rfl rfl ?_ ?_) rfl ⟨by rw [← HR.out]; rfl, ?_⟩
    · simp [go_sem, r4_5, c4_5]
    · simp [go_sem, r4_5, c4_5]
    · repeat (first | exact hb5 | exact Below.refl _ _ | refine Below.alloc ?_ (by first | omega | (simp; try omega)) _ | refine below_setRow ?_ (by omega) _ | refine Below.drew ?_)

set_option maxRecDepth 100000 in
set_option maxHeartbeats 2000000 in
theorem lawCounitIn (fp fn : Int) (f : Nat → Int) (v : Nat → Int) (w : World) (_wfp : (Lit.int .i64 fp).wf = true) (_wfn : (Lit.int .i64 fn).wf = true) (hf : Bytes 520 f) (hv : Bytes 8 v) :
    Calls Try.prog 6 #[.agg (alg fp fn f), .agg (row 8 v)] w fun e w' => e = .returned (.bool true) ∧ Below w.heap.size w w' := by
  have Hf := Lib.hid hf; clear hf
  have Hv := Lib.hid hv; clear hv
  go_enter Try.func6, Try.ntmps6
  go_wp2
  refine atomW fun W1 e1 => ?_
  have hb1 : Below w.heap.size w W1 := by rw [e1]; (repeat (first | exact Below.refl _ _ | refine Below.alloc ?_ (by first | omega | (simp; try omega)) _ | refine below_setRow ?_ (by omega) _ | refine Below.drew ?_))
  have q1 := hb1.size
  have R1 : IsRow W1 (w.heap.size) ∧ IsRow W1 (w.heap.size + 1) := by rw [e1]; simp [go_sem]
  obtain ⟨r2_1, r3_1⟩ := R1
  have C1 := (⟨congrArg (blk · (w.heap.size)) e1, congrArg (blk · (w.heap.size + 1)) e1⟩ : _ ∧ _); simp [go_sem] at C1
  obtain ⟨c2_1, c3_1⟩ := C1
  have z2_1 := isRow_lt r2_1; have z3_1 := isRow_lt r3_1
  clear e1
  refine wp_quiet_all (Below W1.heap.size W1) (by kernel_rfl) (by kernel_rfl) (Below.refl _ _).drew ?_
  iterate 1 (refine q_plain rfl ?_; apply Exists.intro; refine ⟨fun W hW => ?_, ?_⟩; (focus (obtain ⟨x2, y2⟩ := keepB hW z2_1 r2_1 c2_1; obtain ⟨x3, y3⟩ := keepB hW z3_1 r3_1 c3_1; go_simp; first | done | rfl)); simp only [Act.put, List.setIfInBounds_toArray, List.set_cons_zero, List.set_cons_succ])
  (refine q_plain rfl ?_; apply Exists.intro; refine ⟨fun W hW => ?_, ?_⟩; (focus (obtain ⟨x2, y2⟩ := keepB hW z2_1 r2_1 c2_1; obtain ⟨x3, y3⟩ := keepB hW z3_1 r3_1 c3_1; go_simp; (go_at_call 22; exact (toCoalgebra_any _ _ _ _).mono fun e w2 ⟨he, hw2⟩ => ⟨he, hW.trans (hw2.mono hW.size)⟩))); simp only [Act.put, List.setIfInBounds_toArray, List.set_cons_zero, List.set_cons_succ])
  iterate 1 (refine q_plain rfl ?_; apply Exists.intro; refine ⟨fun W hW => ?_, ?_⟩; (focus (obtain ⟨x2, y2⟩ := keepB hW z2_1 r2_1 c2_1; obtain ⟨x3, y3⟩ := keepB hW z3_1 r3_1 c3_1; go_simp; first | done | rfl)); simp only [Act.put, List.setIfInBounds_toArray, List.set_cons_zero, List.set_cons_succ])
  (refine q_plain rfl ?_; apply Exists.intro; refine ⟨fun W hW => ?_, ?_⟩; (focus (obtain ⟨x2, y2⟩ := keepB hW z2_1 r2_1 c2_1; obtain ⟨x3, y3⟩ := keepB hW z3_1 r3_1 c3_1; go_simp; (go_at_call 30; exact (toVector_any _ _).mono fun e w2 ⟨he, hw2⟩ => ⟨he, hW.trans (hw2.mono hW.size)⟩))); simp only [Act.put, List.setIfInBounds_toArray, List.set_cons_zero, List.set_cons_succ])
  (refine q_plain rfl ?_; apply Exists.intro; refine ⟨fun W hW => ?_, ?_⟩; (focus (obtain ⟨x2, y2⟩ := keepB hW z2_1 r2_1 c2_1; obtain ⟨x3, y3⟩ := keepB hW z3_1 r3_1 c3_1; go_simp; (go_at_call 33; exact (specCounitIn_any _ _ _ _ _ Hf.out Hv.out).mono fun e w2 ⟨he, hw2⟩ => ⟨he, hW.trans (hw2.mono hW.size)⟩))); simp only [Act.put, List.setIfInBounds_toArray, List.set_cons_zero, List.set_cons_succ])
  iterate 5 (refine q_plain rfl ?_; apply Exists.intro; refine ⟨fun W hW => ?_, ?_⟩; (focus (obtain ⟨x2, y2⟩ := keepB hW z2_1 r2_1 c2_1; obtain ⟨x3, y3⟩ := keepB hW z3_1 r3_1 c3_1; go_simp; first | done | rfl)); simp only [Act.put, List.setIfInBounds_toArray, List.set_cons_zero, List.set_cons_succ])
  refine wpQuiet_nil ?_
  intro W2 hw2
  obtain ⟨r2_2, c2_2⟩ := keepB hw2 z2_1 r2_1 c2_1
  have z2_2 := isRow_lt r2_2
  obtain ⟨r3_2, c3_2⟩ := keepB hw2 z3_1 r3_1 c3_1
  have z3_2 := isRow_lt r3_2
  have hb2 := hb1.trans (hw2.mono hb1.size)
  have q2 := hb2.size
  clear hw2 r2_1 c2_1 z2_1 r3_1 c3_1 z3_1 hb1
  go_wp2
  refine wp_quiet_all (Below W2.heap.size W2) (by kernel_rfl) (by kernel_rfl) (Below.refl _ _).drew ?_
  iterate 1 (refine q_plain rfl ?_; apply Exists.intro; refine ⟨fun W hW => ?_, ?_⟩; (focus (obtain ⟨x2, y2⟩ := keepB hW z2_2 r2_2 c2_2; obtain ⟨x3, y3⟩ := keepB hW z3_2 r3_2 c3_2; go_simp; first | done | rfl)); simp only [Act.put, List.setIfInBounds_toArray, List.set_cons_zero, List.set_cons_succ])
  (refine q_plain rfl ?_; apply Exists.intro; refine ⟨fun W hW => ?_, ?_⟩; (focus (obtain ⟨x2, y2⟩ := keepB hW z2_2 r2_2 c2_2; obtain ⟨x3, y3⟩ := keepB hW z3_2 r3_2 c3_2; go_simp; (go_at_call 22; exact (toCoalgebra_any _ _ _ _).mono fun e w2 ⟨he, hw2⟩ => ⟨he, hW.trans (hw2.mono hW.size)⟩))); simp only [Act.put, List.setIfInBounds_toArray, List.set_cons_zero, List.set_cons_succ])
  iterate 1 (refine q_plain rfl ?_; apply Exists.intro; refine ⟨fun W hW => ?_, ?_⟩; (focus (obtain ⟨x2, y2⟩ := keepB hW z2_2 r2_2 c2_2; obtain ⟨x3, y3⟩ := keepB hW z3_2 r3_2 c3_2; go_simp; first | done | rfl)); simp only [Act.put, List.setIfInBounds_toArray, List.set_cons_zero, List.set_cons_succ])
  (refine q_plain rfl ?_; apply Exists.intro; refine ⟨fun W hW => ?_, ?_⟩; (focus (obtain ⟨x2, y2⟩ := keepB hW z2_2 r2_2 c2_2; obtain ⟨x3, y3⟩ := keepB hW z3_2 r3_2 c3_2; go_simp; (go_at_call 30; exact (toVector_any _ _).mono fun e w2 ⟨he, hw2⟩ => ⟨he, hW.trans (hw2.mono hW.size)⟩))); simp only [Act.put, List.setIfInBounds_toArray, List.set_cons_zero, List.set_cons_succ])
  (refine q_plain rfl ?_; apply Exists.intro; refine ⟨fun W hW => ?_, ?_⟩; (focus (obtain ⟨x2, y2⟩ := keepB hW z2_2 r2_2 c2_2; obtain ⟨x3, y3⟩ := keepB hW z3_2 r3_2 c3_2; go_simp; (go_at_call 34; exact (counitIn_any _ _ _ _ _ Hf.out Hv.out).mono fun e w2 ⟨he, hw2⟩ => ⟨he, hW.trans (hw2.mono hW.size)⟩))); simp only [Act.put, List.setIfInBounds_toArray, List.set_cons_zero, List.set_cons_succ])
  iterate 5 (refine q_plain rfl ?_; apply Exists.intro; refine ⟨fun W hW => ?_, ?_⟩; (focus (obtain ⟨x2, y2⟩ := keepB hW z2_2 r2_2 c2_2; obtain ⟨x3, y3⟩ := keepB hW z3_2 r3_2 c3_2; go_simp; first | done | rfl)); simp only [Act.put, List.setIfInBounds_toArray, List.set_cons_zero, List.set_cons_succ])
  refine wpQuiet_nil ?_
  intro W3 hw3
  obtain ⟨r2_3, c2_3⟩ := keepB hw3 z2_2 r2_2 c2_2
  have z2_3 := isRow_lt r2_3
  obtain ⟨r3_3, c3_3⟩ := keepB hw3 z3_2 r3_2 c3_2
  have z3_3 := isRow_lt r3_3
  have hb3 := hb2.trans (hw3.mono hb2.size)
  have q3 := hb3.size
  clear hw3 r2_2 c2_2 z2_2 r3_2 c3_2 z3_2 hb2
  go_wp2_with fail
  go_ret
  exact ⟨rfl, (by (repeat (first | exact hb3 | exact Below.refl _ _ | refine Below.alloc ?_ (by first | omega | (simp; try omega)) _ | refine below_setRow ?_ (by omega) _ | refine Below.drew ?_)))⟩

set_option maxRecDepth 100000 in
set_option maxHeartbeats 2000000 in
theorem lawCoproductIn (fp fn : Int) (f : Nat → Int) (v : Nat → Int) (w : World) (_wfp : (Lit.int .i64 fp).wf = true) (_wfn : (Lit.int .i64 fn).wf = true) (hf : Bytes 520 f) (hv : Bytes 8 v) :
    Calls Try.prog 5 #[.agg (alg fp fn f), .agg (row 8 v)] w fun e w' => e = .returned (.bool true) ∧ Below w.heap.size w w' := by
  have Hf := Lib.hid hf; clear hf
  have Hv := Lib.hid hv; clear hv
  go_enter Try.func5, Try.ntmps5
  go_wp2
  refine atomW fun W1 e1 => ?_
  have hb1 : Below w.heap.size w W1 := by rw [e1]; (repeat (first | exact Below.refl _ _ | refine Below.alloc ?_ (by first | omega | (simp; try omega)) _ | refine below_setRow ?_ (by omega) _ | refine Below.drew ?_))
  have q1 := hb1.size
  have R1 : IsRow W1 (w.heap.size) ∧ IsRow W1 (w.heap.size + 1) := by rw [e1]; simp [go_sem]
  obtain ⟨r2_1, r3_1⟩ := R1
  have C1 := (⟨congrArg (blk · (w.heap.size)) e1, congrArg (blk · (w.heap.size + 1)) e1⟩ : _ ∧ _); simp [go_sem] at C1
  obtain ⟨c2_1, c3_1⟩ := C1
  have z2_1 := isRow_lt r2_1; have z3_1 := isRow_lt r3_1
  clear e1
  refine wp_quiet_alloc_late 8 7 _ _ (.cells (row 64 zf) 30) (Below W1.heap.size W1) (Made W1 (row 64 zf)) (by kernel_rfl) rfl rfl rfl (by kernel_rfl) (by kernel_rfl) (fun c a w d v h => by cases d <;> exact h) (fun a W => (xallocLin _ _ _ _ _ _ _).trans (allocLin W)) (closed_below W1) (closed_made W1 _) (fun b W h => h.1) (fun W h => made_new W1 _ _ W h) (Below.refl _ _).drew ?_
  simp only [List.take_succ_cons, List.take_zero, List.drop_succ_cons, List.drop_zero]
  iterate 1 (refine e_plain rfl ?_; apply Exists.intro; refine ⟨fun D hD hK W hW => ?_, ?_⟩; (focus (obtain ⟨x2, y2⟩ := keepB (hD W hW) z2_1 r2_1 c2_1; obtain ⟨x3, y3⟩ := keepB (hD W hW) z3_1 r3_1 c3_1; unfold Oper.quietAt; go_simp; first | done | rfl)); simp only [Act.put, List.setIfInBounds_toArray, List.set_cons_zero, List.set_cons_succ])
  (refine e_plain rfl ?_; apply Exists.intro; refine ⟨fun D hD hK W hW => ?_, ?_⟩; (focus (obtain ⟨x2, y2⟩ := keepB (hD W hW) z2_1 r2_1 c2_1; obtain ⟨x3, y3⟩ := keepB (hD W hW) z3_1 r3_1 c3_1; unfold Oper.quietAt; go_simp; (go_at_call 22; exact (toCoalgebra_any _ _ _ _).mono fun e w2 ⟨he, hw2⟩ => ⟨he, hK _ _ hW hw2⟩))); simp only [Act.put, List.setIfInBounds_toArray, List.set_cons_zero, List.set_cons_succ])
  iterate 1 (refine e_plain rfl ?_; apply Exists.intro; refine ⟨fun D hD hK W hW => ?_, ?_⟩; (focus (obtain ⟨x2, y2⟩ := keepB (hD W hW) z2_1 r2_1 c2_1; obtain ⟨x3, y3⟩ := keepB (hD W hW) z3_1 r3_1 c3_1; unfold Oper.quietAt; go_simp; first | done | rfl)); simp only [Act.put, List.setIfInBounds_toArray, List.set_cons_zero, List.set_cons_succ])
  (refine e_plain rfl ?_; apply Exists.intro; refine ⟨fun D hD hK W hW => ?_, ?_⟩; (focus (obtain ⟨x2, y2⟩ := keepB (hD W hW) z2_1 r2_1 c2_1; obtain ⟨x3, y3⟩ := keepB (hD W hW) z3_1 r3_1 c3_1; unfold Oper.quietAt; go_simp; (go_at_call 30; exact (toVector_any _ _).mono fun e w2 ⟨he, hw2⟩ => ⟨he, hK _ _ hW hw2⟩))); simp only [Act.put, List.setIfInBounds_toArray, List.set_cons_zero, List.set_cons_succ])
  (refine e_plain rfl ?_; apply Exists.intro; refine ⟨fun D hD hK W hW => ?_, ?_⟩; (focus (obtain ⟨x2, y2⟩ := keepB (hD W hW) z2_1 r2_1 c2_1; obtain ⟨x3, y3⟩ := keepB (hD W hW) z3_1 r3_1 c3_1; unfold Oper.quietAt; go_simp; (go_at_call 29; exact (specCoproductIn_any _ _ _ _ _ Hf.out Hv.out).mono fun e w2 ⟨he, hw2⟩ => ⟨he, hK _ _ hW hw2⟩))); simp only [Act.put, List.setIfInBounds_toArray, List.set_cons_zero, List.set_cons_succ])
  iterate 3 (refine e_plain rfl ?_; apply Exists.intro; refine ⟨fun D hD hK W hW => ?_, ?_⟩; (focus (obtain ⟨x2, y2⟩ := keepB (hD W hW) z2_1 r2_1 c2_1; obtain ⟨x3, y3⟩ := keepB (hD W hW) z3_1 r3_1 c3_1; unfold Oper.quietAt; go_simp; first | done | rfl)); simp only [Act.put, List.setIfInBounds_toArray, List.set_cons_zero, List.set_cons_succ])
  refine e_nil ?_
  intro a2 W2 hW2
  obtain ⟨hw2, hl2, m1_2, m2_2⟩ := hW2
  have n2_5 : (w.heap.size) ≠ (a2) := by have := z2_1; omega
  have n5_2 : (a2) ≠ (w.heap.size) := by have := z2_1; omega
  have n3_5 : (w.heap.size + 1) ≠ (a2) := by have := z3_1; omega
  have n5_3 : (a2) ≠ (w.heap.size + 1) := by have := z3_1; omega
  obtain ⟨r2_2, c2_2⟩ := keepB hw2 z2_1 r2_1 c2_1
  have z2_2 := isRow_lt r2_2
  obtain ⟨r3_2, c3_2⟩ := keepB hw2 z3_1 r3_1 c3_1
  have z3_2 := isRow_lt r3_2
  have hb2 := hb1.trans (hw2.mono hb1.size)
  have q2 := hb2.size
  clear hw2 r2_1 c2_1 z2_1 r3_1 c3_1 z3_1 hb1
  have z5_2 := isRow_lt m1_2
  simp only [Act.put, List.setIfInBounds_toArray, List.set_cons_zero, List.set_cons_succ]
  go_wp2
  refine atomW fun W3 e3 => ?_
  have hb3 : Below w.heap.size w W3 := by rw [e3]; (repeat (first | exact hb2 | exact Below.refl _ _ | refine Below.alloc ?_ (by first | omega | (simp; try omega)) _ | refine below_setRow ?_ (by omega) _ | refine Below.drew ?_))
  have q3 := hb3.size
  have R3 : IsRow W3 (w.heap.size) ∧ IsRow W3 (w.heap.size + 1) ∧ IsRow W3 (a2) := by rw [e3]; simp [go_sem, r2_2, c2_2, n2_5, r3_2, c3_2, n3_5, m1_2, m2_2, n5_2, n5_3]
  obtain ⟨r2_3, r3_3, r5_3⟩ := R3
  have C3 := (⟨congrArg (blk · (w.heap.size)) e3, congrArg (blk · (w.heap.size + 1)) e3, congrArg (blk · (a2)) e3⟩ : _ ∧ _ ∧ _); simp [go_sem, r2_2, c2_2, n2_5, r3_2, c3_2, n3_5, m1_2, m2_2, n5_2, n5_3] at C3
  obtain ⟨c2_3, c3_3, c5_3⟩ := C3
  have z2_3 := isRow_lt r2_3; have z3_3 := isRow_lt r3_3; have z5_3 := isRow_lt r5_3
  clear e3 r2_2 c2_2 z2_2 r3_2 c3_2 z3_2 m1_2 m2_2 z5_2 hb2
  refine wp_quiet_alloc_late 8 7 _ _ (.cells (row 64 zf) 30) (Below W3.heap.size W3) (Made W3 (row 64 zf)) (by kernel_rfl) rfl rfl rfl (by kernel_rfl) (by kernel_rfl) (fun c a w d v h => by cases d <;> exact h) (fun a W => (xallocLin _ _ _ _ _ _ _).trans (allocLin W)) (closed_below W3) (closed_made W3 _) (fun b W h => h.1) (fun W h => made_new W3 _ _ W h) (Below.refl _ _).drew ?_
  simp only [List.take_succ_cons, List.take_zero, List.drop_succ_cons, List.drop_zero]
  iterate 1 (refine e_plain rfl ?_; apply Exists.intro; refine ⟨fun D hD hK W hW => ?_, ?_⟩; (focus (obtain ⟨x2, y2⟩ := keepB (hD W hW) z2_3 r2_3 c2_3; obtain ⟨x3, y3⟩ := keepB (hD W hW) z3_3 r3_3 c3_3; obtain ⟨x5, y5⟩ := keepB (hD W hW) z5_3 r5_3 c5_3; unfold Oper.quietAt; go_simp; first | done | rfl)); simp only [Act.put, List.setIfInBounds_toArray, List.set_cons_zero, List.set_cons_succ])
  (refine e_plain rfl ?_; apply Exists.intro; refine ⟨fun D hD hK W hW => ?_, ?_⟩; (focus (obtain ⟨x2, y2⟩ := keepB (hD W hW) z2_3 r2_3 c2_3; obtain ⟨x3, y3⟩ := keepB (hD W hW) z3_3 r3_3 c3_3; obtain ⟨x5, y5⟩ := keepB (hD W hW) z5_3 r5_3 c5_3; unfold Oper.quietAt; go_simp; (go_at_call 22; exact (toCoalgebra_any _ _ _ _).mono fun e w2 ⟨he, hw2⟩ => ⟨he, hK _ _ hW hw2⟩))); simp only [Act.put, List.setIfInBounds_toArray, List.set_cons_zero, List.set_cons_succ])
  iterate 1 (refine e_plain rfl ?_; apply Exists.intro; refine ⟨fun D hD hK W hW => ?_, ?_⟩; (focus (obtain ⟨x2, y2⟩ := keepB (hD W hW) z2_3 r2_3 c2_3; obtain ⟨x3, y3⟩ := keepB (hD W hW) z3_3 r3_3 c3_3; obtain ⟨x5, y5⟩ := keepB (hD W hW) z5_3 r5_3 c5_3; unfold Oper.quietAt; go_simp; first | done | rfl)); simp only [Act.put, List.setIfInBounds_toArray, List.set_cons_zero, List.set_cons_succ])
  (refine e_plain rfl ?_; apply Exists.intro; refine ⟨fun D hD hK W hW => ?_, ?_⟩; (focus (obtain ⟨x2, y2⟩ := keepB (hD W hW) z2_3 r2_3 c2_3; obtain ⟨x3, y3⟩ := keepB (hD W hW) z3_3 r3_3 c3_3; obtain ⟨x5, y5⟩ := keepB (hD W hW) z5_3 r5_3 c5_3; unfold Oper.quietAt; go_simp; (go_at_call 30; exact (toVector_any _ _).mono fun e w2 ⟨he, hw2⟩ => ⟨he, hK _ _ hW hw2⟩))); simp only [Act.put, List.setIfInBounds_toArray, List.set_cons_zero, List.set_cons_succ])
  (refine e_plain rfl ?_; apply Exists.intro; refine ⟨fun D hD hK W hW => ?_, ?_⟩; (focus (obtain ⟨x2, y2⟩ := keepB (hD W hW) z2_3 r2_3 c2_3; obtain ⟨x3, y3⟩ := keepB (hD W hW) z3_3 r3_3 c3_3; obtain ⟨x5, y5⟩ := keepB (hD W hW) z5_3 r5_3 c5_3; unfold Oper.quietAt; go_simp; (go_at_call 31; exact (coproductIn_any _ _ _ _ _ Hf.out Hv.out).mono fun e w2 ⟨he, hw2⟩ => ⟨he, hK _ _ hW hw2⟩))); simp only [Act.put, List.setIfInBounds_toArray, List.set_cons_zero, List.set_cons_succ])
  iterate 3 (refine e_plain rfl ?_; apply Exists.intro; refine ⟨fun D hD hK W hW => ?_, ?_⟩; (focus (obtain ⟨x2, y2⟩ := keepB (hD W hW) z2_3 r2_3 c2_3; obtain ⟨x3, y3⟩ := keepB (hD W hW) z3_3 r3_3 c3_3; obtain ⟨x5, y5⟩ := keepB (hD W hW) z5_3 r5_3 c5_3; unfold Oper.quietAt; go_simp; first | done | rfl)); simp only [Act.put, List.setIfInBounds_toArray, List.set_cons_zero, List.set_cons_succ])
  refine e_nil ?_
  intro a4 W4 hW4
  obtain ⟨hw4, hl4, m1_4, m2_4⟩ := hW4
  have n2_7 : (w.heap.size) ≠ (a4) := by have := z2_3; omega
  have n7_2 : (a4) ≠ (w.heap.size) := by have := z2_3; omega
  have n3_7 : (w.heap.size + 1) ≠ (a4) := by have := z3_3; omega
  have n7_3 : (a4) ≠ (w.heap.size + 1) := by have := z3_3; omega
  have n5_7 : (a2) ≠ (a4) := by have := z5_3; omega
  have n7_5 : (a4) ≠ (a2) := by have := z5_3; omega
  obtain ⟨r2_4, c2_4⟩ := keepB hw4 z2_3 r2_3 c2_3
  have z2_4 := isRow_lt r2_4
  obtain ⟨r3_4, c3_4⟩ := keepB hw4 z3_3 r3_3 c3_3
  have z3_4 := isRow_lt r3_4
  obtain ⟨r5_4, c5_4⟩ := keepB hw4 z5_3 r5_3 c5_3
  have z5_4 := isRow_lt r5_4
  have hb4 := hb3.trans (hw4.mono hb3.size)
  have q4 := hb4.size
  clear hw4 r2_3 c2_3 z2_3 r3_3 c3_3 z3_3 r5_3 c5_3 z5_3 hb3
  have z7_4 := isRow_lt m1_4
  simp only [Act.put, List.setIfInBounds_toArray, List.set_cons_zero, List.set_cons_succ]
  go_wp2_with fail
  refine atomC fun W5 e5 => ?_
  have hb5 : Below w.heap.size w W5 := by rw [e5]; (repeat (first | exact hb4 | exact Below.refl _ _ | refine Below.alloc ?_ (by first | omega | (simp; try omega)) _ | refine below_setRow ?_ (by omega) _ | refine Below.drew ?_))
  have q5 := hb5.size
  clear e5 hb4
  refine (eqLinear_same _ _).mono ?_; rintro _ W6 ⟨rfl, hw6⟩
  have hb6 := hb5.trans (hw6.mono hb5.size)
  have q6 := hb6.size
  clear hw6 hb5
  go_wp2_with fail
  go_ret
  exact ⟨rfl, (by (repeat (first | exact hb6 | exact Below.refl _ _ | refine Below.alloc ?_ (by first | omega | (simp; try omega)) _ | refine below_setRow ?_ (by omega) _ | refine Below.drew ?_)))⟩

end Go.Proofs.Ytfdejhhgkpdfdaa
