/- Unit maps and cocommutative coalgebras: both programs, and their laws. -/
import Derived.Test.YtfdejhhgkpdfdaaQ10
namespace Go.Proofs.Ytfdejhhgkpdfdaa
open Go.RowKit
set_option linter.unusedSimpArgs false
set_option linter.unusedVariables false
attribute [local irreducible] wpQuiet wpQE

def umCode (p n q m : Int) (f g : Nat → Int) : Int := match coB p n f && algB q m g with | true => (if p = q then 0 else 2) | false => 1
def umF (p n q m : Int) (f g : Nat → Int) : Nat → Int := match coB p n f && algB q m g with | true => (if p = q then outF q f g 8 else zf) | false => zf
theorem um_bad {p n q m : Int} {f g : Nat → Int} (h : (coB p n f && algB q m g) = false) : umCode p n q m f g = 1 ∧ row 64 zf = row 64 (umF p n q m f g) := by unfold umCode umF; rw [h]; exact ⟨rfl, rfl⟩
theorem um_ne {p n q m : Int} {f g : Nat → Int} (h : coB p n f = true) (h' : algB q m g = true) (e : ¬ p = q) : umCode p n q m f g = 2 ∧ row 64 zf = row 64 (umF p n q m f g) := by unfold umCode umF; rw [h, h']; exact ⟨if_neg e, by simp only [Bool.and_self]; rw [if_neg e]⟩
theorem um_eq {p n m : Int} {f g : Nat → Int} (h : coB p n f = true) (h' : algB p m g = true) : umCode p n p m f g = 0 ∧ row 64 (outF p f g 8) = row 64 (umF p n p m f g) := by unfold umCode umF; rw [h, h']; exact ⟨if_pos rfl, by simp only [Bool.and_self]; rw [if_pos trivial]⟩
theorem out_short {p n : Int} {m : Nat} {f g : Nat → Int} (h : shapeB p n f = true) (hn : n = (m : Int)) : row 64 (outF p f g m) = row 64 (outF p f g 8) := row_congr fun t ht => by
  unfold outF
  rw [if_pos (show t / 8 < 8 by omega)]
  split
  · rfl
  · rcases (shape_unit h (t / 8) (by omega)).2 with h1 | h1
    · omega
    · rw [h1, Int.zero_mul]; rfl
theorem ret_ci {c d : Array Value} {a b : Int} (h : c = d) (h' : a = b) : Ending.returned (.tuple #[.agg c, .int .i64 a]) = .returned (.tuple #[.agg d, .int .i64 b]) := by rw [h, h']

set_option maxRecDepth 100000 in
set_option maxHeartbeats 1000000 in
theorem unitMapR_any (p n q m : Int) (f g : Nat → Int) (w : World) (hF : Bytes 520 f) (hG : Bytes 520 g) :
    Calls Try.prog 45 #[.agg (alg p n f), .agg (alg q m g)] w fun e w' => e = .returned (.tuple #[.agg (row 64 (umF p n q m f g)), .int .i64 (umCode p n q m f g)]) ∧ Below w.heap.size w w' := by
  have HF := Lib.hid hF; clear hF
  have HG := Lib.hid hG; clear hG
  cases hc : coB p n f
  · skip
    have HR := Lib.hid (um_bad (p := p) (n := n) (q := q) (m := m) (f := f) (g := g) (by rw [hc]; first | rfl | (cases coB p n f <;> rfl)))
    go_enter Try.func45, Try.ntmps45
    go_wp2_with fail
    refine atomC fun W1 e1 => ?_
    have hb1 : Below w.heap.size w W1 := by rw [e1]; (repeat (first | exact Below.refl _ _ | refine Below.alloc ?_ (by first | omega | (simp; try omega)) _ | refine below_setRow ?_ (by omega) _ | refine Below.drew ?_))
    have q1 := hb1.size
    have R1 : IsRow W1 (w.heap.size) ∧ IsRow W1 (w.heap.size + 1) ∧ IsRow W1 (w.heap.size + 2) := by rw [e1]; simp [go_sem]
    obtain ⟨r2_1, r3_1, r4_1⟩ := R1
    have C1 := (⟨congrArg (blk · (w.heap.size)) e1, congrArg (blk · (w.heap.size + 1)) e1, congrArg (blk · (w.heap.size + 2)) e1⟩ : _ ∧ _ ∧ _); simp [go_sem] at C1
    obtain ⟨c2_1, c3_1, c4_1⟩ := C1
    have z2_1 := isRow_lt r2_1; have z3_1 := isRow_lt r3_1; have z4_1 := isRow_lt r4_1
    clear e1
    refine (isCo_any _ _ _ _ HF.out).mono ?_; rintro _ W2 ⟨rfl, hw2⟩
    obtain ⟨r2_2, c2_2⟩ := keepB hw2 z2_1 r2_1 c2_1
    have z2_2 := isRow_lt r2_2
    obtain ⟨r3_2, c3_2⟩ := keepB hw2 z3_1 r3_1 c3_1
    have z3_2 := isRow_lt r3_2
    obtain ⟨r4_2, c4_2⟩ := keepB hw2 z4_1 r4_1 c4_1
    have z4_2 := isRow_lt r4_2
    have hb2 := hb1.trans (hw2.mono hb1.size)
    have q2 := hb2.size
    clear hw2 r2_1 c2_1 z2_1 r3_1 c3_1 z3_1 r4_1 c4_1 z4_1 hb1
    go_wp2_with fail
    refine bodyPost_ret (result_cell_tmp rfl aggLin _ _ (row 64 zf) _ _ rfl rfl ?_ ?_) rfl ⟨by rw [← HR.out.2, HR.out.1]; rfl, ?_⟩
    · simp [go_sem, r2_2, c2_2, r3_2, c3_2, r4_2, c4_2]
    · simp [go_sem, r2_2, c2_2, r3_2, c3_2, r4_2, c4_2]
    · repeat (first | exact hb2 | exact Below.refl _ _ | refine Below.alloc ?_ (by first | omega | (simp; try omega)) _ | refine below_setRow ?_ (by omega) _ | refine Below.drew ?_)
  · skip
    cases ha : algB q m g
    · skip
      have HR := Lib.hid (um_bad (p := p) (n := n) (q := q) (m := m) (f := f) (g := g) (by rw [ha]; first | rfl | (cases coB p n f <;> rfl)))
      go_enter Try.func45, Try.ntmps45
      go_wp2_with fail
      refine atomC fun W3 e3 => ?_
      have hb3 : Below w.heap.size w W3 := by rw [e3]; (repeat (first | exact Below.refl _ _ | refine Below.alloc ?_ (by first | omega | (simp; try omega)) _ | refine below_setRow ?_ (by omega) _ | refine Below.drew ?_))
      have q3 := hb3.size
      have R3 : IsRow W3 (w.heap.size) ∧ IsRow W3 (w.heap.size + 1) ∧ IsRow W3 (w.heap.size + 2) := by rw [e3]; simp [go_sem]
      obtain ⟨r2_3, r3_3, r4_3⟩ := R3
      have C3 := (⟨congrArg (blk · (w.heap.size)) e3, congrArg (blk · (w.heap.size + 1)) e3, congrArg (blk · (w.heap.size + 2)) e3⟩ : _ ∧ _ ∧ _); simp [go_sem] at C3
      obtain ⟨c2_3, c3_3, c4_3⟩ := C3
      have z2_3 := isRow_lt r2_3; have z3_3 := isRow_lt r3_3; have z4_3 := isRow_lt r4_3
      clear e3
      refine (isCo_any _ _ _ _ HF.out).mono ?_; rintro _ W4 ⟨rfl, hw4⟩
      obtain ⟨r2_4, c2_4⟩ := keepB hw4 z2_3 r2_3 c2_3
      have z2_4 := isRow_lt r2_4
      obtain ⟨r3_4, c3_4⟩ := keepB hw4 z3_3 r3_3 c3_3
      have z3_4 := isRow_lt r3_4
      obtain ⟨r4_4, c4_4⟩ := keepB hw4 z4_3 r4_3 c4_3
      have z4_4 := isRow_lt r4_4
      have hb4 := hb3.trans (hw4.mono hb3.size)
      have q4 := hb4.size
      clear hw4 r2_3 c2_3 z2_3 r3_3 c3_3 z3_3 r4_3 c4_3 z4_3 hb3
      go_wp2_with fail
      refine (isAlgebra_any _ _ _ _ HG.out).mono ?_; rintro _ W5 ⟨rfl, hw5⟩
      obtain ⟨r2_5, c2_5⟩ := keepB hw5 z2_4 r2_4 c2_4
      have z2_5 := isRow_lt r2_5
      obtain ⟨r3_5, c3_5⟩ := keepB hw5 z3_4 r3_4 c3_4
      have z3_5 := isRow_lt r3_5
      obtain ⟨r4_5, c4_5⟩ := keepB hw5 z4_4 r4_4 c4_4
      have z4_5 := isRow_lt r4_5
      have hb5 := hb4.trans (hw5.mono hb4.size)
      have q5 := hb5.size
      clear hw5 r2_4 c2_4 z2_4 r3_4 c3_4 z3_4 r4_4 c4_4 z4_4 hb4
      go_wp2_with fail
      refine bodyPost_ret (result_cell_tmp rfl aggLin _ _ (row 64 zf) _ _ rfl rfl ?_ ?_) rfl ⟨by rw [← HR.out.2, HR.out.1]; rfl, ?_⟩
      · simp [go_sem, r2_5, c2_5, r3_5, c3_5, r4_5, c4_5]
      · simp [go_sem, r2_5, c2_5, r3_5, c3_5, r4_5, c4_5]
      · repeat (first | exact hb5 | exact Below.refl _ _ | refine Below.alloc ?_ (by first | omega | (simp; try omega)) _ | refine below_setRow ?_ (by omega) _ | refine Below.drew ?_)
    · skip
      by_cases hq : p = q
      · skip
        subst hq
        have HR := Lib.hid (um_eq hc ha)
        obtain ⟨hp2, hp31, hn1, hn8⟩ := sizes_range (co_sizes hc)
        have hp : 0 < p := by omega
        have hp' : p ≤ 255 := by omega
        go_enter Try.func45, Try.ntmps45
        go_wp2_with fail
        refine atomC fun W6 e6 => ?_
        have hb6 : Below w.heap.size w W6 := by rw [e6]; (repeat (first | exact Below.refl _ _ | refine Below.alloc ?_ (by first | omega | (simp; try omega)) _ | refine below_setRow ?_ (by omega) _ | refine Below.drew ?_))
        have q6 := hb6.size
        have R6 : IsRow W6 (w.heap.size) ∧ IsRow W6 (w.heap.size + 1) ∧ IsRow W6 (w.heap.size + 2) := by rw [e6]; simp [go_sem]
        obtain ⟨r2_6, r3_6, r4_6⟩ := R6
        have C6 := (⟨congrArg (blk · (w.heap.size)) e6, congrArg (blk · (w.heap.size + 1)) e6, congrArg (blk · (w.heap.size + 2)) e6⟩ : _ ∧ _ ∧ _); simp [go_sem] at C6
        obtain ⟨c2_6, c3_6, c4_6⟩ := C6
        have z2_6 := isRow_lt r2_6; have z3_6 := isRow_lt r3_6; have z4_6 := isRow_lt r4_6
        clear e6
        refine (isCo_any _ _ _ _ HF.out).mono ?_; rintro _ W7 ⟨rfl, hw7⟩
        obtain ⟨r2_7, c2_7⟩ := keepB hw7 z2_6 r2_6 c2_6
        have z2_7 := isRow_lt r2_7
        obtain ⟨r3_7, c3_7⟩ := keepB hw7 z3_6 r3_6 c3_6
        have z3_7 := isRow_lt r3_7
        obtain ⟨r4_7, c4_7⟩ := keepB hw7 z4_6 r4_6 c4_6
        have z4_7 := isRow_lt r4_7
        have hb7 := hb6.trans (hw7.mono hb6.size)
        have q7 := hb7.size
        clear hw7 r2_6 c2_6 z2_6 r3_6 c3_6 z3_6 r4_6 c4_6 z4_6 hb6
        go_wp2_with fail
        refine (isAlgebra_any _ _ _ _ HG.out).mono ?_; rintro _ W8 ⟨rfl, hw8⟩
        obtain ⟨r2_8, c2_8⟩ := keepB hw8 z2_7 r2_7 c2_7
        have z2_8 := isRow_lt r2_8
        obtain ⟨r3_8, c3_8⟩ := keepB hw8 z3_7 r3_7 c3_7
        have z3_8 := isRow_lt r3_8
        obtain ⟨r4_8, c4_8⟩ := keepB hw8 z4_7 r4_7 c4_7
        have z4_8 := isRow_lt r4_8
        have hb8 := hb7.trans (hw8.mono hb7.size)
        have q8 := hb8.size
        clear hw8 r2_7 c2_7 z2_7 r3_7 c3_7 z3_7 r4_7 c4_7 z4_7 hb7
        go_wp2_with fail
        refine (unitMap_any _ _ _ _ _ _ _ hp hp' HF.out HG.out).mono ?_; rintro _ W9 ⟨rfl, hw9⟩
        obtain ⟨r4_9, c4_9⟩ := keepB hw9 z4_8 r4_8 c4_8
        have z4_9 := isRow_lt r4_9
        have hb9 := hb8.trans (hw9.mono hb8.size)
        have q9 := hb9.size
        clear hw9 r4_8 c4_8 z4_8 hb8
        go_wp2_with fail
        refine bodyPost_ret (result_cell_tmp rfl aggLin _ _ (row 64 (outF p f g 8)) _ _ rfl rfl ?_ ?_) rfl ⟨by rw [← HR.out.2, HR.out.1]; rfl, ?_⟩
        · simp [go_sem, r4_9, c4_9]
        · simp [go_sem, r4_9, c4_9]
        · repeat (first | exact hb9 | exact Below.refl _ _ | refine Below.alloc ?_ (by first | omega | (simp; try omega)) _ | refine below_setRow ?_ (by omega) _ | refine Below.drew ?_)
      · skip
        have HR := Lib.hid (um_ne hc ha hq)
        go_enter Try.func45, Try.ntmps45
        go_wp2_with fail
        refine atomC fun W10 e10 => ?_
        have hb10 : Below w.heap.size w W10 := by rw [e10]; (repeat (first | exact Below.refl _ _ | refine Below.alloc ?_ (by first | omega | (simp; try omega)) _ | refine below_setRow ?_ (by omega) _ | refine Below.drew ?_))
        have q10 := hb10.size
        have R10 : IsRow W10 (w.heap.size) ∧ IsRow W10 (w.heap.size + 1) ∧ IsRow W10 (w.heap.size + 2) := by rw [e10]; simp [go_sem]
        obtain ⟨r2_10, r3_10, r4_10⟩ := R10
        have C10 := (⟨congrArg (blk · (w.heap.size)) e10, congrArg (blk · (w.heap.size + 1)) e10, congrArg (blk · (w.heap.size + 2)) e10⟩ : _ ∧ _ ∧ _); simp [go_sem] at C10
        obtain ⟨c2_10, c3_10, c4_10⟩ := C10
        have z2_10 := isRow_lt r2_10; have z3_10 := isRow_lt r3_10; have z4_10 := isRow_lt r4_10
        clear e10
        refine (isCo_any _ _ _ _ HF.out).mono ?_; rintro _ W11 ⟨rfl, hw11⟩
        obtain ⟨r2_11, c2_11⟩ := keepB hw11 z2_10 r2_10 c2_10
        have z2_11 := isRow_lt r2_11
        obtain ⟨r3_11, c3_11⟩ := keepB hw11 z3_10 r3_10 c3_10
        have z3_11 := isRow_lt r3_11
        obtain ⟨r4_11, c4_11⟩ := keepB hw11 z4_10 r4_10 c4_10
        have z4_11 := isRow_lt r4_11
        have hb11 := hb10.trans (hw11.mono hb10.size)
        have q11 := hb11.size
        clear hw11 r2_10 c2_10 z2_10 r3_10 c3_10 z3_10 r4_10 c4_10 z4_10 hb10
        go_wp2_with fail
        refine (isAlgebra_any _ _ _ _ HG.out).mono ?_; rintro _ W12 ⟨rfl, hw12⟩
        obtain ⟨r2_12, c2_12⟩ := keepB hw12 z2_11 r2_11 c2_11
        have z2_12 := isRow_lt r2_12
        obtain ⟨r3_12, c3_12⟩ := keepB hw12 z3_11 r3_11 c3_11
        have z3_12 := isRow_lt r3_12
        obtain ⟨r4_12, c4_12⟩ := keepB hw12 z4_11 r4_11 c4_11
        have z4_12 := isRow_lt r4_12
        have hb12 := hb11.trans (hw12.mono hb11.size)
        have q12 := hb12.size
        clear hw12 r2_11 c2_11 z2_11 r3_11 c3_11 z3_11 r4_11 c4_11 z4_11 hb11
        go_wp2_with fail
        refine bodyPost_ret (result_cell_tmp rfl aggLin _ _ (row 64 zf) _ _ rfl rfl ?_ ?_) rfl ⟨by rw [← HR.out.2, HR.out.1]; rfl, ?_⟩
        · simp [go_sem, r2_12, c2_12, r3_12, c3_12, r4_12, c4_12]
        · simp [go_sem, r2_12, c2_12, r3_12, c3_12, r4_12, c4_12]
        · repeat (first | exact hb12 | exact Below.refl _ _ | refine Below.alloc ?_ (by first | omega | (simp; try omega)) _ | refine below_setRow ?_ (by omega) _ | refine Below.drew ?_)

set_option maxRecDepth 100000 in
set_option maxHeartbeats 1000000 in
theorem l02MapsNil_any (p n q m : Int) (f g : Nat → Int) (w : World) (hF : Bytes 520 f) (hG : Bytes 520 g) :
    Calls Try.prog 93 #[.agg (alg p n f), .agg (alg q m g), .slice none 0 0] w fun e w' => e = .returned (.int .i64 (umCode p n q m f g)) ∧ Below w.heap.size w w' := by
  have HF := Lib.hid hF; clear hF
  have HG := Lib.hid hG; clear hG
  cases hc : coB p n f
  · skip
    have HR := Lib.hid (um_bad (p := p) (n := n) (q := q) (m := m) (f := f) (g := g) (by rw [hc]; first | rfl | (cases coB p n f <;> rfl)))
    go_enter Try.func93, Try.ntmps93
    go_wp2_with fail
    refine atomC fun W1 e1 => ?_
    have hb1 : Below w.heap.size w W1 := by rw [e1]; (repeat (first | exact Below.refl _ _ | refine Below.alloc ?_ (by first | omega | (simp; try omega)) _ | refine below_setRow ?_ (by omega) _ | refine Below.drew ?_))
    have q1 := hb1.size
    have R1 : IsRow W1 (w.heap.size) ∧ IsRow W1 (w.heap.size + 1) := by rw [e1]; simp [go_sem]
    obtain ⟨r3_1, r4_1⟩ := R1
    have C1 := (⟨congrArg (blk · (w.heap.size)) e1, congrArg (blk · (w.heap.size + 1)) e1⟩ : _ ∧ _); simp [go_sem] at C1
    obtain ⟨c3_1, c4_1⟩ := C1
    have z3_1 := isRow_lt r3_1; have z4_1 := isRow_lt r4_1
    clear e1
    refine (l02Is_any _ _ _ _ HF.out).mono ?_; rintro _ W2 ⟨rfl, hw2⟩
    obtain ⟨r3_2, c3_2⟩ := keepB hw2 z3_1 r3_1 c3_1
    have z3_2 := isRow_lt r3_2
    obtain ⟨r4_2, c4_2⟩ := keepB hw2 z4_1 r4_1 c4_1
    have z4_2 := isRow_lt r4_2
    have hb2 := hb1.trans (hw2.mono hb1.size)
    have q2 := hb2.size
    clear hw2 r3_1 c3_1 z3_1 r4_1 c4_1 z4_1 hb1
    go_wp2_with fail
    go_ret
    exact ⟨ret_int HR.out.1.symm, (by (repeat (first | exact hb2 | exact Below.refl _ _ | refine Below.alloc ?_ (by first | omega | (simp; try omega)) _ | refine below_setRow ?_ (by omega) _ | refine Below.drew ?_)))⟩
  · skip
    cases ha : algB q m g
    · skip
      have HR := Lib.hid (um_bad (p := p) (n := n) (q := q) (m := m) (f := f) (g := g) (by rw [ha]; first | rfl | (cases coB p n f <;> rfl)))
      go_enter Try.func93, Try.ntmps93
      go_wp2_with fail
      refine atomC fun W3 e3 => ?_
      have hb3 : Below w.heap.size w W3 := by rw [e3]; (repeat (first | exact Below.refl _ _ | refine Below.alloc ?_ (by first | omega | (simp; try omega)) _ | refine below_setRow ?_ (by omega) _ | refine Below.drew ?_))
      have q3 := hb3.size
      have R3 : IsRow W3 (w.heap.size) ∧ IsRow W3 (w.heap.size + 1) := by rw [e3]; simp [go_sem]
      obtain ⟨r3_3, r4_3⟩ := R3
      have C3 := (⟨congrArg (blk · (w.heap.size)) e3, congrArg (blk · (w.heap.size + 1)) e3⟩ : _ ∧ _); simp [go_sem] at C3
      obtain ⟨c3_3, c4_3⟩ := C3
      have z3_3 := isRow_lt r3_3; have z4_3 := isRow_lt r4_3
      clear e3
      refine (l02Is_any _ _ _ _ HF.out).mono ?_; rintro _ W4 ⟨rfl, hw4⟩
      obtain ⟨r3_4, c3_4⟩ := keepB hw4 z3_3 r3_3 c3_3
      have z3_4 := isRow_lt r3_4
      obtain ⟨r4_4, c4_4⟩ := keepB hw4 z4_3 r4_3 c4_3
      have z4_4 := isRow_lt r4_4
      have hb4 := hb3.trans (hw4.mono hb3.size)
      have q4 := hb4.size
      clear hw4 r3_3 c3_3 z3_3 r4_3 c4_3 z4_3 hb3
      go_wp2_with fail
      refine (l01Is_any _ _ _ _ HG.out).mono ?_; rintro _ W5 ⟨rfl, hw5⟩
      obtain ⟨r3_5, c3_5⟩ := keepB hw5 z3_4 r3_4 c3_4
      have z3_5 := isRow_lt r3_5
      obtain ⟨r4_5, c4_5⟩ := keepB hw5 z4_4 r4_4 c4_4
      have z4_5 := isRow_lt r4_5
      have hb5 := hb4.trans (hw5.mono hb4.size)
      have q5 := hb5.size
      clear hw5 r3_4 c3_4 z3_4 r4_4 c4_4 z4_4 hb4
      go_wp2_with fail
      go_ret
      exact ⟨ret_int HR.out.1.symm, (by (repeat (first | exact hb5 | exact Below.refl _ _ | refine Below.alloc ?_ (by first | omega | (simp; try omega)) _ | refine below_setRow ?_ (by omega) _ | refine Below.drew ?_)))⟩
    · skip
      by_cases hq : p = q
      · skip
        subst hq
        have HR := Lib.hid (um_eq hc ha)
        go_enter Try.func93, Try.ntmps93
        go_wp2_with fail
        refine atomC fun W6 e6 => ?_
        have hb6 : Below w.heap.size w W6 := by rw [e6]; (repeat (first | exact Below.refl _ _ | refine Below.alloc ?_ (by first | omega | (simp; try omega)) _ | refine below_setRow ?_ (by omega) _ | refine Below.drew ?_))
        have q6 := hb6.size
        have R6 : IsRow W6 (w.heap.size) ∧ IsRow W6 (w.heap.size + 1) := by rw [e6]; simp [go_sem]
        obtain ⟨r3_6, r4_6⟩ := R6
        have C6 := (⟨congrArg (blk · (w.heap.size)) e6, congrArg (blk · (w.heap.size + 1)) e6⟩ : _ ∧ _); simp [go_sem] at C6
        obtain ⟨c3_6, c4_6⟩ := C6
        have z3_6 := isRow_lt r3_6; have z4_6 := isRow_lt r4_6
        clear e6
        refine (l02Is_any _ _ _ _ HF.out).mono ?_; rintro _ W7 ⟨rfl, hw7⟩
        obtain ⟨r3_7, c3_7⟩ := keepB hw7 z3_6 r3_6 c3_6
        have z3_7 := isRow_lt r3_7
        obtain ⟨r4_7, c4_7⟩ := keepB hw7 z4_6 r4_6 c4_6
        have z4_7 := isRow_lt r4_7
        have hb7 := hb6.trans (hw7.mono hb6.size)
        have q7 := hb7.size
        clear hw7 r3_6 c3_6 z3_6 r4_6 c4_6 z4_6 hb6
        go_wp2_with fail
        refine (l01Is_any _ _ _ _ HG.out).mono ?_; rintro _ W8 ⟨rfl, hw8⟩
        obtain ⟨r3_8, c3_8⟩ := keepB hw8 z3_7 r3_7 c3_7
        have z3_8 := isRow_lt r3_8
        obtain ⟨r4_8, c4_8⟩ := keepB hw8 z4_7 r4_7 c4_7
        have z4_8 := isRow_lt r4_8
        have hb8 := hb7.trans (hw8.mono hb7.size)
        have q8 := hb8.size
        clear hw8 r3_7 c3_7 z3_7 r4_7 c4_7 z4_7 hb7
        go_wp2
        go_loopw [7] (fun s7 wr => ∃ i : Nat, i ≤ 0 ∧ s7 = .int .i64 i ∧ Below w.heap.size w wr ∧ (IsRow wr (w.heap.size) ∧ blk wr (w.heap.size) = blk W8 (w.heap.size)) ∧ (IsRow wr (w.heap.size + 1) ∧ blk wr (w.heap.size + 1) = blk W8 (w.heap.size + 1))) (fun s7 _ => 0 - (intOf s7).toNat)
        case atStart => exact ⟨0, by omega, rfl, hb8, ⟨r3_8, rfl⟩, ⟨r4_8, rfl⟩⟩
        case round =>
          obtain ⟨i, hle9, rfl, hb9, ⟨r3_9, c3_9⟩, ⟨r4_9, c4_9⟩⟩ := hrel
          obtain ⟨W9, rfl⟩ : ∃ W9 : World, W9 = wr := ⟨_, rfl⟩
          have q9 := hb9.size
          have E3_9 := Lib.hid c3_8; replace c3_9 := c3_9.trans c3_8
          have z3_9 := isRow_lt r3_9
          have E4_9 := Lib.hid c4_8; replace c4_9 := c4_9.trans c4_8
          have z4_9 := isRow_lt r4_9
          clear r3_8 c3_8 z3_8 r4_8 c4_8 z4_8 hb8
          by_cases hlt9 : i < 0
          · skip
            have i0_9 : (0 : Int) ≤ (i : Int) := by omega
            have i8_9 : (i : Int) < 8 := by omega
            have k8_9 : i < 8 := by omega
            have m8_9 : i * 8 + 8 ≤ 64 := by omega
            have m64_9 : i * 64 + 64 ≤ 512 := by omega
            have l1_9 : 10 + i * 64 + 64 ≤ 522 := by omega
            omega
          · skip
            obtain rfl : i = 0 := by omega
            go_wp2_with fail
            go_ret
            exact ⟨ret_int HR.out.1.symm, (by (repeat (first | exact hb9 | exact Below.refl _ _ | refine Below.alloc ?_ (by first | omega | (simp; try omega)) _ | refine below_setRow ?_ (by omega) _ | refine Below.drew ?_)))⟩
      · skip
        have HR := Lib.hid (um_ne hc ha hq)
        go_enter Try.func93, Try.ntmps93
        go_wp2_with fail
        refine atomC fun W10 e10 => ?_
        have hb10 : Below w.heap.size w W10 := by rw [e10]; (repeat (first | exact Below.refl _ _ | refine Below.alloc ?_ (by first | omega | (simp; try omega)) _ | refine below_setRow ?_ (by omega) _ | refine Below.drew ?_))
        have q10 := hb10.size
        have R10 : IsRow W10 (w.heap.size) ∧ IsRow W10 (w.heap.size + 1) := by rw [e10]; simp [go_sem]
        obtain ⟨r3_10, r4_10⟩ := R10
        have C10 := (⟨congrArg (blk · (w.heap.size)) e10, congrArg (blk · (w.heap.size + 1)) e10⟩ : _ ∧ _); simp [go_sem] at C10
        obtain ⟨c3_10, c4_10⟩ := C10
        have z3_10 := isRow_lt r3_10; have z4_10 := isRow_lt r4_10
        clear e10
        refine (l02Is_any _ _ _ _ HF.out).mono ?_; rintro _ W11 ⟨rfl, hw11⟩
        obtain ⟨r3_11, c3_11⟩ := keepB hw11 z3_10 r3_10 c3_10
        have z3_11 := isRow_lt r3_11
        obtain ⟨r4_11, c4_11⟩ := keepB hw11 z4_10 r4_10 c4_10
        have z4_11 := isRow_lt r4_11
        have hb11 := hb10.trans (hw11.mono hb10.size)
        have q11 := hb11.size
        clear hw11 r3_10 c3_10 z3_10 r4_10 c4_10 z4_10 hb10
        go_wp2_with fail
        refine (l01Is_any _ _ _ _ HG.out).mono ?_; rintro _ W12 ⟨rfl, hw12⟩
        obtain ⟨r3_12, c3_12⟩ := keepB hw12 z3_11 r3_11 c3_11
        have z3_12 := isRow_lt r3_12
        obtain ⟨r4_12, c4_12⟩ := keepB hw12 z4_11 r4_11 c4_11
        have z4_12 := isRow_lt r4_12
        have hb12 := hb11.trans (hw12.mono hb11.size)
        have q12 := hb12.size
        clear hw12 r3_11 c3_11 z3_11 r4_11 c4_11 z4_11 hb11
        go_wp2
        go_loopw [7] (fun s7 wr => ∃ i : Nat, i ≤ 0 ∧ s7 = .int .i64 i ∧ Below w.heap.size w wr ∧ (IsRow wr (w.heap.size) ∧ blk wr (w.heap.size) = blk W12 (w.heap.size)) ∧ (IsRow wr (w.heap.size + 1) ∧ blk wr (w.heap.size + 1) = blk W12 (w.heap.size + 1))) (fun s7 _ => 0 - (intOf s7).toNat)
        case atStart => exact ⟨0, by omega, rfl, hb12, ⟨r3_12, rfl⟩, ⟨r4_12, rfl⟩⟩
        case round =>
          obtain ⟨i, hle13, rfl, hb13, ⟨r3_13, c3_13⟩, ⟨r4_13, c4_13⟩⟩ := hrel
          obtain ⟨W13, rfl⟩ : ∃ W13 : World, W13 = wr := ⟨_, rfl⟩
          have q13 := hb13.size
          have E3_13 := Lib.hid c3_12; replace c3_13 := c3_13.trans c3_12
          have z3_13 := isRow_lt r3_13
          have E4_13 := Lib.hid c4_12; replace c4_13 := c4_13.trans c4_12
          have z4_13 := isRow_lt r4_13
          clear r3_12 c3_12 z3_12 r4_12 c4_12 z4_12 hb12
          by_cases hlt13 : i < 0
          · skip
            have i0_13 : (0 : Int) ≤ (i : Int) := by omega
            have i8_13 : (i : Int) < 8 := by omega
            have k8_13 : i < 8 := by omega
            have m8_13 : i * 8 + 8 ≤ 64 := by omega
            have m64_13 : i * 64 + 64 ≤ 512 := by omega
            have l1_13 : 10 + i * 64 + 64 ≤ 522 := by omega
            omega
          · skip
            obtain rfl : i = 0 := by omega
            go_wp2_with fail
            go_ret
            exact ⟨ret_int HR.out.1.symm, (by (repeat (first | exact hb13 | exact Below.refl _ _ | refine Below.alloc ?_ (by first | omega | (simp; try omega)) _ | refine below_setRow ?_ (by omega) _ | refine Below.drew ?_)))⟩

set_option maxRecDepth 100000 in
set_option maxHeartbeats 1000000 in
theorem specUnitMap_any (p n q m : Int) (f g : Nat → Int) (w : World) (hF : Bytes 520 f) (hG : Bytes 520 g) :
    Calls Try.prog 44 #[.agg (alg p n f), .agg (alg q m g)] w fun e w' => e = .returned (.tuple #[.agg (row 64 (umF p n q m f g)), .int .i64 (umCode p n q m f g)]) ∧ Below w.heap.size w w' := by
  have HF := Lib.hid hF; clear hF
  have HG := Lib.hid hG; clear hG
  have HZ : Hid (Bytes 8 zf) := Lib.hid fun t _ => by unfold zf; omega
  cases hc : coB p n f
  · skip
    have HR := Lib.hid (um_bad (p := p) (n := n) (q := q) (m := m) (f := f) (g := g) (by rw [hc]; first | rfl | (cases coB p n f <;> rfl)))
    have hu := HR.out.1
    go_enter Try.func44, Try.ntmps44
    go_wp2_with fail
    refine atomC fun W1 e1 => ?_
    have hb1 : Below w.heap.size w W1 := by rw [e1]; (repeat (first | exact Below.refl _ _ | refine Below.alloc ?_ (by first | omega | (simp; try omega)) _ | refine below_setRow ?_ (by omega) _ | refine Below.drew ?_))
    have q1 := hb1.size
    have R1 : IsRow W1 (w.heap.size) ∧ IsRow W1 (w.heap.size + 1) ∧ IsRow W1 (w.heap.size + 2) := by rw [e1]; simp [go_sem]
    obtain ⟨r2_1, r3_1, r4_1⟩ := R1
    have C1 := (⟨congrArg (blk · (w.heap.size)) e1, congrArg (blk · (w.heap.size + 1)) e1, congrArg (blk · (w.heap.size + 2)) e1⟩ : _ ∧ _ ∧ _); simp [go_sem] at C1
    obtain ⟨c2_1, c3_1, c4_1⟩ := C1
    have z2_1 := isRow_lt r2_1; have z3_1 := isRow_lt r3_1; have z4_1 := isRow_lt r4_1
    clear e1
    refine (l02MapsNil_any _ _ _ _ _ _ _ HF.out HG.out).mono ?_; rintro _ W2 ⟨rfl, hw2⟩
    obtain ⟨r2_2, c2_2⟩ := keepB hw2 z2_1 r2_1 c2_1
    have z2_2 := isRow_lt r2_2
    obtain ⟨r3_2, c3_2⟩ := keepB hw2 z3_1 r3_1 c3_1
    have z3_2 := isRow_lt r3_2
    obtain ⟨r4_2, c4_2⟩ := keepB hw2 z4_1 r4_1 c4_1
    have z4_2 := isRow_lt r4_2
    have hb2 := hb1.trans (hw2.mono hb1.size)
    have q2 := hb2.size
    clear hw2 r2_1 c2_1 z2_1 r3_1 c3_1 z3_1 r4_1 c4_1 z4_1 hb1
    go_wp2_with fail
    refine bodyPost_ret (result_cell_tmp rfl aggLin _ _ (row 64 zf) _ _ rfl rfl ?_ ?_) rfl ⟨by rw [← HR.out.2, HR.out.1]; rfl, ?_⟩
    · simp [go_sem, r2_2, c2_2, r3_2, c3_2, r4_2, c4_2]
    · simp [go_sem, r2_2, c2_2, r3_2, c3_2, r4_2, c4_2]
    · repeat (first | exact hb2 | exact Below.refl _ _ | refine Below.alloc ?_ (by first | omega | (simp; try omega)) _ | refine below_setRow ?_ (by omega) _ | refine Below.drew ?_)
  · skip
    cases ha : algB q m g
    · skip
      have HR := Lib.hid (um_bad (p := p) (n := n) (q := q) (m := m) (f := f) (g := g) (by rw [ha]; first | rfl | (cases coB p n f <;> rfl)))
      have hu := HR.out.1
      go_enter Try.func44, Try.ntmps44
      go_wp2_with fail
      refine atomC fun W3 e3 => ?_
      have hb3 : Below w.heap.size w W3 := by rw [e3]; (repeat (first | exact Below.refl _ _ | refine Below.alloc ?_ (by first | omega | (simp; try omega)) _ | refine below_setRow ?_ (by omega) _ | refine Below.drew ?_))
      have q3 := hb3.size
      have R3 : IsRow W3 (w.heap.size) ∧ IsRow W3 (w.heap.size + 1) ∧ IsRow W3 (w.heap.size + 2) := by rw [e3]; simp [go_sem]
      obtain ⟨r2_3, r3_3, r4_3⟩ := R3
      have C3 := (⟨congrArg (blk · (w.heap.size)) e3, congrArg (blk · (w.heap.size + 1)) e3, congrArg (blk · (w.heap.size + 2)) e3⟩ : _ ∧ _ ∧ _); simp [go_sem] at C3
      obtain ⟨c2_3, c3_3, c4_3⟩ := C3
      have z2_3 := isRow_lt r2_3; have z3_3 := isRow_lt r3_3; have z4_3 := isRow_lt r4_3
      clear e3
      refine (l02MapsNil_any _ _ _ _ _ _ _ HF.out HG.out).mono ?_; rintro _ W4 ⟨rfl, hw4⟩
      obtain ⟨r2_4, c2_4⟩ := keepB hw4 z2_3 r2_3 c2_3
      have z2_4 := isRow_lt r2_4
      obtain ⟨r3_4, c3_4⟩ := keepB hw4 z3_3 r3_3 c3_3
      have z3_4 := isRow_lt r3_4
      obtain ⟨r4_4, c4_4⟩ := keepB hw4 z4_3 r4_3 c4_3
      have z4_4 := isRow_lt r4_4
      have hb4 := hb3.trans (hw4.mono hb3.size)
      have q4 := hb4.size
      clear hw4 r2_3 c2_3 z2_3 r3_3 c3_3 z3_3 r4_3 c4_3 z4_3 hb3
      go_wp2_with fail
      refine bodyPost_ret (result_cell_tmp rfl aggLin _ _ (row 64 zf) _ _ rfl rfl ?_ ?_) rfl ⟨by rw [← HR.out.2, HR.out.1]; rfl, ?_⟩
      · simp [go_sem, r2_4, c2_4, r3_4, c3_4, r4_4, c4_4]
      · simp [go_sem, r2_4, c2_4, r3_4, c3_4, r4_4, c4_4]
      · repeat (first | exact hb4 | exact Below.refl _ _ | refine Below.alloc ?_ (by first | omega | (simp; try omega)) _ | refine below_setRow ?_ (by omega) _ | refine Below.drew ?_)
    · skip
      by_cases hq : p = q
      · skip
        subst hq
        obtain ⟨hp2, hp31, hn1, hn8⟩ := sizes_range (co_sizes hc)
        have hp : 0 < p := by omega
        have hp' : p ≤ 255 := by omega
        obtain ⟨n, rfl⟩ := Int.eq_ofNat_of_zero_le (show 0 ≤ n by omega)
        have hn : n ≤ 8 := by omega
        have HR := Lib.hid (um_eq hc ha)
        have hu := HR.out.1
        have HE := Lib.hid (out_short (g := g) (co_shape hc) rfl)
        go_enter Try.func44, Try.ntmps44
        go_wp2_with fail
        refine atomC fun W5 e5 => ?_
        have hb5 : Below w.heap.size w W5 := by rw [e5]; (repeat (first | exact Below.refl _ _ | refine Below.alloc ?_ (by first | omega | (simp; try omega)) _ | refine below_setRow ?_ (by omega) _ | refine Below.drew ?_))
        have q5 := hb5.size
        have R5 : IsRow W5 (w.heap.size) ∧ IsRow W5 (w.heap.size + 1) ∧ IsRow W5 (w.heap.size + 2) := by rw [e5]; simp [go_sem]
        obtain ⟨r2_5, r3_5, r4_5⟩ := R5
        have C5 := (⟨congrArg (blk · (w.heap.size)) e5, congrArg (blk · (w.heap.size + 1)) e5, congrArg (blk · (w.heap.size + 2)) e5⟩ : _ ∧ _ ∧ _); simp [go_sem] at C5
        obtain ⟨c2_5, c3_5, c4_5⟩ := C5
        have z2_5 := isRow_lt r2_5; have z3_5 := isRow_lt r3_5; have z4_5 := isRow_lt r4_5
        clear e5
        refine (l02MapsNil_any _ _ _ _ _ _ _ HF.out HG.out).mono ?_; rintro _ W6 ⟨rfl, hw6⟩
        obtain ⟨r2_6, c2_6⟩ := keepB hw6 z2_5 r2_5 c2_5
        have z2_6 := isRow_lt r2_6
        obtain ⟨r3_6, c3_6⟩ := keepB hw6 z3_5 r3_5 c3_5
        have z3_6 := isRow_lt r3_6
        obtain ⟨r4_6, c4_6⟩ := keepB hw6 z4_5 r4_5 c4_5
        have z4_6 := isRow_lt r4_6
        have hb6 := hb5.trans (hw6.mono hb5.size)
        have q6 := hb6.size
        clear hw6 r2_5 c2_5 z2_5 r3_5 c3_5 z3_5 r4_5 c4_5 z4_5 hb5
        go_wp2
        have nw2_W6_0 : (w.heap.size) ≠ W6.heap.size := by omega
        have nw3_W6_0 : (w.heap.size + 1) ≠ W6.heap.size := by omega
        have nw4_W6_0 : (w.heap.size + 2) ≠ W6.heap.size := by omega
        refine atomW fun W7 e7 => ?_
        have hb7 : Below w.heap.size w W7 := by rw [e7]; (repeat (first | exact hb6 | exact Below.refl _ _ | refine Below.alloc ?_ (by first | omega | (simp; try omega)) _ | refine below_setRow ?_ (by omega) _ | refine Below.drew ?_))
        have q7 := hb7.size
        have R7 : IsRow W7 (w.heap.size) ∧ IsRow W7 (w.heap.size + 1) ∧ IsRow W7 (w.heap.size + 2) ∧ IsRow W7 (W6.heap.size) := by rw [e7]; simp [go_sem, r2_6, c2_6, r3_6, c3_6, r4_6, c4_6, nw2_W6_0, nw3_W6_0, nw4_W6_0]
        obtain ⟨r2_7, r3_7, r4_7, r7_7⟩ := R7
        have C7 := (⟨congrArg (blk · (w.heap.size)) e7, congrArg (blk · (w.heap.size + 1)) e7, congrArg (blk · (w.heap.size + 2)) e7, congrArg (blk · (W6.heap.size)) e7⟩ : _ ∧ _ ∧ _ ∧ _); simp [go_sem, r2_6, c2_6, r3_6, c3_6, r4_6, c4_6, nw2_W6_0, nw3_W6_0, nw4_W6_0] at C7
        obtain ⟨c2_7, c3_7, c4_7, c7_7⟩ := C7
        have z2_7 := isRow_lt r2_7; have z3_7 := isRow_lt r3_7; have z4_7 := isRow_lt r4_7; have z7_7 := isRow_lt r7_7
        have n2_7 : (w.heap.size) ≠ (W6.heap.size) := by omega
        have n3_7 : (w.heap.size + 1) ≠ (W6.heap.size) := by omega
        have n4_7 : (w.heap.size + 2) ≠ (W6.heap.size) := by omega
        have n7_2 : (W6.heap.size) ≠ (w.heap.size) := by omega
        have n7_3 : (W6.heap.size) ≠ (w.heap.size + 1) := by omega
        have n7_4 : (W6.heap.size) ≠ (w.heap.size + 2) := by omega
        clear e7 nw2_W6_0 nw3_W6_0 nw4_W6_0 r2_6 c2_6 z2_6 r3_6 c3_6 z3_6 r4_6 c4_6 z4_6 hb6
        go_loopw [8] (fun s8 wr => ∃ i : Nat, i ≤ n ∧ s8 = .int .i64 i ∧ Below w.heap.size w wr ∧ (IsRow wr (w.heap.size) ∧ blk wr (w.heap.size) = blk W7 (w.heap.size)) ∧ (IsRow wr (w.heap.size + 1) ∧ blk wr (w.heap.size + 1) = blk W7 (w.heap.size + 1)) ∧ (IsRow wr (w.heap.size + 2) ∧ blk wr (w.heap.size + 2) = blk W7 (w.heap.size + 2)) ∧ (IsRow wr (W6.heap.size) ∧ blk wr (W6.heap.size) = row 64 (outF p f g i))) (fun s8 _ => n - (intOf s8).toNat)
        case atStart => exact ⟨0, by omega, rfl, hb7, ⟨r2_7, rfl⟩, ⟨r3_7, rfl⟩, ⟨r4_7, rfl⟩, ⟨r7_7, c7_7.trans (otr_zero p f g)⟩⟩
        case round =>
          obtain ⟨i, hle8, rfl, hb8, ⟨r2_8, c2_8⟩, ⟨r3_8, c3_8⟩, ⟨r4_8, c4_8⟩, ⟨r7_8, c7_8⟩⟩ := hrel
          obtain ⟨W8, rfl⟩ : ∃ W8 : World, W8 = wr := ⟨_, rfl⟩
          have q8 := hb8.size
          have E2_8 := Lib.hid c2_7; replace c2_8 := c2_8.trans c2_7
          have z2_8 := isRow_lt r2_8
          have E3_8 := Lib.hid c3_7; replace c3_8 := c3_8.trans c3_7
          have z3_8 := isRow_lt r3_8
          have E4_8 := Lib.hid c4_7; replace c4_8 := c4_8.trans c4_7
          have z4_8 := isRow_lt r4_8
          have z7_8 := isRow_lt r7_8
          clear r2_7 c2_7 z2_7 r3_7 c3_7 z3_7 r4_7 c4_7 z4_7 r7_7 c7_7 z7_7 hb7
          by_cases hlt8 : i < n
          · skip
            have i0_8 : (0 : Int) ≤ (i : Int) := by omega
            have i8_8 : (i : Int) < 8 := by omega
            have k8_8 : i < 8 := by omega
            have m8_8 : i * 8 + 8 ≤ 64 := by omega
            have m64_8 : i * 64 + 64 ≤ 512 := by omega
            have l1_8 : 10 + i * 64 + 64 ≤ 522 := by omega
            have e9 := alg_cuq p n f i (by omega); have b1 := (HF.out i (by omega)).1; have b2 := (HF.out i (by omega)).2
            have q1 : IntKind.i64.wrap (f i) = f i := IntWalk.i64_in _ (by omega)
            go_wp2
            refine wp_quiet_tail 13 (Below W8.heap.size W8) (by kernel_rfl) (by kernel_rfl) (Below.refl _ _).drew ?_
            simp only [List.take_succ_cons, List.take_zero, List.drop_succ_cons, List.drop_zero]
            iterate 11 (refine q_plain rfl ?_; apply Exists.intro; refine ⟨fun W hW => ?_, ?_⟩; (focus (obtain ⟨x2, y2⟩ := keepB hW z2_8 r2_8 c2_8; obtain ⟨x3, y3⟩ := keepB hW z3_8 r3_8 c3_8; obtain ⟨x4, y4⟩ := keepB hW z4_8 r4_8 c4_8; obtain ⟨x7, y7⟩ := keepB hW z7_8 r7_8 c7_8; go_simp; first | done | rfl)); simp only [Act.put, List.setIfInBounds_toArray, List.set_cons_zero, List.set_cons_succ])
            (refine q_plain rfl ?_; apply Exists.intro; refine ⟨fun W hW => ?_, ?_⟩; (focus (obtain ⟨x2, y2⟩ := keepB hW z2_8 r2_8 c2_8; obtain ⟨x3, y3⟩ := keepB hW z3_8 r3_8 c3_8; obtain ⟨x4, y4⟩ := keepB hW z4_8 r4_8 c4_8; obtain ⟨x7, y7⟩ := keepB hW z7_8 r7_8 c7_8; go_simp; (go_at_call 94; exact (l01Add_any _ _ _ _ _ hp hp' (by omega) (by omega) HZ.out (unit_bytes HG.out)).mono fun e w2 ⟨he, hw2⟩ => ⟨he, hW.trans (hw2.mono hW.size)⟩))); simp only [Act.put, List.setIfInBounds_toArray, List.set_cons_zero, List.set_cons_succ])
            iterate 1 (refine q_plain rfl ?_; apply Exists.intro; refine ⟨fun W hW => ?_, ?_⟩; (focus (obtain ⟨x2, y2⟩ := keepB hW z2_8 r2_8 c2_8; obtain ⟨x3, y3⟩ := keepB hW z3_8 r3_8 c3_8; obtain ⟨x4, y4⟩ := keepB hW z4_8 r4_8 c4_8; obtain ⟨x7, y7⟩ := keepB hW z7_8 r7_8 c7_8; go_simp; first | done | rfl)); simp only [Act.put, List.setIfInBounds_toArray, List.set_cons_zero, List.set_cons_succ])
            refine wpQuiet_nil ?_
            intro W9 hw9
            obtain ⟨r2_9, c2_9⟩ := keepB hw9 z2_8 r2_8 c2_8
            have z2_9 := isRow_lt r2_9
            obtain ⟨r3_9, c3_9⟩ := keepB hw9 z3_8 r3_8 c3_8
            have z3_9 := isRow_lt r3_9
            obtain ⟨r4_9, c4_9⟩ := keepB hw9 z4_8 r4_8 c4_8
            have z4_9 := isRow_lt r4_9
            obtain ⟨r7_9, c7_9⟩ := keepB hw9 z7_8 r7_8 c7_8
            have z7_9 := isRow_lt r7_9
            have hb9 := hb8.trans (hw9.mono hb8.size)
            have q9 := hb9.size
            clear hw9 r2_8 c2_8 z2_8 r3_8 c3_8 z3_8 r4_8 c4_8 z4_8 r7_8 c7_8 z7_8 hb8
            go_wp2
            go_roundw
            case rel => exact ⟨i + 1, by omega, by go_num, (by (repeat (first | exact hb9 | exact Below.refl _ _ | refine Below.alloc ?_ (by first | omega | (simp; try omega)) _ | refine below_setRow ?_ (by omega) _ | refine Below.drew ?_))), ⟨by simp [go_sem, r2_9, c2_9, n2_7, r3_9, c3_9, n3_7, r4_9, c4_9, n4_7, r7_9, c7_9, n7_2, n7_3, n7_4], (by rw [E2_8.out]; first | exact c2_9 | (simp [go_sem, r2_9, c2_9, n2_7, r3_9, c3_9, n3_7, r4_9, c4_9, n4_7, r7_9, c7_9, n7_2, n7_3, n7_4]; done))⟩, ⟨by simp [go_sem, r2_9, c2_9, n2_7, r3_9, c3_9, n3_7, r4_9, c4_9, n4_7, r7_9, c7_9, n7_2, n7_3, n7_4], (by rw [E3_8.out]; first | exact c3_9 | (simp [go_sem, r2_9, c2_9, n2_7, r3_9, c3_9, n3_7, r4_9, c4_9, n4_7, r7_9, c7_9, n7_2, n7_3, n7_4]; done))⟩, ⟨by simp [go_sem, r2_9, c2_9, n2_7, r3_9, c3_9, n3_7, r4_9, c4_9, n4_7, r7_9, c7_9, n7_2, n7_3, n7_4], (by rw [E4_8.out]; first | exact c4_9 | (simp [go_sem, r2_9, c2_9, n2_7, r3_9, c3_9, n3_7, r4_9, c4_9, n4_7, r7_9, c7_9, n7_2, n7_3, n7_4]; done))⟩, ⟨by simp [go_sem, r2_9, c2_9, n2_7, r3_9, c3_9, n3_7, r4_9, c4_9, n4_7, r7_9, c7_9, n7_2, n7_3, n7_4], (by first | (rw [blk_setRow _ _ _ _ r7_9, if_pos rfl]; exact out_stepL p f g i (by omega)) | exact (c7_9).trans (out_stepL p f g i (by omega)) | (simp [go_sem, r2_9, c2_9, n2_7, r3_9, c3_9, n3_7, r4_9, c4_9, n4_7, r7_9, c7_9, n7_2, n7_3, n7_4]; exact out_stepL p f g i (by omega)))⟩⟩
            case measure => simp [intOf]; try omega
          · skip
            obtain rfl : n = i := by omega
            go_wp2_with fail
            refine bodyPost_ret (result_cell_tmp rfl aggLin _ _ (row 64 (outF p f g n)) _ _ rfl rfl ?_ ?_) rfl ⟨by rw [← HR.out.2, HR.out.1, HE.out]; rfl, ?_⟩
            · simp [go_sem, r2_8, c2_8, n2_7, r3_8, c3_8, n3_7, r4_8, c4_8, n4_7, r7_8, c7_8, n7_2, n7_3, n7_4]
            · simp [go_sem, r2_8, c2_8, n2_7, r3_8, c3_8, n3_7, r4_8, c4_8, n4_7, r7_8, c7_8, n7_2, n7_3, n7_4]
            · repeat (first | exact hb8 | exact Below.refl _ _ | refine Below.alloc ?_ (by first | omega | (simp; try omega)) _ | refine below_setRow ?_ (by omega) _ | refine Below.drew ?_)
      · skip
        have HR := Lib.hid (um_ne hc ha hq)
        have hu := HR.out.1
        go_enter Try.func44, Try.ntmps44
        go_wp2_with fail
        refine atomC fun W10 e10 => ?_
        have hb10 : Below w.heap.size w W10 := by rw [e10]; (repeat (first | exact Below.refl _ _ | refine Below.alloc ?_ (by first | omega | (simp; try omega)) _ | refine below_setRow ?_ (by omega) _ | refine Below.drew ?_))
        have q10 := hb10.size
        have R10 : IsRow W10 (w.heap.size) ∧ IsRow W10 (w.heap.size + 1) ∧ IsRow W10 (w.heap.size + 2) := by rw [e10]; simp [go_sem]
        obtain ⟨r2_10, r3_10, r4_10⟩ := R10
        have C10 := (⟨congrArg (blk · (w.heap.size)) e10, congrArg (blk · (w.heap.size + 1)) e10, congrArg (blk · (w.heap.size + 2)) e10⟩ : _ ∧ _ ∧ _); simp [go_sem] at C10
        obtain ⟨c2_10, c3_10, c4_10⟩ := C10
        have z2_10 := isRow_lt r2_10; have z3_10 := isRow_lt r3_10; have z4_10 := isRow_lt r4_10
        clear e10
        refine (l02MapsNil_any _ _ _ _ _ _ _ HF.out HG.out).mono ?_; rintro _ W11 ⟨rfl, hw11⟩
        obtain ⟨r2_11, c2_11⟩ := keepB hw11 z2_10 r2_10 c2_10
        have z2_11 := isRow_lt r2_11
        obtain ⟨r3_11, c3_11⟩ := keepB hw11 z3_10 r3_10 c3_10
        have z3_11 := isRow_lt r3_11
        obtain ⟨r4_11, c4_11⟩ := keepB hw11 z4_10 r4_10 c4_10
        have z4_11 := isRow_lt r4_11
        have hb11 := hb10.trans (hw11.mono hb10.size)
        have q11 := hb11.size
        clear hw11 r2_10 c2_10 z2_10 r3_10 c3_10 z3_10 r4_10 c4_10 z4_10 hb10
        go_wp2_with fail
        refine bodyPost_ret (result_cell_tmp rfl aggLin _ _ (row 64 zf) _ _ rfl rfl ?_ ?_) rfl ⟨by rw [← HR.out.2, HR.out.1]; rfl, ?_⟩
        · simp [go_sem, r2_11, c2_11, r3_11, c3_11, r4_11, c4_11]
        · simp [go_sem, r2_11, c2_11, r3_11, c3_11, r4_11, c4_11]
        · repeat (first | exact hb11 | exact Below.refl _ _ | refine Below.alloc ?_ (by first | omega | (simp; try omega)) _ | refine below_setRow ?_ (by omega) _ | refine Below.drew ?_)

set_option maxRecDepth 100000 in
set_option maxHeartbeats 2000000 in
theorem lawUnitMap (fp fn : Int) (f : Nat → Int) (gp gn : Int) (g : Nat → Int) (w : World) (_wfp : (Lit.int .i64 fp).wf = true) (_wfn : (Lit.int .i64 fn).wf = true) (hf : Bytes 520 f) (_wgp : (Lit.int .i64 gp).wf = true) (_wgn : (Lit.int .i64 gn).wf = true) (hg : Bytes 520 g) :
    Calls Try.prog 10 #[.agg (alg fp fn f), .agg (alg gp gn g)] w fun e w' => e = .returned (.bool true) ∧ Below w.heap.size w w' := by
  have Hf := Lib.hid hf; clear hf
  have Hg := Lib.hid hg; clear hg
  go_enter Try.func10, Try.ntmps10
  go_wp2
  refine atomW fun W1 e1 => ?_
  have hb1 : Below w.heap.size w W1 := by rw [e1]; (repeat (first | exact Below.refl _ _ | refine Below.alloc ?_ (by first | omega | (simp; try omega)) _ | refine below_setRow ?_ (by omega) _ | refine Below.drew ?_))
  have q1 := hb1.size
  have R1 : IsRow W1 (w.heap.size) ∧ IsRow W1 (w.heap.size + 1) := by rw [e1]; simp [go_sem]
  obtain ⟨r2_1, r3_1⟩ := R1
  have C1 := (⟨congrArg (blk · (w.heap.size)) e1, congrArg (blk · (w.heap.size + 1)) e1⟩ : _ ∧ _); simp [go_sem] at C1
  obtain ⟨c2_1, c3_1⟩ := C1
  have z2_1 := isRow_lt r2_1; have z3_1 := isRow_lt r3_1
  clear e1
  refine wp_quiet_alloc_late 8 7 _ _ (.cells (row 64 zf) 30) (Below W1.heap.size W1) (Made W1 (row 64 zf)) (by kernel_rfl) rfl rfl rfl (by kernel_rfl) (by kernel_rfl) (fun c a w d v h => by cases d <;> exact h) (fun a W => (xallocLin _ _ _ _ _ _ _).trans (allocLin W)) (closed_below W1) (closed_made W1 _) (fun b W h => h.1) (fun W h => made_new W1 _ _ W h) (Below.refl _ _).drew ?_
  simp only [List.take_succ_cons, List.take_zero, List.drop_succ_cons, List.drop_zero]
  iterate 1 (refine e_plain rfl ?_; apply Exists.intro; refine ⟨fun D hD hK W hW => ?_, ?_⟩; (focus (obtain ⟨x2, y2⟩ := keepB (hD W hW) z2_1 r2_1 c2_1; obtain ⟨x3, y3⟩ := keepB (hD W hW) z3_1 r3_1 c3_1; unfold Oper.quietAt; go_simp; first | done | rfl)); simp only [Act.put, List.setIfInBounds_toArray, List.set_cons_zero, List.set_cons_succ])
  (refine e_plain rfl ?_; apply Exists.intro; refine ⟨fun D hD hK W hW => ?_, ?_⟩; (focus (obtain ⟨x2, y2⟩ := keepB (hD W hW) z2_1 r2_1 c2_1; obtain ⟨x3, y3⟩ := keepB (hD W hW) z3_1 r3_1 c3_1; unfold Oper.quietAt; go_simp; (go_at_call 22; exact (toCoalgebra_any _ _ _ _).mono fun e w2 ⟨he, hw2⟩ => ⟨he, hK _ _ hW hw2⟩))); simp only [Act.put, List.setIfInBounds_toArray, List.set_cons_zero, List.set_cons_succ])
  iterate 1 (refine e_plain rfl ?_; apply Exists.intro; refine ⟨fun D hD hK W hW => ?_, ?_⟩; (focus (obtain ⟨x2, y2⟩ := keepB (hD W hW) z2_1 r2_1 c2_1; obtain ⟨x3, y3⟩ := keepB (hD W hW) z3_1 r3_1 c3_1; unfold Oper.quietAt; go_simp; first | done | rfl)); simp only [Act.put, List.setIfInBounds_toArray, List.set_cons_zero, List.set_cons_succ])
  (refine e_plain rfl ?_; apply Exists.intro; refine ⟨fun D hD hK W hW => ?_, ?_⟩; (focus (obtain ⟨x2, y2⟩ := keepB (hD W hW) z2_1 r2_1 c2_1; obtain ⟨x3, y3⟩ := keepB (hD W hW) z3_1 r3_1 c3_1; unfold Oper.quietAt; go_simp; (go_at_call 36; exact (toAlgebra_any _ _ _ _).mono fun e w2 ⟨he, hw2⟩ => ⟨he, hK _ _ hW hw2⟩))); simp only [Act.put, List.setIfInBounds_toArray, List.set_cons_zero, List.set_cons_succ])
  (refine e_plain rfl ?_; apply Exists.intro; refine ⟨fun D hD hK W hW => ?_, ?_⟩; (focus (obtain ⟨x2, y2⟩ := keepB (hD W hW) z2_1 r2_1 c2_1; obtain ⟨x3, y3⟩ := keepB (hD W hW) z3_1 r3_1 c3_1; unfold Oper.quietAt; go_simp; (go_at_call 44; exact (specUnitMap_any _ _ _ _ _ _ _ Hf.out Hg.out).mono fun e w2 ⟨he, hw2⟩ => ⟨he, hK _ _ hW hw2⟩))); simp only [Act.put, List.setIfInBounds_toArray, List.set_cons_zero, List.set_cons_succ])
  iterate 3 (refine e_plain rfl ?_; apply Exists.intro; refine ⟨fun D hD hK W hW => ?_, ?_⟩; (focus (obtain ⟨x2, y2⟩ := keepB (hD W hW) z2_1 r2_1 c2_1; obtain ⟨x3, y3⟩ := keepB (hD W hW) z3_1 r3_1 c3_1; unfold Oper.quietAt; go_simp; first | done | rfl)); simp only [Act.put, List.setIfInBounds_toArray, List.set_cons_zero, List.set_cons_succ])
  refine e_nil ?_
  intro a2 W2 hW2
  obtain ⟨hw2, hl2, m1_2, m2_2⟩ := hW2
  have n2_5 : (w.heap.size) ≠ (a2) := by have := z2_1; omega
  have n5_2 : (a2) ≠ (w.heap.size) := by have := z2_1; omega
  have n3_5 : (w.heap.size + 1) ≠ (a2) := by have := z3_1; omega
  have n5_3 : (a2) ≠ (w.heap.size + 1) := by have := z3_1; omega
  obtain ⟨r2_2, c2_2⟩ := keepB hw2 z2_1 r2_1 c2_1
  have z2_2 := isRow_lt r2_2
  obtain ⟨r3_2, c3_2⟩ := keepB hw2 z3_1 r3_1 c3_1
  have z3_2 := isRow_lt r3_2
  have hb2 := hb1.trans (hw2.mono hb1.size)
  have q2 := hb2.size
  clear hw2 r2_1 c2_1 z2_1 r3_1 c3_1 z3_1 hb1
  have z5_2 := isRow_lt m1_2
  simp only [Act.put, List.setIfInBounds_toArray, List.set_cons_zero, List.set_cons_succ]
  go_wp2
  refine atomW fun W3 e3 => ?_
  have hb3 : Below w.heap.size w W3 := by rw [e3]; (repeat (first | exact hb2 | exact Below.refl _ _ | refine Below.alloc ?_ (by first | omega | (simp; try omega)) _ | refine below_setRow ?_ (by omega) _ | refine Below.drew ?_))
  have q3 := hb3.size
  have R3 : IsRow W3 (w.heap.size) ∧ IsRow W3 (w.heap.size + 1) ∧ IsRow W3 (a2) := by rw [e3]; simp [go_sem, r2_2, c2_2, n2_5, r3_2, c3_2, n3_5, m1_2, m2_2, n5_2, n5_3]
  obtain ⟨r2_3, r3_3, r5_3⟩ := R3
  have C3 := (⟨congrArg (blk · (w.heap.size)) e3, congrArg (blk · (w.heap.size + 1)) e3, congrArg (blk · (a2)) e3⟩ : _ ∧ _ ∧ _); simp [go_sem, r2_2, c2_2, n2_5, r3_2, c3_2, n3_5, m1_2, m2_2, n5_2, n5_3] at C3
  obtain ⟨c2_3, c3_3, c5_3⟩ := C3
  have z2_3 := isRow_lt r2_3; have z3_3 := isRow_lt r3_3; have z5_3 := isRow_lt r5_3
  clear e3 r2_2 c2_2 z2_2 r3_2 c3_2 z3_2 m1_2 m2_2 z5_2 hb2
  refine wp_quiet_alloc_late 8 7 _ _ (.cells (row 64 zf) 30) (Below W3.heap.size W3) (Made W3 (row 64 zf)) (by kernel_rfl) rfl rfl rfl (by kernel_rfl) (by kernel_rfl) (fun c a w d v h => by cases d <;> exact h) (fun a W => (xallocLin _ _ _ _ _ _ _).trans (allocLin W)) (closed_below W3) (closed_made W3 _) (fun b W h => h.1) (fun W h => made_new W3 _ _ W h) (Below.refl _ _).drew ?_
  simp only [List.take_succ_cons, List.take_zero, List.drop_succ_cons, List.drop_zero]
  iterate 1 (refine e_plain rfl ?_; apply Exists.intro; refine ⟨fun D hD hK W hW => ?_, ?_⟩; (focus (obtain ⟨x2, y2⟩ := keepB (hD W hW) z2_3 r2_3 c2_3; obtain ⟨x3, y3⟩ := keepB (hD W hW) z3_3 r3_3 c3_3; obtain ⟨x5, y5⟩ := keepB (hD W hW) z5_3 r5_3 c5_3; unfold Oper.quietAt; go_simp; first | done | rfl)); simp only [Act.put, List.setIfInBounds_toArray, List.set_cons_zero, List.set_cons_succ])
  (refine e_plain rfl ?_; apply Exists.intro; refine ⟨fun D hD hK W hW => ?_, ?_⟩; (focus (obtain ⟨x2, y2⟩ := keepB (hD W hW) z2_3 r2_3 c2_3; obtain ⟨x3, y3⟩ := keepB (hD W hW) z3_3 r3_3 c3_3; obtain ⟨x5, y5⟩ := keepB (hD W hW) z5_3 r5_3 c5_3; unfold Oper.quietAt; go_simp; (go_at_call 22; exact (toCoalgebra_any _ _ _ _).mono fun e w2 ⟨he, hw2⟩ => ⟨he, hK _ _ hW hw2⟩))); simp only [Act.put, List.setIfInBounds_toArray, List.set_cons_zero, List.set_cons_succ])
  iterate 1 (refine e_plain rfl ?_; apply Exists.intro; refine ⟨fun D hD hK W hW => ?_, ?_⟩; (focus (obtain ⟨x2, y2⟩ := keepB (hD W hW) z2_3 r2_3 c2_3; obtain ⟨x3, y3⟩ := keepB (hD W hW) z3_3 r3_3 c3_3; obtain ⟨x5, y5⟩ := keepB (hD W hW) z5_3 r5_3 c5_3; unfold Oper.quietAt; go_simp; first | done | rfl)); simp only [Act.put, List.setIfInBounds_toArray, List.set_cons_zero, List.set_cons_succ])
  (refine e_plain rfl ?_; apply Exists.intro; refine ⟨fun D hD hK W hW => ?_, ?_⟩; (focus (obtain ⟨x2, y2⟩ := keepB (hD W hW) z2_3 r2_3 c2_3; obtain ⟨x3, y3⟩ := keepB (hD W hW) z3_3 r3_3 c3_3; obtain ⟨x5, y5⟩ := keepB (hD W hW) z5_3 r5_3 c5_3; unfold Oper.quietAt; go_simp; (go_at_call 36; exact (toAlgebra_any _ _ _ _).mono fun e w2 ⟨he, hw2⟩ => ⟨he, hK _ _ hW hw2⟩))); simp only [Act.put, List.setIfInBounds_toArray, List.set_cons_zero, List.set_cons_succ])
  (refine e_plain rfl ?_; apply Exists.intro; refine ⟨fun D hD hK W hW => ?_, ?_⟩; (focus (obtain ⟨x2, y2⟩ := keepB (hD W hW) z2_3 r2_3 c2_3; obtain ⟨x3, y3⟩ := keepB (hD W hW) z3_3 r3_3 c3_3; obtain ⟨x5, y5⟩ := keepB (hD W hW) z5_3 r5_3 c5_3; unfold Oper.quietAt; go_simp; (go_at_call 45; exact (unitMapR_any _ _ _ _ _ _ _ Hf.out Hg.out).mono fun e w2 ⟨he, hw2⟩ => ⟨he, hK _ _ hW hw2⟩))); simp only [Act.put, List.setIfInBounds_toArray, List.set_cons_zero, List.set_cons_succ])
  iterate 3 (refine e_plain rfl ?_; apply Exists.intro; refine ⟨fun D hD hK W hW => ?_, ?_⟩; (focus (obtain ⟨x2, y2⟩ := keepB (hD W hW) z2_3 r2_3 c2_3; obtain ⟨x3, y3⟩ := keepB (hD W hW) z3_3 r3_3 c3_3; obtain ⟨x5, y5⟩ := keepB (hD W hW) z5_3 r5_3 c5_3; unfold Oper.quietAt; go_simp; first | done | rfl)); simp only [Act.put, List.setIfInBounds_toArray, List.set_cons_zero, List.set_cons_succ])
  refine e_nil ?_
  intro a4 W4 hW4
  obtain ⟨hw4, hl4, m1_4, m2_4⟩ := hW4
  have n2_7 : (w.heap.size) ≠ (a4) := by have := z2_3; omega
  have n7_2 : (a4) ≠ (w.heap.size) := by have := z2_3; omega
  have n3_7 : (w.heap.size + 1) ≠ (a4) := by have := z3_3; omega
  have n7_3 : (a4) ≠ (w.heap.size + 1) := by have := z3_3; omega
  have n5_7 : (a2) ≠ (a4) := by have := z5_3; omega
  have n7_5 : (a4) ≠ (a2) := by have := z5_3; omega
  obtain ⟨r2_4, c2_4⟩ := keepB hw4 z2_3 r2_3 c2_3
  have z2_4 := isRow_lt r2_4
  obtain ⟨r3_4, c3_4⟩ := keepB hw4 z3_3 r3_3 c3_3
  have z3_4 := isRow_lt r3_4
  obtain ⟨r5_4, c5_4⟩ := keepB hw4 z5_3 r5_3 c5_3
  have z5_4 := isRow_lt r5_4
  have hb4 := hb3.trans (hw4.mono hb3.size)
  have q4 := hb4.size
  clear hw4 r2_3 c2_3 z2_3 r3_3 c3_3 z3_3 r5_3 c5_3 z5_3 hb3
  have z7_4 := isRow_lt m1_4
  simp only [Act.put, List.setIfInBounds_toArray, List.set_cons_zero, List.set_cons_succ]
  go_wp2_with fail
  refine atomC fun W5 e5 => ?_
  have hb5 : Below w.heap.size w W5 := by rw [e5]; (repeat (first | exact hb4 | exact Below.refl _ _ | refine Below.alloc ?_ (by first | omega | (simp; try omega)) _ | refine below_setRow ?_ (by omega) _ | refine Below.drew ?_))
  have q5 := hb5.size
  clear e5 hb4
  refine (eqLinear_same _ _).mono ?_; rintro _ W6 ⟨rfl, hw6⟩
  have hb6 := hb5.trans (hw6.mono hb5.size)
  have q6 := hb6.size
  clear hw6 hb5
  go_wp2_with fail
  go_ret
  exact ⟨rfl, (by (repeat (first | exact hb6 | exact Below.refl _ _ | refine Below.alloc ?_ (by first | omega | (simp; try omega)) _ | refine below_setRow ?_ (by omega) _ | refine Below.drew ?_)))⟩

/-! ### cocommutative coalgebras -/
def comF (f : Nat → Int) (i : Nat) : Nat → Int := fun t => tab f (i * 64 + t)
def symAt (f : Nat → Int) (i : Nat) : Bool := segEq 0 64 (flipF (comF f i)) (comF f i)
theorem sym_iff {f : Nat → Int} {i : Nat} : symAt f i = true ↔ ∀ a b, a < 8 → b < 8 → mtab f i a b = mtab f i b a := by
  unfold symAt
  rw [segEq_iff]
  unfold flipF comF mtab
  constructor
  · intro h a b ha hb
    have := h (b * 8 + a) (by omega)
    rw [Nat.zero_add, show (b * 8 + a) % 8 = a by omega, show (b * 8 + a) / 8 = b by omega] at this
    exact this
  · intro h t ht
    rw [Nat.zero_add]
    have := h (t % 8) (t / 8) (by omega) (by omega)
    rw [show t / 8 * 8 + t % 8 = t by omega] at this
    exact this
def cocB (f : Nat → Int) : Bool := (List.range 8).all fun i => symAt f i
def cocR (p n : Int) (f : Nat → Int) : Bool := match coB p n f with | true => cocB f | false => false
theorem coc_no {p n : Int} {f : Nat → Int} (h : coB p n f = false) : cocR p n f = false := by unfold cocR; rw [h]
theorem coc_yes {p n : Int} {f : Nat → Int} (h : coB p n f = true) : cocR p n f = cocB f := by unfold cocR; rw [h]
def SymA (f : Nat → Int) (i : Nat) : Prop := ∀ a, a < i → symAt f a = true
def SymJ (f : Nat → Int) (i j : Nat) : Prop := ∀ a, a < j → ∀ b, b < a → mtab f i a b = mtab f i b a
def SymK (f : Nat → Int) (i j k : Nat) : Prop := ∀ b, b < k → mtab f i j b = mtab f i b j
theorem symK_more {f : Nat → Int} {i j k : Nat} (h : SymK f i j k) (e : mtab f i j k = mtab f i k j) : SymK f i j (k + 1) := fun b hb => by
  by_cases hk : b = k
  · rw [hk]; exact e
  · exact h b (by omega)
theorem symJ_more {f : Nat → Int} {i j : Nat} (h : SymJ f i j) (e : SymK f i j j) : SymJ f i (j + 1) := fun a ha b hb => by
  by_cases hk : a = j
  · subst hk; exact e b hb
  · exact h a (by omega) b hb
theorem symA_more {f : Nat → Int} {i : Nat} (h : SymA f i) (e : symAt f i = true) : SymA f (i + 1) := fun a ha => by
  by_cases hk : a = i
  · rw [hk]; exact e
  · exact h a (by omega)
theorem symA_row {f : Nat → Int} {i : Nat} (h : SymA f i) (e : SymJ f i 8) : SymA f (i + 1) := symA_more h (sym_iff.2 fun a b ha hb => by
  rcases Nat.lt_trichotomy a b with h1 | h1 | h1
  · exact (e b hb a h1).symm
  · rw [h1]
  · exact e a ha b h1)
theorem coc_all {f : Nat → Int} (h : SymA f 8) : cocB f = true := all_yes 8 h
theorem coc_bad {f : Nat → Int} {i : Nat} (hi : i < 8) (h : symAt f i = false) : cocB f = false := all_no i 8 hi h
theorem coc_bad2 {f : Nat → Int} {i j k : Nat} (hi : i < 8) (hj : j < 8) (hk : k < 8) (h : ¬ mtab f i j k = mtab f i k j) : cocB f = false := coc_bad hi (by
  cases hs : symAt f i
  · rfl
  · exact (h (sym_iff.1 hs j k hj hk)).elim)

set_option maxRecDepth 100000 in
set_option maxHeartbeats 1000000 in
theorem isCocomm_any (p n : Int) (f : Nat → Int) (w : World) (hF : Bytes 520 f) :
    Calls Try.prog 43 #[.agg (alg p n f)] w fun e w' => e = .returned (.tuple #[.bool (cocR p n f), .int .i64 (codeB (coB p n f))]) ∧ Below w.heap.size w w' := by
  have HF := Lib.hid hF; clear hF
  cases hc : coB p n f
  · skip
    have HR := Lib.hid (coc_no hc)
    go_enter Try.func43, Try.ntmps43
    go_wp2_with fail
    refine atomC fun W1 e1 => ?_
    have hb1 : Below w.heap.size w W1 := by rw [e1]; (repeat (first | exact Below.refl _ _ | refine Below.alloc ?_ (by first | omega | (simp; try omega)) _ | refine below_setRow ?_ (by omega) _ | refine Below.drew ?_))
    have q1 := hb1.size
    have r1_1 : IsRow W1 (w.heap.size) := by rw [e1]; simp [go_sem]
    have c1_1 := congrArg (fun x => blk x (w.heap.size)) e1; simp [go_sem] at c1_1
    have z1_1 := isRow_lt r1_1
    clear e1
    refine (isCo_any _ _ _ _ HF.out).mono ?_; rintro _ W2 ⟨rfl, hw2⟩
    obtain ⟨r1_2, c1_2⟩ := keepB hw2 z1_1 r1_1 c1_1
    have z1_2 := isRow_lt r1_2
    have hb2 := hb1.trans (hw2.mono hb1.size)
    have q2 := hb2.size
    clear hw2 r1_1 c1_1 z1_1 hb1
    go_wp2_with fail
    go_ret2
    exact ⟨ret_bc HR.out.symm (by rfl), (by (repeat (first | exact hb2 | exact Below.refl _ _ | refine Below.alloc ?_ (by first | omega | (simp; try omega)) _ | refine below_setRow ?_ (by omega) _ | refine Below.drew ?_)))⟩
  · skip
    have HR := Lib.hid (coc_yes hc)
    go_enter Try.func43, Try.ntmps43
    go_wp2_with fail
    refine atomC fun W3 e3 => ?_
    have hb3 : Below w.heap.size w W3 := by rw [e3]; (repeat (first | exact Below.refl _ _ | refine Below.alloc ?_ (by first | omega | (simp; try omega)) _ | refine below_setRow ?_ (by omega) _ | refine Below.drew ?_))
    have q3 := hb3.size
    have r1_3 : IsRow W3 (w.heap.size) := by rw [e3]; simp [go_sem]
    have c1_3 := congrArg (fun x => blk x (w.heap.size)) e3; simp [go_sem] at c1_3
    have z1_3 := isRow_lt r1_3
    clear e3
    refine (isCo_any _ _ _ _ HF.out).mono ?_; rintro _ W4 ⟨rfl, hw4⟩
    obtain ⟨r1_4, c1_4⟩ := keepB hw4 z1_3 r1_3 c1_3
    have z1_4 := isRow_lt r1_4
    have hb4 := hb3.trans (hw4.mono hb3.size)
    have q4 := hb4.size
    clear hw4 r1_3 c1_3 z1_3 hb3
    go_wp2
    go_loopw [11] (fun s11 wr => ∃ i : Nat, i ≤ 8 ∧ s11 = .int .i64 i ∧ Below w.heap.size w wr ∧ SymA f i) (fun s11 _ => 8 - (intOf s11).toNat)
    case atStart => exact ⟨0, by omega, rfl, hb4, fun a ha => by omega⟩
    case round =>
      obtain ⟨i, hle5, rfl, hb5, hx5⟩ := hrel
      obtain ⟨W5, rfl⟩ : ∃ W5 : World, W5 = wr := ⟨_, rfl⟩
      have q5 := hb5.size
      have HX5 := Lib.hid hx5; clear hx5
      clear hb4
      by_cases hlt5 : i < 8
      · skip
        have i0_5 : (0 : Int) ≤ (i : Int) := by omega
        have i8_5 : (i : Int) < 8 := by omega
        have k8_5 : i < 8 := by omega
        have m8_5 : i * 8 + 8 ≤ 64 := by omega
        have m64_5 : i * 64 + 64 ≤ 512 := by omega
        have l1_5 : 10 + i * 64 + 64 ≤ 522 := by omega
        cases hv : symAt f i
        · skip
          have HT : Hid (Bytes 64 fun t => tab f (i * 64 + t)) := Lib.hid fun t ht => tab_bytes HF.out (i * 64 + t) (by omega)
          have hv1 : segEq 0 64 (flipF fun t => tab f (i * 64 + t)) (fun t => tab f (i * 64 + t)) = false := hv
          have H := Lib.hid (coc_bad (by omega) hv)
          go_wp2
          refine atomW fun W6 e6 => ?_
          have hb6 : Below w.heap.size w W6 := by rw [e6]; (repeat (first | exact hb5 | exact Below.refl _ _ | refine Below.alloc ?_ (by first | omega | (simp; try omega)) _ | refine below_setRow ?_ (by omega) _ | refine Below.drew ?_))
          have q6 := hb6.size
          have r5_6 : IsRow W6 (W5.heap.size) := by rw [e6]; simp [go_sem]
          have c5_6 := congrArg (fun x => blk x (W5.heap.size)) e6; simp [go_sem] at c5_6
          have z5_6 := isRow_lt r5_6
          clear e6 hb5
          refine wp_quiet_all (Below W6.heap.size W6) (by kernel_rfl) (by kernel_rfl) (Below.refl _ _).drew ?_
          iterate 1 (refine q_plain rfl ?_; apply Exists.intro; refine ⟨fun W hW => ?_, ?_⟩; (focus (obtain ⟨x5, y5⟩ := keepB hW z5_6 r5_6 c5_6; go_simp; first | done | rfl)); simp only [Act.put, List.setIfInBounds_toArray, List.set_cons_zero, List.set_cons_succ])
          (refine q_plain rfl ?_; apply Exists.intro; refine ⟨fun W hW => ?_, ?_⟩; (focus (obtain ⟨x5, y5⟩ := keepB hW z5_6 r5_6 c5_6; go_simp; (go_at_call 92; exact (flipLinear_any _ _ HT.out).mono fun e w2 ⟨he, hw2⟩ => ⟨he, hW.trans (hw2.mono hW.size)⟩))); simp only [Act.put, List.setIfInBounds_toArray, List.set_cons_zero, List.set_cons_succ])
          iterate 2 (refine q_plain rfl ?_; apply Exists.intro; refine ⟨fun W hW => ?_, ?_⟩; (focus (obtain ⟨x5, y5⟩ := keepB hW z5_6 r5_6 c5_6; go_simp; first | done | rfl)); simp only [Act.put, List.setIfInBounds_toArray, List.set_cons_zero, List.set_cons_succ])
          refine wpQuiet_nil ?_
          intro W7 hw7
          obtain ⟨r5_7, c5_7⟩ := keepB hw7 z5_6 r5_6 c5_6
          have z5_7 := isRow_lt r5_7
          have hb7 := hb6.trans (hw7.mono hb6.size)
          have q7 := hb7.size
          clear hw7 r5_6 c5_6 z5_6 hb6
          go_wp2_with fail
          go_ret2
          exact ⟨ret_bc (by rw [HR.out, H.out]) (by rfl), (by (repeat (first | exact hb7 | exact Below.refl _ _ | refine Below.alloc ?_ (by first | omega | (simp; try omega)) _ | refine below_setRow ?_ (by omega) _ | refine Below.drew ?_)))⟩
        · skip
          have HT : Hid (Bytes 64 fun t => tab f (i * 64 + t)) := Lib.hid fun t ht => tab_bytes HF.out (i * 64 + t) (by omega)
          have hv1 : segEq 0 64 (flipF fun t => tab f (i * 64 + t)) (fun t => tab f (i * 64 + t)) = true := hv
          have H := Lib.hid (symA_more HX5.out hv)
          go_wp2
          refine atomW fun W8 e8 => ?_
          have hb8 : Below w.heap.size w W8 := by rw [e8]; (repeat (first | exact hb5 | exact Below.refl _ _ | refine Below.alloc ?_ (by first | omega | (simp; try omega)) _ | refine below_setRow ?_ (by omega) _ | refine Below.drew ?_))
          have q8 := hb8.size
          have r5_8 : IsRow W8 (W5.heap.size) := by rw [e8]; simp [go_sem]
          have c5_8 := congrArg (fun x => blk x (W5.heap.size)) e8; simp [go_sem] at c5_8
          have z5_8 := isRow_lt r5_8
          clear e8 hb5
          refine wp_quiet_all (Below W8.heap.size W8) (by kernel_rfl) (by kernel_rfl) (Below.refl _ _).drew ?_
          iterate 1 (refine q_plain rfl ?_; apply Exists.intro; refine ⟨fun W hW => ?_, ?_⟩; (focus (obtain ⟨x5, y5⟩ := keepB hW z5_8 r5_8 c5_8; go_simp; first | done | rfl)); simp only [Act.put, List.setIfInBounds_toArray, List.set_cons_zero, List.set_cons_succ])
          (refine q_plain rfl ?_; apply Exists.intro; refine ⟨fun W hW => ?_, ?_⟩; (focus (obtain ⟨x5, y5⟩ := keepB hW z5_8 r5_8 c5_8; go_simp; (go_at_call 92; exact (flipLinear_any _ _ HT.out).mono fun e w2 ⟨he, hw2⟩ => ⟨he, hW.trans (hw2.mono hW.size)⟩))); simp only [Act.put, List.setIfInBounds_toArray, List.set_cons_zero, List.set_cons_succ])
          iterate 2 (refine q_plain rfl ?_; apply Exists.intro; refine ⟨fun W hW => ?_, ?_⟩; (focus (obtain ⟨x5, y5⟩ := keepB hW z5_8 r5_8 c5_8; go_simp; first | done | rfl)); simp only [Act.put, List.setIfInBounds_toArray, List.set_cons_zero, List.set_cons_succ])
          refine wpQuiet_nil ?_
          intro W9 hw9
          obtain ⟨r5_9, c5_9⟩ := keepB hw9 z5_8 r5_8 c5_8
          have z5_9 := isRow_lt r5_9
          have hb9 := hb8.trans (hw9.mono hb8.size)
          have q9 := hb9.size
          clear hw9 r5_8 c5_8 z5_8 hb8
          go_wp2
          go_roundw
          case rel => exact ⟨i + 1, by omega, by go_num, (by (repeat (first | exact hb9 | exact Below.refl _ _ | refine Below.alloc ?_ (by first | omega | (simp; try omega)) _ | refine below_setRow ?_ (by omega) _ | refine Below.drew ?_))), H.out⟩
          case measure => simp [intOf]; try omega
      · skip
        obtain rfl : i = 8 := by omega
        have H := Lib.hid (coc_all HX5.out)
        go_wp2_with fail
        go_ret2
        exact ⟨ret_bc (by rw [HR.out, H.out]) (by rfl), (by (repeat (first | exact hb5 | exact Below.refl _ _ | refine Below.alloc ?_ (by first | omega | (simp; try omega)) _ | refine below_setRow ?_ (by omega) _ | refine Below.drew ?_)))⟩

set_option maxRecDepth 100000 in
set_option maxHeartbeats 6000000 in
theorem specCocomm_any (p n : Int) (f : Nat → Int) (w : World) (hF : Bytes 520 f) :
    Calls Try.prog 42 #[.agg (alg p n f)] w fun e w' => e = .returned (.tuple #[.bool (cocR p n f), .int .i64 (codeB (coB p n f))]) ∧ Below w.heap.size w w' := by
  have HF := Lib.hid hF; clear hF
  cases hc : coB p n f
  · skip
    have HR := Lib.hid (coc_no hc)
    go_enter Try.func42, Try.ntmps42
    go_wp2_with fail
    refine atomC fun W1 e1 => ?_
    have hb1 : Below w.heap.size w W1 := by rw [e1]; (repeat (first | exact Below.refl _ _ | refine Below.alloc ?_ (by first | omega | (simp; try omega)) _ | refine below_setRow ?_ (by omega) _ | refine Below.drew ?_))
    have q1 := hb1.size
    have r1_1 : IsRow W1 (w.heap.size) := by rw [e1]; simp [go_sem]
    have c1_1 := congrArg (fun x => blk x (w.heap.size)) e1; simp [go_sem] at c1_1
    have z1_1 := isRow_lt r1_1
    clear e1
    refine (l02Is_any _ _ _ _ HF.out).mono ?_; rintro _ W2 ⟨rfl, hw2⟩
    obtain ⟨r1_2, c1_2⟩ := keepB hw2 z1_1 r1_1 c1_1
    have z1_2 := isRow_lt r1_2
    have hb2 := hb1.trans (hw2.mono hb1.size)
    have q2 := hb2.size
    clear hw2 r1_1 c1_1 z1_1 hb1
    go_wp2_with fail
    go_ret2
    exact ⟨ret_bc HR.out.symm (by rfl), (by (repeat (first | exact hb2 | exact Below.refl _ _ | refine Below.alloc ?_ (by first | omega | (simp; try omega)) _ | refine below_setRow ?_ (by omega) _ | refine Below.drew ?_)))⟩
  · skip
    have HR := Lib.hid (coc_yes hc)
    go_enter Try.func42, Try.ntmps42
    go_wp2_with fail
    refine atomC fun W3 e3 => ?_
    have hb3 : Below w.heap.size w W3 := by rw [e3]; (repeat (first | exact Below.refl _ _ | refine Below.alloc ?_ (by first | omega | (simp; try omega)) _ | refine below_setRow ?_ (by omega) _ | refine Below.drew ?_))
    have q3 := hb3.size
    have r1_3 : IsRow W3 (w.heap.size) := by rw [e3]; simp [go_sem]
    have c1_3 := congrArg (fun x => blk x (w.heap.size)) e3; simp [go_sem] at c1_3
    have z1_3 := isRow_lt r1_3
    clear e3
    refine (l02Is_any _ _ _ _ HF.out).mono ?_; rintro _ W4 ⟨rfl, hw4⟩
    obtain ⟨r1_4, c1_4⟩ := keepB hw4 z1_3 r1_3 c1_3
    have z1_4 := isRow_lt r1_4
    have hb4 := hb3.trans (hw4.mono hb3.size)
    have q4 := hb4.size
    clear hw4 r1_3 c1_3 z1_3 hb3
    go_wp2
    go_loopw [4] (fun s4 wr => ∃ i : Nat, i ≤ 8 ∧ s4 = .int .i64 i ∧ Below w.heap.size w wr ∧ (IsRow wr (w.heap.size) ∧ blk wr (w.heap.size) = blk W4 (w.heap.size)) ∧ SymA f i) (fun s4 _ => 8 - (intOf s4).toNat)
    case atStart => exact ⟨0, by omega, rfl, hb4, ⟨r1_4, rfl⟩, fun a ha => by omega⟩
    case round =>
      obtain ⟨i, hle5, rfl, hb5, ⟨r1_5, c1_5⟩, hx5⟩ := hrel
      obtain ⟨W5, rfl⟩ : ∃ W5 : World, W5 = wr := ⟨_, rfl⟩
      have q5 := hb5.size
      have HX5 := Lib.hid hx5; clear hx5
      have E1_5 := Lib.hid c1_4; replace c1_5 := c1_5.trans c1_4
      have z1_5 := isRow_lt r1_5
      clear r1_4 c1_4 z1_4 hb4
      by_cases hlt5 : i < 8
      · skip
        have i0_5 : (0 : Int) ≤ (i : Int) := by omega
        have i8_5 : (i : Int) < 8 := by omega
        have k8_5 : i < 8 := by omega
        have m8_5 : i * 8 + 8 ≤ 64 := by omega
        have m64_5 : i * 64 + 64 ≤ 512 := by omega
        have l1_5 : 10 + i * 64 + 64 ≤ 522 := by omega
        go_wp2
        go_loopw [5] (fun s5 wr => ∃ j : Nat, j ≤ 8 ∧ s5 = .int .i64 j ∧ Below w.heap.size w wr ∧ (IsRow wr (w.heap.size) ∧ blk wr (w.heap.size) = blk W5 (w.heap.size)) ∧ SymA f i ∧ SymJ f i j) (fun s5 _ => 8 - (intOf s5).toNat)
        case atStart => exact ⟨0, by omega, rfl, hb5, ⟨r1_5, rfl⟩, ⟨HX5.out, fun a ha => by omega⟩⟩
        case round =>
          obtain ⟨j, hle6, rfl, hb6, ⟨r1_6, c1_6⟩, hx6⟩ := hrel
          obtain ⟨W6, rfl⟩ : ∃ W6 : World, W6 = wr := ⟨_, rfl⟩
          have q6 := hb6.size
          have HX6 := Lib.hid hx6; clear hx6
          have E1_6 := Lib.hid c1_5; replace c1_6 := c1_6.trans c1_5
          have z1_6 := isRow_lt r1_6
          clear r1_5 c1_5 z1_5 hb5
          by_cases hlt6 : j < 8
          · skip
            have i0_6 : (0 : Int) ≤ (j : Int) := by omega
            have i8_6 : (j : Int) < 8 := by omega
            have k8_6 : j < 8 := by omega
            have m8_6 : j * 8 + 8 ≤ 64 := by omega
            have m64_6 : j * 64 + 64 ≤ 512 := by omega
            have l1_6 : 10 + j * 64 + 64 ≤ 522 := by omega
            have l2_6i : 10 + i * 64 + j * 8 + 8 ≤ 522 := by omega
            have l3_6i : 10 + j * 64 + i * 8 + 8 ≤ 522 := by omega
            have l4_6i : i * 64 + j * 8 + 8 ≤ 512 := by omega
            have l5_6i : j * 64 + i * 8 + 8 ≤ 512 := by omega
            have l6_6i : i * 8 + j < 64 := by omega
            have l7_6i : j * 8 + i < 64 := by omega
            go_wp2
            go_loopw [6] (fun s6 wr => ∃ k : Nat, k ≤ j ∧ s6 = .int .i64 k ∧ Below w.heap.size w wr ∧ (IsRow wr (w.heap.size) ∧ blk wr (w.heap.size) = blk W6 (w.heap.size)) ∧ (SymA f i ∧ SymJ f i j) ∧ SymK f i j k) (fun s6 _ => j - (intOf s6).toNat)
            case atStart => exact ⟨0, by omega, rfl, hb6, ⟨r1_6, rfl⟩, ⟨HX6.out, fun a ha => by omega⟩⟩
            case round =>
              obtain ⟨k, hle7, rfl, hb7, ⟨r1_7, c1_7⟩, hx7⟩ := hrel
              obtain ⟨W7, rfl⟩ : ∃ W7 : World, W7 = wr := ⟨_, rfl⟩
              have q7 := hb7.size
              have HX7 := Lib.hid hx7; clear hx7
              have E1_7 := Lib.hid c1_6; replace c1_7 := c1_7.trans c1_6
              have z1_7 := isRow_lt r1_7
              clear r1_6 c1_6 z1_6 hb6
              by_cases hlt7 : k < j
              · skip
                have i0_7 : (0 : Int) ≤ (k : Int) := by omega
                have i8_7 : (k : Int) < 8 := by omega
                have k8_7 : k < 8 := by omega
                have m8_7 : k * 8 + 8 ≤ 64 := by omega
                have m64_7 : k * 64 + 64 ≤ 512 := by omega
                have l1_7 : 10 + k * 64 + 64 ≤ 522 := by omega
                have l2_7i : 10 + i * 64 + k * 8 + 8 ≤ 522 := by omega
                have l3_7i : 10 + k * 64 + i * 8 + 8 ≤ 522 := by omega
                have l4_7i : i * 64 + k * 8 + 8 ≤ 512 := by omega
                have l5_7i : k * 64 + i * 8 + 8 ≤ 512 := by omega
                have l6_7i : i * 8 + k < 64 := by omega
                have l7_7i : k * 8 + i < 64 := by omega
                have l2_7j : 10 + j * 64 + k * 8 + 8 ≤ 522 := by omega
                have l3_7j : 10 + k * 64 + j * 8 + 8 ≤ 522 := by omega
                have l4_7j : j * 64 + k * 8 + 8 ≤ 512 := by omega
                have l5_7j : k * 64 + j * 8 + 8 ≤ 512 := by omega
                have l6_7j : j * 8 + k < 64 := by omega
                have l7_7j : k * 8 + j < 64 := by omega
                by_cases hv : mtab f i j k = mtab f i k j
                · skip
                  have e1 := alg_at p n f i j k (by omega) (by omega) (by omega); have e2 := alg_at p n f i k j (by omega) (by omega) (by omega)
                  have hv1 : (mtab f i j k == mtab f i k j) = true := by simpa using hv
                  have hv2 : (mtab f i j k != mtab f i k j) = false := by simpa using hv
                  have hv3 : decide (mtab f i j k = mtab f i k j) = true := by simpa using hv
                  have HV := Lib.hid hv; clear hv
                  go_wp2
                  refine wp_quiet_all (Below W7.heap.size W7) (by kernel_rfl) (by kernel_rfl) (Below.refl _ _).drew ?_
                  iterate 17 (refine q_plain rfl ?_; apply Exists.intro; refine ⟨fun W hW => ?_, ?_⟩; (focus (obtain ⟨x1, y1⟩ := keepB hW z1_7 r1_7 c1_7; go_simp; first | done | rfl)); simp only [Act.put, List.setIfInBounds_toArray, List.set_cons_zero, List.set_cons_succ])
                  refine wpQuiet_nil ?_
                  intro W8 hw8
                  obtain ⟨r1_8, c1_8⟩ := keepB hw8 z1_7 r1_7 c1_7
                  have z1_8 := isRow_lt r1_8
                  have hb8 := hb7.trans (hw8.mono hb7.size)
                  have q8 := hb8.size
                  clear hw8 r1_7 c1_7 z1_7 hb7
                  go_wp2
                  go_roundw
                  case rel => exact ⟨k + 1, by omega, by go_num, (by (repeat (first | exact hb8 | exact Below.refl _ _ | refine Below.alloc ?_ (by first | omega | (simp; try omega)) _ | refine below_setRow ?_ (by omega) _ | refine Below.drew ?_))), ⟨by simp [go_sem, r1_8, c1_8], (by rw [E1_7.out]; first | exact c1_8 | (simp [go_sem, r1_8, c1_8]; done))⟩, ⟨HX7.out.1, symK_more HX7.out.2 HV.out⟩⟩
                  case measure => simp [intOf]; try omega
                · skip
                  have e1 := alg_at p n f i j k (by omega) (by omega) (by omega); have e2 := alg_at p n f i k j (by omega) (by omega) (by omega)
                  have H := Lib.hid (coc_bad2 (by omega) (by omega) (by omega) hv)
                  have hv1 : (mtab f i j k == mtab f i k j) = false := by simpa using hv
                  have hv2 : (mtab f i j k != mtab f i k j) = true := by simpa using hv
                  have hv3 : decide (mtab f i j k = mtab f i k j) = false := by simpa using hv
                  clear hv
                  go_wp2
                  refine wp_quiet_all (Below W7.heap.size W7) (by kernel_rfl) (by kernel_rfl) (Below.refl _ _).drew ?_
                  iterate 17 (refine q_plain rfl ?_; apply Exists.intro; refine ⟨fun W hW => ?_, ?_⟩; (focus (obtain ⟨x1, y1⟩ := keepB hW z1_7 r1_7 c1_7; go_simp; first | done | rfl)); simp only [Act.put, List.setIfInBounds_toArray, List.set_cons_zero, List.set_cons_succ])
                  refine wpQuiet_nil ?_
                  intro W9 hw9
                  obtain ⟨r1_9, c1_9⟩ := keepB hw9 z1_7 r1_7 c1_7
                  have z1_9 := isRow_lt r1_9
                  have hb9 := hb7.trans (hw9.mono hb7.size)
                  have q9 := hb9.size
                  clear hw9 r1_7 c1_7 z1_7 hb7
                  go_wp2_with fail
                  go_ret2
                  exact ⟨ret_bc (by rw [HR.out, H.out]) (by rfl), (by (repeat (first | exact hb9 | exact Below.refl _ _ | refine Below.alloc ?_ (by first | omega | (simp; try omega)) _ | refine below_setRow ?_ (by omega) _ | refine Below.drew ?_)))⟩
              · skip
                obtain rfl : j = k := by omega
                go_wp2
                go_roundw
                case rel => exact ⟨j + 1, by omega, by go_num, (by (repeat (first | exact hb7 | exact Below.refl _ _ | refine Below.alloc ?_ (by first | omega | (simp; try omega)) _ | refine below_setRow ?_ (by omega) _ | refine Below.drew ?_))), ⟨by simp [go_sem, r1_7, c1_7], (by rw [E1_6.out]; first | exact c1_7 | (simp [go_sem, r1_7, c1_7]; done))⟩, ⟨HX7.out.1.1, symJ_more HX7.out.1.2 HX7.out.2⟩⟩
                case measure => simp [intOf]; try omega
          · skip
            obtain rfl : j = 8 := by omega
            go_wp2
            go_roundw
            case rel => exact ⟨i + 1, by omega, by go_num, (by (repeat (first | exact hb6 | exact Below.refl _ _ | refine Below.alloc ?_ (by first | omega | (simp; try omega)) _ | refine below_setRow ?_ (by omega) _ | refine Below.drew ?_))), ⟨by simp [go_sem, r1_6, c1_6], (by rw [E1_5.out]; first | exact c1_6 | (simp [go_sem, r1_6, c1_6]; done))⟩, symA_row HX6.out.1 HX6.out.2⟩
            case measure => simp [intOf]; try omega
      · skip
        obtain rfl : i = 8 := by omega
        have H := Lib.hid (coc_all HX5.out)
        go_wp2_with fail
        go_ret2
        exact ⟨ret_bc (by rw [HR.out, H.out]) (by rfl), (by (repeat (first | exact hb5 | exact Below.refl _ _ | refine Below.alloc ?_ (by first | omega | (simp; try omega)) _ | refine below_setRow ?_ (by omega) _ | refine Below.drew ?_)))⟩

set_option maxRecDepth 100000 in
set_option maxHeartbeats 2000000 in
theorem lawIsCocommutative (fp fn : Int) (f : Nat → Int) (w : World) (_wfp : (Lit.int .i64 fp).wf = true) (_wfn : (Lit.int .i64 fn).wf = true) (hf : Bytes 520 f) :
    Calls Try.prog 9 #[.agg (alg fp fn f)] w fun e w' => e = .returned (.bool true) ∧ Below w.heap.size w w' := by
  have Hf := Lib.hid hf; clear hf
  go_enter Try.func9, Try.ntmps9
  go_wp2_with fail
  refine atomC fun W1 e1 => ?_
  have hb1 : Below w.heap.size w W1 := by rw [e1]; (repeat (first | exact Below.refl _ _ | refine Below.alloc ?_ (by first | omega | (simp; try omega)) _ | refine below_setRow ?_ (by omega) _ | refine Below.drew ?_))
  have q1 := hb1.size
  have r1_1 : IsRow W1 (w.heap.size) := by rw [e1]; simp [go_sem]
  have c1_1 := congrArg (fun x => blk x (w.heap.size)) e1; simp [go_sem] at c1_1
  have z1_1 := isRow_lt r1_1
  clear e1
  refine (toCoalgebra_any _ _ _ _).mono ?_; rintro _ W2 ⟨rfl, hw2⟩
  obtain ⟨r1_2, c1_2⟩ := keepB hw2 z1_1 r1_1 c1_1
  have z1_2 := isRow_lt r1_2
  have hb2 := hb1.trans (hw2.mono hb1.size)
  have q2 := hb2.size
  clear hw2 r1_1 c1_1 z1_1 hb1
  go_wp2_with fail
  refine (specCocomm_any _ _ _ _ Hf.out).mono ?_; rintro _ W3 ⟨rfl, hw3⟩
  obtain ⟨r1_3, c1_3⟩ := keepB hw3 z1_2 r1_2 c1_2
  have z1_3 := isRow_lt r1_3
  have hb3 := hb2.trans (hw3.mono hb2.size)
  have q3 := hb3.size
  clear hw3 r1_2 c1_2 z1_2 hb2
  go_wp2_with fail
  refine (toCoalgebra_any _ _ _ _).mono ?_; rintro _ W4 ⟨rfl, hw4⟩
  have hb4 := hb3.trans (hw4.mono hb3.size)
  have q4 := hb4.size
  clear hw4 hb3
  go_wp2_with fail
  refine (isCocomm_any _ _ _ _ Hf.out).mono ?_; rintro _ W5 ⟨rfl, hw5⟩
  have hb5 := hb4.trans (hw5.mono hb4.size)
  have q5 := hb5.size
  clear hw5 hb4
  go_wp2_with fail
  go_ret
  exact ⟨rfl, (by (repeat (first | exact hb5 | exact Below.refl _ _ | refine Below.alloc ?_ (by first | omega | (simp; try omega)) _ | refine below_setRow ?_ (by omega) _ | refine Below.drew ?_)))⟩

end Go.Proofs.Ytfdejhhgkpdfdaa
