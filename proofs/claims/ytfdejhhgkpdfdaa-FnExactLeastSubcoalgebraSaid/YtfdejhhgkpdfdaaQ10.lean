/- Duals of algebras and coalgebras, cocommutative coalgebras, group-like vectors, unit maps: both programs, and their laws. -/
import Derived.Test.YtfdejhhgkpdfdaaQ9
import Derived.Test.YtfdejhhgkpdfdaaRA
namespace Go.Proofs.Ytfdejhhgkpdfdaa
open Go.RowKit
set_option linter.unusedSimpArgs false
set_option linter.unusedVariables false
attribute [local irreducible] wpQuiet wpQE

theorem tab_row (f : Nat → Int) : row 512 (tab f) = row 512 fun t => tab f t := rfl

/-- the dual's prime, size and cells, or zeros -/
def dualP (ok : Bool) (p : Int) : Int := match ok with | true => p | false => 0
def dualF (ok : Bool) (f : Nat → Int) : Nat → Int := match ok with | true => f | false => zf

set_option maxRecDepth 100000 in
set_option maxHeartbeats 1000000 in
theorem dualCo_any (p n : Int) (f : Nat → Int) (w : World)  :
    Calls Try.prog 89 #[.agg (alg p n f)] w fun e w' => e = .returned (.agg (alg p n (joinUT f (turnF (tab f))))) ∧ Below w.heap.size w w' := by
  go_enter Try.func89, Try.ntmps89
  go_wp2
  refine atomW fun W1 e1 => ?_
  have hb1 : Below w.heap.size w W1 := by rw [e1]; (repeat (first | exact Below.refl _ _ | refine Below.alloc ?_ (by first | omega | (simp; try omega)) _ | refine below_setRow ?_ (by omega) _ | refine Below.drew ?_))
  have q1 := hb1.size
  have R1 : IsRow W1 (w.heap.size) ∧ IsRow W1 (w.heap.size + 1) := by rw [e1]; simp [go_sem]
  obtain ⟨r1_1, r2_1⟩ := R1
  have C1 := (⟨congrArg (blk · (w.heap.size)) e1, congrArg (blk · (w.heap.size + 1)) e1⟩ : _ ∧ _); simp [go_sem] at C1
  obtain ⟨c1_1, c2_1⟩ := C1
  have z1_1 := isRow_lt r1_1; have z2_1 := isRow_lt r2_1
  clear e1
  refine wp_quiet_tail 10 (Below W1.heap.size W1) (by kernel_rfl) (by kernel_rfl) (Below.refl _ _).drew ?_
  simp only [List.take_succ_cons, List.take_zero, List.drop_succ_cons, List.drop_zero]
  iterate 8 (refine q_plain rfl ?_; apply Exists.intro; refine ⟨fun W hW => ?_, ?_⟩; (focus (obtain ⟨x1, y1⟩ := keepB hW z1_1 r1_1 c1_1; obtain ⟨x2, y2⟩ := keepB hW z2_1 r2_1 c2_1; go_simp; first | done | rfl)); simp only [Act.put, List.setIfInBounds_toArray, List.set_cons_zero, List.set_cons_succ])
  (refine q_plain rfl ?_; apply Exists.intro; refine ⟨fun W hW => ?_, ?_⟩; (focus (obtain ⟨x1, y1⟩ := keepB hW z1_1 r1_1 c1_1; obtain ⟨x2, y2⟩ := keepB hW z2_1 r2_1 c2_1; go_simp; (go_at_call 146; exact (turnTable_any _ _).mono fun e w2 ⟨he, hw2⟩ => ⟨he, hW.trans (hw2.mono hW.size)⟩))); simp only [Act.put, List.setIfInBounds_toArray, List.set_cons_zero, List.set_cons_succ])
  iterate 1 (refine q_plain rfl ?_; apply Exists.intro; refine ⟨fun W hW => ?_, ?_⟩; (focus (obtain ⟨x1, y1⟩ := keepB hW z1_1 r1_1 c1_1; obtain ⟨x2, y2⟩ := keepB hW z2_1 r2_1 c2_1; go_simp; first | done | rfl)); simp only [Act.put, List.setIfInBounds_toArray, List.set_cons_zero, List.set_cons_succ])
  refine wpQuiet_nil ?_
  intro W2 hw2
  obtain ⟨r1_2, c1_2⟩ := keepB hw2 z1_1 r1_1 c1_1
  have z1_2 := isRow_lt r1_2
  obtain ⟨r2_2, c2_2⟩ := keepB hw2 z2_1 r2_1 c2_1
  have z2_2 := isRow_lt r2_2
  have hb2 := hb1.trans (hw2.mono hb1.size)
  have q2 := hb2.size
  clear hw2 r1_1 c1_1 z1_1 r2_1 c2_1 z2_1 hb1
  go_wp2_with fail
  refine bodyPost_ret (result_cell rfl aggCoa _ _ (alg p n (joinUT f (turnF (tab f)))) _ rfl ?_ ?_) rfl ⟨rfl, ?_⟩
  · simp [go_sem, r1_2, c1_2, r2_2, c2_2]
  · simp [go_sem, r1_2, c1_2, r2_2, c2_2]
  · repeat (first | exact hb2 | exact Below.refl _ _ | refine Below.alloc ?_ (by first | omega | (simp; try omega)) _ | refine below_setRow ?_ (by omega) _ | refine Below.drew ?_)

set_option maxRecDepth 100000 in
set_option maxHeartbeats 1000000 in
theorem dualAl_any (p n : Int) (f : Nat → Int) (w : World)  :
    Calls Try.prog 91 #[.agg (alg p n f)] w fun e w' => e = .returned (.agg (alg p n (joinUT f (backF (tab f))))) ∧ Below w.heap.size w w' := by
  have HR := Lib.hid (join_congr (p := p) (n := n) (u := f) (turn_turn (tab f)))
  go_enter Try.func91, Try.ntmps91
  go_wp2_with fail
  refine atomC fun W1 e1 => ?_
  have hb1 : Below w.heap.size w W1 := by rw [e1]; (repeat (first | exact Below.refl _ _ | refine Below.alloc ?_ (by first | omega | (simp; try omega)) _ | refine below_setRow ?_ (by omega) _ | refine Below.drew ?_))
  have q1 := hb1.size
  have R1 : IsRow W1 (w.heap.size) ∧ IsRow W1 (w.heap.size + 1) := by rw [e1]; simp [go_sem]
  obtain ⟨r1_1, r2_1⟩ := R1
  have C1 := (⟨congrArg (blk · (w.heap.size)) e1, congrArg (blk · (w.heap.size + 1)) e1⟩ : _ ∧ _); simp [go_sem] at C1
  obtain ⟨c1_1, c2_1⟩ := C1
  have z1_1 := isRow_lt r1_1; have z2_1 := isRow_lt r2_1
  clear e1
  refine (turnTable_any _ _).mono ?_; rintro _ W2 ⟨rfl, hw2⟩
  obtain ⟨r1_2, c1_2⟩ := keepB hw2 z1_1 r1_1 c1_1
  have z1_2 := isRow_lt r1_2
  obtain ⟨r2_2, c2_2⟩ := keepB hw2 z2_1 r2_1 c2_1
  have z2_2 := isRow_lt r2_2
  have hb2 := hb1.trans (hw2.mono hb1.size)
  have q2 := hb2.size
  clear hw2 r1_1 c1_1 z1_1 r2_1 c2_1 z2_1 hb1
  go_wp2_with fail
  refine (turnTable_any _ _).mono ?_; rintro _ W3 ⟨rfl, hw3⟩
  obtain ⟨r1_3, c1_3⟩ := keepB hw3 z1_2 r1_2 c1_2
  have z1_3 := isRow_lt r1_3
  obtain ⟨r2_3, c2_3⟩ := keepB hw3 z2_2 r2_2 c2_2
  have z2_3 := isRow_lt r2_3
  have hb3 := hb2.trans (hw3.mono hb2.size)
  have q3 := hb3.size
  clear hw3 r1_2 c1_2 z1_2 r2_2 c2_2 z2_2 hb2
  have nw1_W3_0 : (w.heap.size) ≠ W3.heap.size := by omega
  have nw2_W3_0 : (w.heap.size + 1) ≠ W3.heap.size := by omega
  go_wp2_with fail
  refine bodyPost_ret (result_cell rfl aggAlg _ _ (alg p n (joinUT f (turnF (turnF (tab f))))) _ rfl ?_ ?_) rfl ⟨by rw [HR.out], ?_⟩
  · simp [go_sem, r1_3, c1_3, r2_3, c2_3, nw1_W3_0, nw2_W3_0]
  · simp [go_sem, r1_3, c1_3, r2_3, c2_3, nw1_W3_0, nw2_W3_0]
  · repeat (first | exact hb3 | exact Below.refl _ _ | refine Below.alloc ?_ (by first | omega | (simp; try omega)) _ | refine below_setRow ?_ (by omega) _ | refine Below.drew ?_)

set_option maxRecDepth 100000 in
set_option maxHeartbeats 1000000 in
theorem dualCoalgebra_any (p n : Int) (f : Nat → Int) (w : World) (hF : Bytes 520 f) :
    Calls Try.prog 37 #[.agg (alg p n f)] w fun e w' => e = .returned (.tuple #[.agg (alg (dualP (algB p n f) p) (dualP (algB p n f) n) (dualF (algB p n f) (joinUT f (turnF (tab f))))), .int .i64 (codeB (algB p n f))]) ∧ Below w.heap.size w w' := by
  have HF := Lib.hid hF; clear hF
  cases hc : algB p n f
  · skip
    go_enter Try.func37, Try.ntmps37
    go_wp2_with fail
    refine atomC fun W1 e1 => ?_
    have hb1 : Below w.heap.size w W1 := by rw [e1]; (repeat (first | exact Below.refl _ _ | refine Below.alloc ?_ (by first | omega | (simp; try omega)) _ | refine below_setRow ?_ (by omega) _ | refine Below.drew ?_))
    have q1 := hb1.size
    have R1 : IsRow W1 (w.heap.size) ∧ IsRow W1 (w.heap.size + 1) := by rw [e1]; simp [go_sem]
    obtain ⟨r1_1, r2_1⟩ := R1
    have C1 := (⟨congrArg (blk · (w.heap.size)) e1, congrArg (blk · (w.heap.size + 1)) e1⟩ : _ ∧ _); simp [go_sem] at C1
    obtain ⟨c1_1, c2_1⟩ := C1
    have z1_1 := isRow_lt r1_1; have z2_1 := isRow_lt r2_1
    clear e1
    refine (isAlgebra_any _ _ _ _ HF.out).mono ?_; rintro _ W2 ⟨rfl, hw2⟩
    obtain ⟨r1_2, c1_2⟩ := keepB hw2 z1_1 r1_1 c1_1
    have z1_2 := isRow_lt r1_2
    obtain ⟨r2_2, c2_2⟩ := keepB hw2 z2_1 r2_1 c2_1
    have z2_2 := isRow_lt r2_2
    have hb2 := hb1.trans (hw2.mono hb1.size)
    have q2 := hb2.size
    clear hw2 r1_1 c1_1 z1_1 r2_1 c2_1 z2_1 hb1
    go_wp2_with fail
    refine bodyPost_ret (result_cell_tmp rfl aggCoa _ _ (alg 0 0 zf) _ _ rfl rfl ?_ ?_) rfl ⟨by rfl, ?_⟩
    · simp [go_sem, r1_2, c1_2, r2_2, c2_2]
    · simp [go_sem, r1_2, c1_2, r2_2, c2_2]
    · repeat (first | exact hb2 | exact Below.refl _ _ | refine Below.alloc ?_ (by first | omega | (simp; try omega)) _ | refine below_setRow ?_ (by omega) _ | refine Below.drew ?_)
  · skip
    go_enter Try.func37, Try.ntmps37
    go_wp2_with fail
    refine atomC fun W3 e3 => ?_
    have hb3 : Below w.heap.size w W3 := by rw [e3]; (repeat (first | exact Below.refl _ _ | refine Below.alloc ?_ (by first | omega | (simp; try omega)) _ | refine below_setRow ?_ (by omega) _ | refine Below.drew ?_))
    have q3 := hb3.size
    have R3 : IsRow W3 (w.heap.size) ∧ IsRow W3 (w.heap.size + 1) := by rw [e3]; simp [go_sem]
    obtain ⟨r1_3, r2_3⟩ := R3
    have C3 := (⟨congrArg (blk · (w.heap.size)) e3, congrArg (blk · (w.heap.size + 1)) e3⟩ : _ ∧ _); simp [go_sem] at C3
    obtain ⟨c1_3, c2_3⟩ := C3
    have z1_3 := isRow_lt r1_3; have z2_3 := isRow_lt r2_3
    clear e3
    refine (isAlgebra_any _ _ _ _ HF.out).mono ?_; rintro _ W4 ⟨rfl, hw4⟩
    obtain ⟨r1_4, c1_4⟩ := keepB hw4 z1_3 r1_3 c1_3
    have z1_4 := isRow_lt r1_4
    obtain ⟨r2_4, c2_4⟩ := keepB hw4 z2_3 r2_3 c2_3
    have z2_4 := isRow_lt r2_4
    have hb4 := hb3.trans (hw4.mono hb3.size)
    have q4 := hb4.size
    clear hw4 r1_3 c1_3 z1_3 r2_3 c2_3 z2_3 hb3
    go_wp2_with fail
    refine (dualCo_any _ _ _ _).mono ?_; rintro _ W5 ⟨rfl, hw5⟩
    obtain ⟨r2_5, c2_5⟩ := keepB hw5 z2_4 r2_4 c2_4
    have z2_5 := isRow_lt r2_5
    have hb5 := hb4.trans (hw5.mono hb4.size)
    have q5 := hb5.size
    clear hw5 r2_4 c2_4 z2_4 hb4
    go_wp2_with fail
    refine bodyPost_ret (result_cell_tmp rfl aggCoa _ _ (alg p n (joinUT f (turnF (tab f)))) _ _ rfl rfl ?_ ?_) rfl ⟨by rfl, ?_⟩
    · simp [go_sem, r2_5, c2_5]
    · simp [go_sem, r2_5, c2_5]
    · repeat (first | exact hb5 | exact Below.refl _ _ | refine Below.alloc ?_ (by first | omega | (simp; try omega)) _ | refine below_setRow ?_ (by omega) _ | refine Below.drew ?_)

set_option maxRecDepth 100000 in
set_option maxHeartbeats 1000000 in
theorem specDualCoalgebra_any (p n : Int) (f : Nat → Int) (w : World) (hF : Bytes 520 f) :
    Calls Try.prog 35 #[.agg (alg p n f)] w fun e w' => e = .returned (.tuple #[.agg (alg (dualP (algB p n f) p) (dualP (algB p n f) n) (dualF (algB p n f) (joinUT f (turnF (tab f))))), .int .i64 (codeB (algB p n f))]) ∧ Below w.heap.size w w' := by
  have HF := Lib.hid hF; clear hF
  cases hc : algB p n f
  · skip
    go_enter Try.func35, Try.ntmps35
    go_wp2_with fail
    refine atomC fun W1 e1 => ?_
    have hb1 : Below w.heap.size w W1 := by rw [e1]; (repeat (first | exact Below.refl _ _ | refine Below.alloc ?_ (by first | omega | (simp; try omega)) _ | refine below_setRow ?_ (by omega) _ | refine Below.drew ?_))
    have q1 := hb1.size
    have R1 : IsRow W1 (w.heap.size) ∧ IsRow W1 (w.heap.size + 1) := by rw [e1]; simp [go_sem]
    obtain ⟨r1_1, r2_1⟩ := R1
    have C1 := (⟨congrArg (blk · (w.heap.size)) e1, congrArg (blk · (w.heap.size + 1)) e1⟩ : _ ∧ _); simp [go_sem] at C1
    obtain ⟨c1_1, c2_1⟩ := C1
    have z1_1 := isRow_lt r1_1; have z2_1 := isRow_lt r2_1
    clear e1
    refine (l01Is_any _ _ _ _ HF.out).mono ?_; rintro _ W2 ⟨rfl, hw2⟩
    obtain ⟨r1_2, c1_2⟩ := keepB hw2 z1_1 r1_1 c1_1
    have z1_2 := isRow_lt r1_2
    obtain ⟨r2_2, c2_2⟩ := keepB hw2 z2_1 r2_1 c2_1
    have z2_2 := isRow_lt r2_2
    have hb2 := hb1.trans (hw2.mono hb1.size)
    have q2 := hb2.size
    clear hw2 r1_1 c1_1 z1_1 r2_1 c2_1 z2_1 hb1
    go_wp2_with fail
    refine bodyPost_ret (result_cell_tmp rfl aggCoa _ _ (alg 0 0 zf) _ _ rfl rfl ?_ ?_) rfl ⟨by rfl, ?_⟩
    · simp [go_sem, r1_2, c1_2, r2_2, c2_2]
    · simp [go_sem, r1_2, c1_2, r2_2, c2_2]
    · repeat (first | exact hb2 | exact Below.refl _ _ | refine Below.alloc ?_ (by first | omega | (simp; try omega)) _ | refine below_setRow ?_ (by omega) _ | refine Below.drew ?_)
  · skip
    have HR := Lib.hid (join_congr (p := p) (n := n) (u := f) (back_back (tab f)))
    go_enter Try.func35, Try.ntmps35
    go_wp2_with fail
    refine atomC fun W3 e3 => ?_
    have hb3 : Below w.heap.size w W3 := by rw [e3]; (repeat (first | exact Below.refl _ _ | refine Below.alloc ?_ (by first | omega | (simp; try omega)) _ | refine below_setRow ?_ (by omega) _ | refine Below.drew ?_))
    have q3 := hb3.size
    have R3 : IsRow W3 (w.heap.size) ∧ IsRow W3 (w.heap.size + 1) := by rw [e3]; simp [go_sem]
    obtain ⟨r1_3, r2_3⟩ := R3
    have C3 := (⟨congrArg (blk · (w.heap.size)) e3, congrArg (blk · (w.heap.size + 1)) e3⟩ : _ ∧ _); simp [go_sem] at C3
    obtain ⟨c1_3, c2_3⟩ := C3
    have z1_3 := isRow_lt r1_3; have z2_3 := isRow_lt r2_3
    clear e3
    refine (l01Is_any _ _ _ _ HF.out).mono ?_; rintro _ W4 ⟨rfl, hw4⟩
    obtain ⟨r1_4, c1_4⟩ := keepB hw4 z1_3 r1_3 c1_3
    have z1_4 := isRow_lt r1_4
    obtain ⟨r2_4, c2_4⟩ := keepB hw4 z2_3 r2_3 c2_3
    have z2_4 := isRow_lt r2_4
    have hb4 := hb3.trans (hw4.mono hb3.size)
    have q4 := hb4.size
    clear hw4 r1_3 c1_3 z1_3 r2_3 c2_3 z2_3 hb3
    go_wp2
    refine wp_quiet_tail 11 (Below W4.heap.size W4) (by kernel_rfl) (by kernel_rfl) (Below.refl _ _).drew ?_
    simp only [List.take_succ_cons, List.take_zero, List.drop_succ_cons, List.drop_zero]
    iterate 8 (refine q_plain rfl ?_; apply Exists.intro; refine ⟨fun W hW => ?_, ?_⟩; (focus (obtain ⟨x1, y1⟩ := keepB hW z1_4 r1_4 c1_4; obtain ⟨x2, y2⟩ := keepB hW z2_4 r2_4 c2_4; go_simp; first | done | rfl)); simp only [Act.put, List.setIfInBounds_toArray, List.set_cons_zero, List.set_cons_succ])
    (refine q_plain rfl ?_; apply Exists.intro; refine ⟨fun W hW => ?_, ?_⟩; (focus (obtain ⟨x1, y1⟩ := keepB hW z1_4 r1_4 c1_4; obtain ⟨x2, y2⟩ := keepB hW z2_4 r2_4 c2_4; go_simp; (go_at_call 87; exact (l02Turned_any _ _).mono fun e w2 ⟨he, hw2⟩ => ⟨he, hW.trans (hw2.mono hW.size)⟩))); simp only [Act.put, List.setIfInBounds_toArray, List.set_cons_zero, List.set_cons_succ])
    (refine q_plain rfl ?_; apply Exists.intro; refine ⟨fun W hW => ?_, ?_⟩; (focus (obtain ⟨x1, y1⟩ := keepB hW z1_4 r1_4 c1_4; obtain ⟨x2, y2⟩ := keepB hW z2_4 r2_4 c2_4; go_simp; (go_at_call 87; exact (l02Turned_any _ _).mono fun e w2 ⟨he, hw2⟩ => ⟨he, hW.trans (hw2.mono hW.size)⟩))); simp only [Act.put, List.setIfInBounds_toArray, List.set_cons_zero, List.set_cons_succ])
    iterate 1 (refine q_plain rfl ?_; apply Exists.intro; refine ⟨fun W hW => ?_, ?_⟩; (focus (obtain ⟨x1, y1⟩ := keepB hW z1_4 r1_4 c1_4; obtain ⟨x2, y2⟩ := keepB hW z2_4 r2_4 c2_4; go_simp; first | done | rfl)); simp only [Act.put, List.setIfInBounds_toArray, List.set_cons_zero, List.set_cons_succ])
    refine wpQuiet_nil ?_
    intro W5 hw5
    obtain ⟨r1_5, c1_5⟩ := keepB hw5 z1_4 r1_4 c1_4
    have z1_5 := isRow_lt r1_5
    obtain ⟨r2_5, c2_5⟩ := keepB hw5 z2_4 r2_4 c2_4
    have z2_5 := isRow_lt r2_5
    have hb5 := hb4.trans (hw5.mono hb4.size)
    have q5 := hb5.size
    clear hw5 r1_4 c1_4 z1_4 r2_4 c2_4 z2_4 hb4
    go_wp2_with fail
    refine bodyPost_ret (result_cell_tmp rfl aggCoa _ _ (alg p n (joinUT f (backF (backF (tab f))))) _ _ rfl rfl ?_ ?_) rfl ⟨by rw [HR.out]; rfl, ?_⟩
    · simp [go_sem, r1_5, c1_5, r2_5, c2_5]
    · simp [go_sem, r1_5, c1_5, r2_5, c2_5]
    · repeat (first | exact hb5 | exact Below.refl _ _ | refine Below.alloc ?_ (by first | omega | (simp; try omega)) _ | refine below_setRow ?_ (by omega) _ | refine Below.drew ?_)

set_option maxRecDepth 100000 in
set_option maxHeartbeats 1000000 in
theorem dualAlgebra_any (p n : Int) (f : Nat → Int) (w : World) (hF : Bytes 520 f) :
    Calls Try.prog 40 #[.agg (alg p n f)] w fun e w' => e = .returned (.tuple #[.agg (alg (dualP (coB p n f) p) (dualP (coB p n f) n) (dualF (coB p n f) (joinUT f (backF (tab f))))), .int .i64 (codeB (coB p n f))]) ∧ Below w.heap.size w w' := by
  have HF := Lib.hid hF; clear hF
  cases hc : coB p n f
  · skip
    go_enter Try.func40, Try.ntmps40
    go_wp2_with fail
    refine atomC fun W1 e1 => ?_
    have hb1 : Below w.heap.size w W1 := by rw [e1]; (repeat (first | exact Below.refl _ _ | refine Below.alloc ?_ (by first | omega | (simp; try omega)) _ | refine below_setRow ?_ (by omega) _ | refine Below.drew ?_))
    have q1 := hb1.size
    have R1 : IsRow W1 (w.heap.size) ∧ IsRow W1 (w.heap.size + 1) := by rw [e1]; simp [go_sem]
    obtain ⟨r1_1, r2_1⟩ := R1
    have C1 := (⟨congrArg (blk · (w.heap.size)) e1, congrArg (blk · (w.heap.size + 1)) e1⟩ : _ ∧ _); simp [go_sem] at C1
    obtain ⟨c1_1, c2_1⟩ := C1
    have z1_1 := isRow_lt r1_1; have z2_1 := isRow_lt r2_1
    clear e1
    refine (isCo_any _ _ _ _ HF.out).mono ?_; rintro _ W2 ⟨rfl, hw2⟩
    obtain ⟨r1_2, c1_2⟩ := keepB hw2 z1_1 r1_1 c1_1
    have z1_2 := isRow_lt r1_2
    obtain ⟨r2_2, c2_2⟩ := keepB hw2 z2_1 r2_1 c2_1
    have z2_2 := isRow_lt r2_2
    have hb2 := hb1.trans (hw2.mono hb1.size)
    have q2 := hb2.size
    clear hw2 r1_1 c1_1 z1_1 r2_1 c2_1 z2_1 hb1
    go_wp2_with fail
    refine bodyPost_ret (result_cell_tmp rfl aggAlg _ _ (alg 0 0 zf) _ _ rfl rfl ?_ ?_) rfl ⟨by rfl, ?_⟩
    · simp [go_sem, r1_2, c1_2, r2_2, c2_2]
    · simp [go_sem, r1_2, c1_2, r2_2, c2_2]
    · repeat (first | exact hb2 | exact Below.refl _ _ | refine Below.alloc ?_ (by first | omega | (simp; try omega)) _ | refine below_setRow ?_ (by omega) _ | refine Below.drew ?_)
  · skip
    go_enter Try.func40, Try.ntmps40
    go_wp2_with fail
    refine atomC fun W3 e3 => ?_
    have hb3 : Below w.heap.size w W3 := by rw [e3]; (repeat (first | exact Below.refl _ _ | refine Below.alloc ?_ (by first | omega | (simp; try omega)) _ | refine below_setRow ?_ (by omega) _ | refine Below.drew ?_))
    have q3 := hb3.size
    have R3 : IsRow W3 (w.heap.size) ∧ IsRow W3 (w.heap.size + 1) := by rw [e3]; simp [go_sem]
    obtain ⟨r1_3, r2_3⟩ := R3
    have C3 := (⟨congrArg (blk · (w.heap.size)) e3, congrArg (blk · (w.heap.size + 1)) e3⟩ : _ ∧ _); simp [go_sem] at C3
    obtain ⟨c1_3, c2_3⟩ := C3
    have z1_3 := isRow_lt r1_3; have z2_3 := isRow_lt r2_3
    clear e3
    refine (isCo_any _ _ _ _ HF.out).mono ?_; rintro _ W4 ⟨rfl, hw4⟩
    obtain ⟨r1_4, c1_4⟩ := keepB hw4 z1_3 r1_3 c1_3
    have z1_4 := isRow_lt r1_4
    obtain ⟨r2_4, c2_4⟩ := keepB hw4 z2_3 r2_3 c2_3
    have z2_4 := isRow_lt r2_4
    have hb4 := hb3.trans (hw4.mono hb3.size)
    have q4 := hb4.size
    clear hw4 r1_3 c1_3 z1_3 r2_3 c2_3 z2_3 hb3
    go_wp2_with fail
    refine (dualAl_any _ _ _ _).mono ?_; rintro _ W5 ⟨rfl, hw5⟩
    obtain ⟨r2_5, c2_5⟩ := keepB hw5 z2_4 r2_4 c2_4
    have z2_5 := isRow_lt r2_5
    have hb5 := hb4.trans (hw5.mono hb4.size)
    have q5 := hb5.size
    clear hw5 r2_4 c2_4 z2_4 hb4
    go_wp2_with fail
    refine bodyPost_ret (result_cell_tmp rfl aggAlg _ _ (alg p n (joinUT f (backF (tab f)))) _ _ rfl rfl ?_ ?_) rfl ⟨by rfl, ?_⟩
    · simp [go_sem, r2_5, c2_5]
    · simp [go_sem, r2_5, c2_5]
    · repeat (first | exact hb5 | exact Below.refl _ _ | refine Below.alloc ?_ (by first | omega | (simp; try omega)) _ | refine below_setRow ?_ (by omega) _ | refine Below.drew ?_)

set_option maxRecDepth 100000 in
set_option maxHeartbeats 1000000 in
theorem specDualAlgebra_any (p n : Int) (f : Nat → Int) (w : World) (hF : Bytes 520 f) :
    Calls Try.prog 39 #[.agg (alg p n f)] w fun e w' => e = .returned (.tuple #[.agg (alg (dualP (coB p n f) p) (dualP (coB p n f) n) (dualF (coB p n f) (joinUT f (backF (tab f))))), .int .i64 (codeB (coB p n f))]) ∧ Below w.heap.size w w' := by
  have HF := Lib.hid hF; clear hF
  cases hc : coB p n f
  · skip
    go_enter Try.func39, Try.ntmps39
    go_wp2_with fail
    refine atomC fun W1 e1 => ?_
    have hb1 : Below w.heap.size w W1 := by rw [e1]; (repeat (first | exact Below.refl _ _ | refine Below.alloc ?_ (by first | omega | (simp; try omega)) _ | refine below_setRow ?_ (by omega) _ | refine Below.drew ?_))
    have q1 := hb1.size
    have R1 : IsRow W1 (w.heap.size) ∧ IsRow W1 (w.heap.size + 1) := by rw [e1]; simp [go_sem]
    obtain ⟨r1_1, r2_1⟩ := R1
    have C1 := (⟨congrArg (blk · (w.heap.size)) e1, congrArg (blk · (w.heap.size + 1)) e1⟩ : _ ∧ _); simp [go_sem] at C1
    obtain ⟨c1_1, c2_1⟩ := C1
    have z1_1 := isRow_lt r1_1; have z2_1 := isRow_lt r2_1
    clear e1
    refine (l02Is_any _ _ _ _ HF.out).mono ?_; rintro _ W2 ⟨rfl, hw2⟩
    obtain ⟨r1_2, c1_2⟩ := keepB hw2 z1_1 r1_1 c1_1
    have z1_2 := isRow_lt r1_2
    obtain ⟨r2_2, c2_2⟩ := keepB hw2 z2_1 r2_1 c2_1
    have z2_2 := isRow_lt r2_2
    have hb2 := hb1.trans (hw2.mono hb1.size)
    have q2 := hb2.size
    clear hw2 r1_1 c1_1 z1_1 r2_1 c2_1 z2_1 hb1
    go_wp2_with fail
    refine bodyPost_ret (result_cell_tmp rfl aggAlg _ _ (alg 0 0 zf) _ _ rfl rfl ?_ ?_) rfl ⟨by rfl, ?_⟩
    · simp [go_sem, r1_2, c1_2, r2_2, c2_2]
    · simp [go_sem, r1_2, c1_2, r2_2, c2_2]
    · repeat (first | exact hb2 | exact Below.refl _ _ | refine Below.alloc ?_ (by first | omega | (simp; try omega)) _ | refine below_setRow ?_ (by omega) _ | refine Below.drew ?_)
  · skip
    go_enter Try.func39, Try.ntmps39
    go_wp2_with fail
    refine atomC fun W3 e3 => ?_
    have hb3 : Below w.heap.size w W3 := by rw [e3]; (repeat (first | exact Below.refl _ _ | refine Below.alloc ?_ (by first | omega | (simp; try omega)) _ | refine below_setRow ?_ (by omega) _ | refine Below.drew ?_))
    have q3 := hb3.size
    have R3 : IsRow W3 (w.heap.size) ∧ IsRow W3 (w.heap.size + 1) := by rw [e3]; simp [go_sem]
    obtain ⟨r1_3, r2_3⟩ := R3
    have C3 := (⟨congrArg (blk · (w.heap.size)) e3, congrArg (blk · (w.heap.size + 1)) e3⟩ : _ ∧ _); simp [go_sem] at C3
    obtain ⟨c1_3, c2_3⟩ := C3
    have z1_3 := isRow_lt r1_3; have z2_3 := isRow_lt r2_3
    clear e3
    refine (l02Is_any _ _ _ _ HF.out).mono ?_; rintro _ W4 ⟨rfl, hw4⟩
    obtain ⟨r1_4, c1_4⟩ := keepB hw4 z1_3 r1_3 c1_3
    have z1_4 := isRow_lt r1_4
    obtain ⟨r2_4, c2_4⟩ := keepB hw4 z2_3 r2_3 c2_3
    have z2_4 := isRow_lt r2_4
    have hb4 := hb3.trans (hw4.mono hb3.size)
    have q4 := hb4.size
    clear hw4 r1_3 c1_3 z1_3 r2_3 c2_3 z2_3 hb3
    go_wp2
    refine wp_quiet_tail 10 (Below W4.heap.size W4) (by kernel_rfl) (by kernel_rfl) (Below.refl _ _).drew ?_
    simp only [List.take_succ_cons, List.take_zero, List.drop_succ_cons, List.drop_zero]
    iterate 8 (refine q_plain rfl ?_; apply Exists.intro; refine ⟨fun W hW => ?_, ?_⟩; (focus (obtain ⟨x1, y1⟩ := keepB hW z1_4 r1_4 c1_4; obtain ⟨x2, y2⟩ := keepB hW z2_4 r2_4 c2_4; go_simp; first | done | rfl)); simp only [Act.put, List.setIfInBounds_toArray, List.set_cons_zero, List.set_cons_succ])
    (refine q_plain rfl ?_; apply Exists.intro; refine ⟨fun W hW => ?_, ?_⟩; (focus (obtain ⟨x1, y1⟩ := keepB hW z1_4 r1_4 c1_4; obtain ⟨x2, y2⟩ := keepB hW z2_4 r2_4 c2_4; go_simp; (go_at_call 87; exact (l02Turned_any _ _).mono fun e w2 ⟨he, hw2⟩ => ⟨he, hW.trans (hw2.mono hW.size)⟩))); simp only [Act.put, List.setIfInBounds_toArray, List.set_cons_zero, List.set_cons_succ])
    iterate 1 (refine q_plain rfl ?_; apply Exists.intro; refine ⟨fun W hW => ?_, ?_⟩; (focus (obtain ⟨x1, y1⟩ := keepB hW z1_4 r1_4 c1_4; obtain ⟨x2, y2⟩ := keepB hW z2_4 r2_4 c2_4; go_simp; first | done | rfl)); simp only [Act.put, List.setIfInBounds_toArray, List.set_cons_zero, List.set_cons_succ])
    refine wpQuiet_nil ?_
    intro W5 hw5
    obtain ⟨r1_5, c1_5⟩ := keepB hw5 z1_4 r1_4 c1_4
    have z1_5 := isRow_lt r1_5
    obtain ⟨r2_5, c2_5⟩ := keepB hw5 z2_4 r2_4 c2_4
    have z2_5 := isRow_lt r2_5
    have hb5 := hb4.trans (hw5.mono hb4.size)
    have q5 := hb5.size
    clear hw5 r1_4 c1_4 z1_4 r2_4 c2_4 z2_4 hb4
    go_wp2_with fail
    refine bodyPost_ret (result_cell_tmp rfl aggAlg _ _ (alg p n (joinUT f (backF (tab f)))) _ _ rfl rfl ?_ ?_) rfl ⟨by rfl, ?_⟩
    · simp [go_sem, r1_5, c1_5, r2_5, c2_5]
    · simp [go_sem, r1_5, c1_5, r2_5, c2_5]
    · repeat (first | exact hb5 | exact Below.refl _ _ | refine Below.alloc ?_ (by first | omega | (simp; try omega)) _ | refine below_setRow ?_ (by omega) _ | refine Below.drew ?_)

set_option maxRecDepth 100000 in
set_option maxHeartbeats 2000000 in
theorem lawDualCoalgebra (fp fn : Int) (f : Nat → Int) (w : World) (_wfp : (Lit.int .i64 fp).wf = true) (_wfn : (Lit.int .i64 fn).wf = true) (hf : Bytes 520 f) :
    Calls Try.prog 7 #[.agg (alg fp fn f)] w fun e w' => e = .returned (.bool true) ∧ Below w.heap.size w w' := by
  have Hf := Lib.hid hf; clear hf
  go_enter Try.func7, Try.ntmps7
  go_wp2_with fail
  refine atomC fun W1 e1 => ?_
  have hb1 : Below w.heap.size w W1 := by rw [e1]; (repeat (first | exact Below.refl _ _ | refine Below.alloc ?_ (by first | omega | (simp; try omega)) _ | refine below_setRow ?_ (by omega) _ | refine Below.drew ?_))
  have q1 := hb1.size
  have r1_1 : IsRow W1 (w.heap.size) := by rw [e1]; simp [go_sem]
  have c1_1 := congrArg (fun x => blk x (w.heap.size)) e1; simp [go_sem] at c1_1
  have z1_1 := isRow_lt r1_1
  clear e1
  refine (toAlgebra_any _ _ _ _).mono ?_; rintro _ W2 ⟨rfl, hw2⟩
  obtain ⟨r1_2, c1_2⟩ := keepB hw2 z1_1 r1_1 c1_1
  have z1_2 := isRow_lt r1_2
  have hb2 := hb1.trans (hw2.mono hb1.size)
  have q2 := hb2.size
  clear hw2 r1_1 c1_1 z1_1 hb1
  go_wp2_with fail
  refine (specDualCoalgebra_any _ _ _ _ Hf.out).mono ?_; rintro _ W3 ⟨rfl, hw3⟩
  obtain ⟨r1_3, c1_3⟩ := keepB hw3 z1_2 r1_2 c1_2
  have z1_3 := isRow_lt r1_3
  have hb3 := hb2.trans (hw3.mono hb2.size)
  have q3 := hb3.size
  clear hw3 r1_2 c1_2 z1_2 hb2
  go_wp2_with fail
  refine atomC fun W4 e4 => ?_
  have hb4 : Below w.heap.size w W4 := by rw [e4]; (repeat (first | exact hb3 | exact Below.refl _ _ | refine Below.alloc ?_ (by first | omega | (simp; try omega)) _ | refine below_setRow ?_ (by omega) _ | refine Below.drew ?_))
  have q4 := hb4.size
  have r3_4 : IsRow W4 (W3.heap.size) := by rw [e4]; simp [go_sem, r1_3]
  have c3_4 := congrArg (fun x => blk x (W3.heap.size)) e4; simp [go_sem, r1_3] at c3_4
  have z3_4 := isRow_lt r3_4
  clear e4 hb3
  refine (toAlgebra_any _ _ _ _).mono ?_; rintro _ W5 ⟨rfl, hw5⟩
  obtain ⟨r3_5, c3_5⟩ := keepB hw5 z3_4 r3_4 c3_4
  have z3_5 := isRow_lt r3_5
  have hb5 := hb4.trans (hw5.mono hb4.size)
  have q5 := hb5.size
  clear hw5 r3_4 c3_4 z3_4 hb4
  go_wp2_with fail
  refine (dualCoalgebra_any _ _ _ _ Hf.out).mono ?_; rintro _ W6 ⟨rfl, hw6⟩
  obtain ⟨r3_6, c3_6⟩ := keepB hw6 z3_5 r3_5 c3_5
  have z3_6 := isRow_lt r3_6
  have hb6 := hb5.trans (hw6.mono hb5.size)
  have q6 := hb6.size
  clear hw6 r3_5 c3_5 z3_5 hb5
  go_wp2_with fail
  refine atomC fun W7 e7 => ?_
  have hb7 : Below w.heap.size w W7 := by rw [e7]; (repeat (first | exact hb6 | exact Below.refl _ _ | refine Below.alloc ?_ (by first | omega | (simp; try omega)) _ | refine below_setRow ?_ (by omega) _ | refine Below.drew ?_))
  have q7 := hb7.size
  clear e7 hb6
  refine (eqCoalgebra_same _ _ _ _).mono ?_; rintro _ W8 ⟨rfl, hw8⟩
  have hb8 := hb7.trans (hw8.mono hb7.size)
  have q8 := hb8.size
  clear hw8 hb7
  go_wp2_with fail
  go_ret
  exact ⟨rfl, (by (repeat (first | exact hb8 | exact Below.refl _ _ | refine Below.alloc ?_ (by first | omega | (simp; try omega)) _ | refine below_setRow ?_ (by omega) _ | refine Below.drew ?_)))⟩

set_option maxRecDepth 100000 in
set_option maxHeartbeats 2000000 in
theorem lawDualAlgebra (fp fn : Int) (f : Nat → Int) (w : World) (_wfp : (Lit.int .i64 fp).wf = true) (_wfn : (Lit.int .i64 fn).wf = true) (hf : Bytes 520 f) :
    Calls Try.prog 8 #[.agg (alg fp fn f)] w fun e w' => e = .returned (.bool true) ∧ Below w.heap.size w w' := by
  have Hf := Lib.hid hf; clear hf
  go_enter Try.func8, Try.ntmps8
  go_wp2_with fail
  refine atomC fun W1 e1 => ?_
  have hb1 : Below w.heap.size w W1 := by rw [e1]; (repeat (first | exact Below.refl _ _ | refine Below.alloc ?_ (by first | omega | (simp; try omega)) _ | refine below_setRow ?_ (by omega) _ | refine Below.drew ?_))
  have q1 := hb1.size
  have r1_1 : IsRow W1 (w.heap.size) := by rw [e1]; simp [go_sem]
  have c1_1 := congrArg (fun x => blk x (w.heap.size)) e1; simp [go_sem] at c1_1
  have z1_1 := isRow_lt r1_1
  clear e1
  refine (toCoalgebra_any _ _ _ _).mono ?_; rintro _ W2 ⟨rfl, hw2⟩
  obtain ⟨r1_2, c1_2⟩ := keepB hw2 z1_1 r1_1 c1_1
  have z1_2 := isRow_lt r1_2
  have hb2 := hb1.trans (hw2.mono hb1.size)
  have q2 := hb2.size
  clear hw2 r1_1 c1_1 z1_1 hb1
  go_wp2_with fail
  refine (specDualAlgebra_any _ _ _ _ Hf.out).mono ?_; rintro _ W3 ⟨rfl, hw3⟩
  obtain ⟨r1_3, c1_3⟩ := keepB hw3 z1_2 r1_2 c1_2
  have z1_3 := isRow_lt r1_3
  have hb3 := hb2.trans (hw3.mono hb2.size)
  have q3 := hb3.size
  clear hw3 r1_2 c1_2 z1_2 hb2
  go_wp2_with fail
  refine atomC fun W4 e4 => ?_
  have hb4 : Below w.heap.size w W4 := by rw [e4]; (repeat (first | exact hb3 | exact Below.refl _ _ | refine Below.alloc ?_ (by first | omega | (simp; try omega)) _ | refine below_setRow ?_ (by omega) _ | refine Below.drew ?_))
  have q4 := hb4.size
  have r3_4 : IsRow W4 (W3.heap.size) := by rw [e4]; simp [go_sem, r1_3]
  have c3_4 := congrArg (fun x => blk x (W3.heap.size)) e4; simp [go_sem, r1_3] at c3_4
  have z3_4 := isRow_lt r3_4
  clear e4 hb3
  refine (toCoalgebra_any _ _ _ _).mono ?_; rintro _ W5 ⟨rfl, hw5⟩
  obtain ⟨r3_5, c3_5⟩ := keepB hw5 z3_4 r3_4 c3_4
  have z3_5 := isRow_lt r3_5
  have hb5 := hb4.trans (hw5.mono hb4.size)
  have q5 := hb5.size
  clear hw5 r3_4 c3_4 z3_4 hb4
  go_wp2_with fail
  refine (dualAlgebra_any _ _ _ _ Hf.out).mono ?_; rintro _ W6 ⟨rfl, hw6⟩
  obtain ⟨r3_6, c3_6⟩ := keepB hw6 z3_5 r3_5 c3_5
  have z3_6 := isRow_lt r3_6
  have hb6 := hb5.trans (hw6.mono hb5.size)
  have q6 := hb6.size
  clear hw6 r3_5 c3_5 z3_5 hb5
  go_wp2_with fail
  refine atomC fun W7 e7 => ?_
  have hb7 : Below w.heap.size w W7 := by rw [e7]; (repeat (first | exact hb6 | exact Below.refl _ _ | refine Below.alloc ?_ (by first | omega | (simp; try omega)) _ | refine below_setRow ?_ (by omega) _ | refine Below.drew ?_))
  have q7 := hb7.size
  clear e7 hb6
  refine (eqAlgebra_same _ _ _ _).mono ?_; rintro _ W8 ⟨rfl, hw8⟩
  have hb8 := hb7.trans (hw8.mono hb7.size)
  have q8 := hb8.size
  clear hw8 hb7
  go_wp2_with fail
  go_ret
  exact ⟨rfl, (by (repeat (first | exact hb8 | exact Below.refl _ _ | refine Below.alloc ?_ (by first | omega | (simp; try omega)) _ | refine below_setRow ?_ (by omega) _ | refine Below.drew ?_)))⟩

/-! ### group-like vectors -/
def grpB (p : Int) (f v : Nat → Int) : Bool := decide (dotF 8 f v % p = 1) && segEq 0 64 (copF p f v 8) (outF p v v 8)
theorem grp_no {p : Int} {f v : Nat → Int} (h : ¬ dotF 8 f v % p = 1) : grpB p f v = false := by unfold grpB; rw [decide_eq_false h]; rfl
theorem grp_yes {p : Int} {f v : Nat → Int} (h : dotF 8 f v % p = 1) : grpB p f v = segEq 0 64 (copF p f v 8) (outF p v v 8) := by unfold grpB; rw [decide_eq_true h]; rfl
theorem segEq_left {n : Nat} {f g h : Nat → Int} (e : ∀ t, t < n → f t = g t) : segEq 0 n f h = segEq 0 n g h := by
  rw [Bool.eq_iff_iff, segEq_iff, segEq_iff]
  constructor <;> (intro a i hi; have := a i hi; rw [Nat.zero_add] at this ⊢; first | rw [← e i hi]; exact this | rw [e i hi]; exact this)

set_option maxRecDepth 100000 in
set_option maxHeartbeats 1000000 in
theorem isGrp_any (p n : Int) (f v : Nat → Int) (w : World) (hp : 0 < p) (hp' : p ≤ 255) (hF : Bytes 520 f) (hv : Bytes 8 v) :
    Calls Try.prog 97 #[.agg (alg p n f), .agg (row 8 v)] w fun e w' => e = .returned (.bool (grpB p f v)) ∧ Below w.heap.size w w' := by
  have HF := Lib.hid hF; clear hF
  have Hv := Lib.hid hv; clear hv
  by_cases hd : dotF 8 f v % p = 1
  · skip
    have H := Lib.hid (grp_yes hd)
    go_enter Try.func97, Try.ntmps97
    go_wp2
    refine atomW fun W1 e1 => ?_
    have hb1 : Below w.heap.size w W1 := by rw [e1]; (repeat (first | exact Below.refl _ _ | refine Below.alloc ?_ (by first | omega | (simp; try omega)) _ | refine below_setRow ?_ (by omega) _ | refine Below.drew ?_))
    have q1 := hb1.size
    have R1 : IsRow W1 (w.heap.size) ∧ IsRow W1 (w.heap.size + 1) := by rw [e1]; simp [go_sem]
    obtain ⟨r2_1, r3_1⟩ := R1
    have C1 := (⟨congrArg (blk · (w.heap.size)) e1, congrArg (blk · (w.heap.size + 1)) e1⟩ : _ ∧ _); simp [go_sem] at C1
    obtain ⟨c2_1, c3_1⟩ := C1
    have z2_1 := isRow_lt r2_1; have z3_1 := isRow_lt r3_1
    clear e1
    refine wp_quiet_all (Below W1.heap.size W1) (by kernel_rfl) (by kernel_rfl) (Below.refl _ _).drew ?_
    iterate 5 (refine q_plain rfl ?_; apply Exists.intro; refine ⟨fun W hW => ?_, ?_⟩; (focus (obtain ⟨x2, y2⟩ := keepB hW z2_1 r2_1 c2_1; obtain ⟨x3, y3⟩ := keepB hW z3_1 r3_1 c3_1; go_simp; first | done | rfl)); simp only [Act.put, List.setIfInBounds_toArray, List.set_cons_zero, List.set_cons_succ])
    (refine q_plain rfl ?_; apply Exists.intro; refine ⟨fun W hW => ?_, ?_⟩; (focus (obtain ⟨x2, y2⟩ := keepB hW z2_1 r2_1 c2_1; obtain ⟨x3, y3⟩ := keepB hW z3_1 r3_1 c3_1; go_simp; (go_at_call 85; exact (formValue_any _ _ _ _ hp hp' (unit_bytes HF.out) Hv.out).mono fun e w2 ⟨he, hw2⟩ => ⟨he, hW.trans (hw2.mono hW.size)⟩))); simp only [Act.put, List.setIfInBounds_toArray, List.set_cons_zero, List.set_cons_succ])
    iterate 2 (refine q_plain rfl ?_; apply Exists.intro; refine ⟨fun W hW => ?_, ?_⟩; (focus (obtain ⟨x2, y2⟩ := keepB hW z2_1 r2_1 c2_1; obtain ⟨x3, y3⟩ := keepB hW z3_1 r3_1 c3_1; go_simp; first | done | rfl)); simp only [Act.put, List.setIfInBounds_toArray, List.set_cons_zero, List.set_cons_succ])
    iterate 2 (refine q_want (by kernel_rfl) ?_; apply Exists.intro; refine ⟨fun W hW => ?_, ?_⟩; (focus (obtain ⟨x2, y2⟩ := keepB hW z2_1 r2_1 c2_1; obtain ⟨x3, y3⟩ := keepB hW z3_1 r3_1 c3_1; go_simp; first | done | rfl)); simp only [Act.put, List.setIfInBounds_toArray, List.set_cons_zero, List.set_cons_succ])
    (refine q_want (by kernel_rfl) ?_; apply Exists.intro; refine ⟨fun W hW => ?_, ?_⟩; (focus (obtain ⟨x2, y2⟩ := keepB hW z2_1 r2_1 c2_1; obtain ⟨x3, y3⟩ := keepB hW z3_1 r3_1 c3_1; go_simp; (go_at_call 83; exact (coproduct_any _ _ _ _ _ hp hp' HF.out Hv.out).mono fun e w2 ⟨he, hw2⟩ => ⟨he, hW.trans (hw2.mono hW.size)⟩))); simp only [Act.put, List.setIfInBounds_toArray, List.set_cons_zero, List.set_cons_succ])
    iterate 4 (refine q_want (by kernel_rfl) ?_; apply Exists.intro; refine ⟨fun W hW => ?_, ?_⟩; (focus (obtain ⟨x2, y2⟩ := keepB hW z2_1 r2_1 c2_1; obtain ⟨x3, y3⟩ := keepB hW z3_1 r3_1 c3_1; go_simp; first | done | rfl)); simp only [Act.put, List.setIfInBounds_toArray, List.set_cons_zero, List.set_cons_succ])
    (refine q_want (by kernel_rfl) ?_; apply Exists.intro; refine ⟨fun W hW => ?_, ?_⟩; (focus (obtain ⟨x2, y2⟩ := keepB hW z2_1 r2_1 c2_1; obtain ⟨x3, y3⟩ := keepB hW z3_1 r3_1 c3_1; go_simp; (go_at_call 149; exact (pairOf_any _ _ _ _ hp hp' Hv.out Hv.out).mono fun e w2 ⟨he, hw2⟩ => ⟨he, hW.trans (hw2.mono hW.size)⟩))); simp only [Act.put, List.setIfInBounds_toArray, List.set_cons_zero, List.set_cons_succ])
    iterate 1 (refine q_want (by kernel_rfl) ?_; apply Exists.intro; refine ⟨fun W hW => ?_, ?_⟩; (focus (obtain ⟨x2, y2⟩ := keepB hW z2_1 r2_1 c2_1; obtain ⟨x3, y3⟩ := keepB hW z3_1 r3_1 c3_1; go_simp; first | done | rfl)); simp only [Act.put, List.setIfInBounds_toArray, List.set_cons_zero, List.set_cons_succ])
    iterate 2 (refine q_plain rfl ?_; apply Exists.intro; refine ⟨fun W hW => ?_, ?_⟩; (focus (obtain ⟨x2, y2⟩ := keepB hW z2_1 r2_1 c2_1; obtain ⟨x3, y3⟩ := keepB hW z3_1 r3_1 c3_1; go_simp; first | done | rfl)); simp only [Act.put, List.setIfInBounds_toArray, List.set_cons_zero, List.set_cons_succ])
    refine wpQuiet_nil ?_
    intro W2 hw2
    obtain ⟨r2_2, c2_2⟩ := keepB hw2 z2_1 r2_1 c2_1
    have z2_2 := isRow_lt r2_2
    obtain ⟨r3_2, c3_2⟩ := keepB hw2 z3_1 r3_1 c3_1
    have z3_2 := isRow_lt r3_2
    have hb2 := hb1.trans (hw2.mono hb1.size)
    have q2 := hb2.size
    clear hw2 r2_1 c2_1 z2_1 r3_1 c3_1 z3_1 hb1
    go_wp2_with fail
    go_ret
    exact ⟨ret_bool (by rw [H.out]), (by (repeat (first | exact hb2 | exact Below.refl _ _ | refine Below.alloc ?_ (by first | omega | (simp; try omega)) _ | refine below_setRow ?_ (by omega) _ | refine Below.drew ?_)))⟩
  · skip
    have H := Lib.hid (grp_no hd)
    have hd1 : (dotF 8 f v % p == 1) = false := by simpa using hd
    have hd2 : decide (dotF 8 f v % p = 1) = false := by simpa using hd
    go_enter Try.func97, Try.ntmps97
    go_wp2
    refine atomW fun W3 e3 => ?_
    have hb3 : Below w.heap.size w W3 := by rw [e3]; (repeat (first | exact Below.refl _ _ | refine Below.alloc ?_ (by first | omega | (simp; try omega)) _ | refine below_setRow ?_ (by omega) _ | refine Below.drew ?_))
    have q3 := hb3.size
    have R3 : IsRow W3 (w.heap.size) ∧ IsRow W3 (w.heap.size + 1) := by rw [e3]; simp [go_sem]
    obtain ⟨r2_3, r3_3⟩ := R3
    have C3 := (⟨congrArg (blk · (w.heap.size)) e3, congrArg (blk · (w.heap.size + 1)) e3⟩ : _ ∧ _); simp [go_sem] at C3
    obtain ⟨c2_3, c3_3⟩ := C3
    have z2_3 := isRow_lt r2_3; have z3_3 := isRow_lt r3_3
    clear e3
    refine wp_quiet_all (Below W3.heap.size W3) (by kernel_rfl) (by kernel_rfl) (Below.refl _ _).drew ?_
    iterate 5 (refine q_plain rfl ?_; apply Exists.intro; refine ⟨fun W hW => ?_, ?_⟩; (focus (obtain ⟨x2, y2⟩ := keepB hW z2_3 r2_3 c2_3; obtain ⟨x3, y3⟩ := keepB hW z3_3 r3_3 c3_3; go_simp; first | done | rfl)); simp only [Act.put, List.setIfInBounds_toArray, List.set_cons_zero, List.set_cons_succ])
    (refine q_plain rfl ?_; apply Exists.intro; refine ⟨fun W hW => ?_, ?_⟩; (focus (obtain ⟨x2, y2⟩ := keepB hW z2_3 r2_3 c2_3; obtain ⟨x3, y3⟩ := keepB hW z3_3 r3_3 c3_3; go_simp; (go_at_call 85; exact (formValue_any _ _ _ _ hp hp' (unit_bytes HF.out) Hv.out).mono fun e w2 ⟨he, hw2⟩ => ⟨he, hW.trans (hw2.mono hW.size)⟩))); simp only [Act.put, List.setIfInBounds_toArray, List.set_cons_zero, List.set_cons_succ])
    iterate 2 (refine q_plain rfl ?_; apply Exists.intro; refine ⟨fun W hW => ?_, ?_⟩; (focus (obtain ⟨x2, y2⟩ := keepB hW z2_3 r2_3 c2_3; obtain ⟨x3, y3⟩ := keepB hW z3_3 r3_3 c3_3; go_simp; first | done | rfl)); simp only [Act.put, List.setIfInBounds_toArray, List.set_cons_zero, List.set_cons_succ])
    iterate 9 (refine q_skip (by kernel_rfl) ?_; simp only [Act.put, List.setIfInBounds_toArray, List.set_cons_zero, List.set_cons_succ])
    iterate 2 (refine q_plain rfl ?_; apply Exists.intro; refine ⟨fun W hW => ?_, ?_⟩; (focus (obtain ⟨x2, y2⟩ := keepB hW z2_3 r2_3 c2_3; obtain ⟨x3, y3⟩ := keepB hW z3_3 r3_3 c3_3; go_simp; first | done | rfl)); simp only [Act.put, List.setIfInBounds_toArray, List.set_cons_zero, List.set_cons_succ])
    refine wpQuiet_nil ?_
    intro W4 hw4
    obtain ⟨r2_4, c2_4⟩ := keepB hw4 z2_3 r2_3 c2_3
    have z2_4 := isRow_lt r2_4
    obtain ⟨r3_4, c3_4⟩ := keepB hw4 z3_3 r3_3 c3_3
    have z3_4 := isRow_lt r3_4
    have hb4 := hb3.trans (hw4.mono hb3.size)
    have q4 := hb4.size
    clear hw4 r2_3 c2_3 z2_3 r3_3 c3_3 z3_3 hb3
    go_wp2_with fail
    go_ret
    exact ⟨ret_bool (by rw [H.out]), (by (repeat (first | exact hb4 | exact Below.refl _ _ | refine Below.alloc ?_ (by first | omega | (simp; try omega)) _ | refine below_setRow ?_ (by omega) _ | refine Below.drew ?_)))⟩

set_option maxRecDepth 100000 in
set_option maxHeartbeats 1000000 in
theorem l02Group_any (p : Int) (n : Nat) (f v : Nat → Int) (w : World) (hp : 0 < p) (hp' : p ≤ 255) (hn : n ≤ 8) (hF : Bytes 520 f) (hv : Bytes 8 v) (hs : shapeB p n f = true) :
    Calls Try.prog 96 #[.agg (alg p n f), .agg (row 8 v)] w fun e w' => e = .returned (.bool (grpB p f v)) ∧ Below w.heap.size w w' := by
  have HF := Lib.hid hF; clear hF
  have Hv := Lib.hid hv; clear hv
  have Hs := Lib.hid hs; clear hs
  have HC := Lib.hid (dot_comm 8 v f)
  by_cases hd : dotF 8 v f % p = 1
  · skip
    have H := Lib.hid (grp_yes (by rw [← HC.out]; exact hd))
    have HE := Lib.hid (segEq_left (h := outF p v v 8) (cop_same (v := v) hn Hs.out))
    go_enter Try.func96, Try.ntmps96
    go_wp2
    refine atomW fun W1 e1 => ?_
    have hb1 : Below w.heap.size w W1 := by rw [e1]; (repeat (first | exact Below.refl _ _ | refine Below.alloc ?_ (by first | omega | (simp; try omega)) _ | refine below_setRow ?_ (by omega) _ | refine Below.drew ?_))
    have q1 := hb1.size
    have R1 : IsRow W1 (w.heap.size) ∧ IsRow W1 (w.heap.size + 1) := by rw [e1]; simp [go_sem]
    obtain ⟨r2_1, r3_1⟩ := R1
    have C1 := (⟨congrArg (blk · (w.heap.size)) e1, congrArg (blk · (w.heap.size + 1)) e1⟩ : _ ∧ _); simp [go_sem] at C1
    obtain ⟨c2_1, c3_1⟩ := C1
    have z2_1 := isRow_lt r2_1; have z3_1 := isRow_lt r3_1
    clear e1
    refine wp_quiet_all (Below W1.heap.size W1) (by kernel_rfl) (by kernel_rfl) (Below.refl _ _).drew ?_
    iterate 2 (refine q_plain rfl ?_; apply Exists.intro; refine ⟨fun W hW => ?_, ?_⟩; (focus (obtain ⟨x2, y2⟩ := keepB hW z2_1 r2_1 c2_1; obtain ⟨x3, y3⟩ := keepB hW z3_1 r3_1 c3_1; go_simp; first | done | rfl)); simp only [Act.put, List.setIfInBounds_toArray, List.set_cons_zero, List.set_cons_succ])
    (refine q_plain rfl ?_; apply Exists.intro; refine ⟨fun W hW => ?_, ?_⟩; (focus (obtain ⟨x2, y2⟩ := keepB hW z2_1 r2_1 c2_1; obtain ⟨x3, y3⟩ := keepB hW z3_1 r3_1 c3_1; go_simp; (go_at_call 84; exact (l02Counit_any _ _ _ _ _ hp hp' HF.out Hv.out).mono fun e w2 ⟨he, hw2⟩ => ⟨he, hW.trans (hw2.mono hW.size)⟩))); simp only [Act.put, List.setIfInBounds_toArray, List.set_cons_zero, List.set_cons_succ])
    iterate 2 (refine q_plain rfl ?_; apply Exists.intro; refine ⟨fun W hW => ?_, ?_⟩; (focus (obtain ⟨x2, y2⟩ := keepB hW z2_1 r2_1 c2_1; obtain ⟨x3, y3⟩ := keepB hW z3_1 r3_1 c3_1; go_simp; first | done | rfl)); simp only [Act.put, List.setIfInBounds_toArray, List.set_cons_zero, List.set_cons_succ])
    iterate 2 (refine q_want (by kernel_rfl) ?_; apply Exists.intro; refine ⟨fun W hW => ?_, ?_⟩; (focus (obtain ⟨x2, y2⟩ := keepB hW z2_1 r2_1 c2_1; obtain ⟨x3, y3⟩ := keepB hW z3_1 r3_1 c3_1; go_simp; first | done | rfl)); simp only [Act.put, List.setIfInBounds_toArray, List.set_cons_zero, List.set_cons_succ])
    (refine q_want (by kernel_rfl) ?_; apply Exists.intro; refine ⟨fun W hW => ?_, ?_⟩; (focus (obtain ⟨x2, y2⟩ := keepB hW z2_1 r2_1 c2_1; obtain ⟨x3, y3⟩ := keepB hW z3_1 r3_1 c3_1; go_simp; (go_at_call 81; exact (l02Coproduct_any _ _ _ _ _ hp hp' hn HF.out Hv.out).mono fun e w2 ⟨he, hw2⟩ => ⟨he, hW.trans (hw2.mono hW.size)⟩))); simp only [Act.put, List.setIfInBounds_toArray, List.set_cons_zero, List.set_cons_succ])
    iterate 4 (refine q_want (by kernel_rfl) ?_; apply Exists.intro; refine ⟨fun W hW => ?_, ?_⟩; (focus (obtain ⟨x2, y2⟩ := keepB hW z2_1 r2_1 c2_1; obtain ⟨x3, y3⟩ := keepB hW z3_1 r3_1 c3_1; go_simp; first | done | rfl)); simp only [Act.put, List.setIfInBounds_toArray, List.set_cons_zero, List.set_cons_succ])
    (refine q_want (by kernel_rfl) ?_; apply Exists.intro; refine ⟨fun W hW => ?_, ?_⟩; (focus (obtain ⟨x2, y2⟩ := keepB hW z2_1 r2_1 c2_1; obtain ⟨x3, y3⟩ := keepB hW z3_1 r3_1 c3_1; go_simp; (go_at_call 150; exact (l02Outer_any _ _ _ _ hp hp' Hv.out Hv.out).mono fun e w2 ⟨he, hw2⟩ => ⟨he, hW.trans (hw2.mono hW.size)⟩))); simp only [Act.put, List.setIfInBounds_toArray, List.set_cons_zero, List.set_cons_succ])
    iterate 1 (refine q_want (by kernel_rfl) ?_; apply Exists.intro; refine ⟨fun W hW => ?_, ?_⟩; (focus (obtain ⟨x2, y2⟩ := keepB hW z2_1 r2_1 c2_1; obtain ⟨x3, y3⟩ := keepB hW z3_1 r3_1 c3_1; go_simp; first | done | rfl)); simp only [Act.put, List.setIfInBounds_toArray, List.set_cons_zero, List.set_cons_succ])
    iterate 2 (refine q_plain rfl ?_; apply Exists.intro; refine ⟨fun W hW => ?_, ?_⟩; (focus (obtain ⟨x2, y2⟩ := keepB hW z2_1 r2_1 c2_1; obtain ⟨x3, y3⟩ := keepB hW z3_1 r3_1 c3_1; go_simp; first | done | rfl)); simp only [Act.put, List.setIfInBounds_toArray, List.set_cons_zero, List.set_cons_succ])
    refine wpQuiet_nil ?_
    intro W2 hw2
    obtain ⟨r2_2, c2_2⟩ := keepB hw2 z2_1 r2_1 c2_1
    have z2_2 := isRow_lt r2_2
    obtain ⟨r3_2, c3_2⟩ := keepB hw2 z3_1 r3_1 c3_1
    have z3_2 := isRow_lt r3_2
    have hb2 := hb1.trans (hw2.mono hb1.size)
    have q2 := hb2.size
    clear hw2 r2_1 c2_1 z2_1 r3_1 c3_1 z3_1 hb1
    go_wp2_with fail
    go_ret
    exact ⟨ret_bool (by rw [H.out, HE.out]), (by (repeat (first | exact hb2 | exact Below.refl _ _ | refine Below.alloc ?_ (by first | omega | (simp; try omega)) _ | refine below_setRow ?_ (by omega) _ | refine Below.drew ?_)))⟩
  · skip
    have H := Lib.hid (grp_no (by rw [← HC.out]; exact hd))
    have hd1 : (dotF 8 v f % p == 1) = false := by simpa using hd
    have hd2 : decide (dotF 8 v f % p = 1) = false := by simpa using hd
    go_enter Try.func96, Try.ntmps96
    go_wp2
    refine atomW fun W3 e3 => ?_
    have hb3 : Below w.heap.size w W3 := by rw [e3]; (repeat (first | exact Below.refl _ _ | refine Below.alloc ?_ (by first | omega | (simp; try omega)) _ | refine below_setRow ?_ (by omega) _ | refine Below.drew ?_))
    have q3 := hb3.size
    have R3 : IsRow W3 (w.heap.size) ∧ IsRow W3 (w.heap.size + 1) := by rw [e3]; simp [go_sem]
    obtain ⟨r2_3, r3_3⟩ := R3
    have C3 := (⟨congrArg (blk · (w.heap.size)) e3, congrArg (blk · (w.heap.size + 1)) e3⟩ : _ ∧ _); simp [go_sem] at C3
    obtain ⟨c2_3, c3_3⟩ := C3
    have z2_3 := isRow_lt r2_3; have z3_3 := isRow_lt r3_3
    clear e3
    refine wp_quiet_all (Below W3.heap.size W3) (by kernel_rfl) (by kernel_rfl) (Below.refl _ _).drew ?_
    iterate 2 (refine q_plain rfl ?_; apply Exists.intro; refine ⟨fun W hW => ?_, ?_⟩; (focus (obtain ⟨x2, y2⟩ := keepB hW z2_3 r2_3 c2_3; obtain ⟨x3, y3⟩ := keepB hW z3_3 r3_3 c3_3; go_simp; first | done | rfl)); simp only [Act.put, List.setIfInBounds_toArray, List.set_cons_zero, List.set_cons_succ])
    (refine q_plain rfl ?_; apply Exists.intro; refine ⟨fun W hW => ?_, ?_⟩; (focus (obtain ⟨x2, y2⟩ := keepB hW z2_3 r2_3 c2_3; obtain ⟨x3, y3⟩ := keepB hW z3_3 r3_3 c3_3; go_simp; (go_at_call 84; exact (l02Counit_any _ _ _ _ _ hp hp' HF.out Hv.out).mono fun e w2 ⟨he, hw2⟩ => ⟨he, hW.trans (hw2.mono hW.size)⟩))); simp only [Act.put, List.setIfInBounds_toArray, List.set_cons_zero, List.set_cons_succ])
    iterate 2 (refine q_plain rfl ?_; apply Exists.intro; refine ⟨fun W hW => ?_, ?_⟩; (focus (obtain ⟨x2, y2⟩ := keepB hW z2_3 r2_3 c2_3; obtain ⟨x3, y3⟩ := keepB hW z3_3 r3_3 c3_3; go_simp; first | done | rfl)); simp only [Act.put, List.setIfInBounds_toArray, List.set_cons_zero, List.set_cons_succ])
    iterate 9 (refine q_skip (by kernel_rfl) ?_; simp only [Act.put, List.setIfInBounds_toArray, List.set_cons_zero, List.set_cons_succ])
    iterate 2 (refine q_plain rfl ?_; apply Exists.intro; refine ⟨fun W hW => ?_, ?_⟩; (focus (obtain ⟨x2, y2⟩ := keepB hW z2_3 r2_3 c2_3; obtain ⟨x3, y3⟩ := keepB hW z3_3 r3_3 c3_3; go_simp; first | done | rfl)); simp only [Act.put, List.setIfInBounds_toArray, List.set_cons_zero, List.set_cons_succ])
    refine wpQuiet_nil ?_
    intro W4 hw4
    obtain ⟨r2_4, c2_4⟩ := keepB hw4 z2_3 r2_3 c2_3
    have z2_4 := isRow_lt r2_4
    obtain ⟨r3_4, c3_4⟩ := keepB hw4 z3_3 r3_3 c3_3
    have z3_4 := isRow_lt r3_4
    have hb4 := hb3.trans (hw4.mono hb3.size)
    have q4 := hb4.size
    clear hw4 r2_3 c2_3 z2_3 r3_3 c3_3 z3_3 hb3
    go_wp2_with fail
    go_ret
    exact ⟨ret_bool (by rw [H.out]), (by (repeat (first | exact hb4 | exact Below.refl _ _ | refine Below.alloc ?_ (by first | omega | (simp; try omega)) _ | refine below_setRow ?_ (by omega) _ | refine Below.drew ?_)))⟩

def grpR (p n : Int) (f v : Nat → Int) : Bool := match okC p n f 1 (nth v) with | true => grpB p f v | false => false
theorem grpR_yes {p n : Int} {f v : Nat → Int} (h : okC p n f 1 (nth v) = true) : grpR p n f v = grpB p f v := by unfold grpR; rw [h]
theorem grpR_no {p n : Int} {f v : Nat → Int} (h : okC p n f 1 (nth v) = false) : grpR p n f v = false := by unfold grpR; rw [h]

set_option maxRecDepth 100000 in
set_option maxHeartbeats 1000000 in
theorem isGroupLike_any (p n : Int) (f v : Nat → Int) (w : World) (hF : Bytes 520 f) (hv : Bytes 8 v) :
    Calls Try.prog 47 #[.agg (alg p n f), .agg (row 8 v)] w fun e w' => e = .returned (.tuple #[.bool (grpR p n f v), .int .i64 (codeB (okC p n f 1 (nth v)))]) ∧ Below w.heap.size w w' := by
  have HF := Lib.hid hF; clear hF
  have Hv := Lib.hid hv; clear hv
  cases hc : okC p n f 1 (nth v)
  · skip
    have HR := Lib.hid (grpR_no hc)
    go_enter Try.func47, Try.ntmps47
    go_wp2_with fail
    refine atomC fun W1 e1 => ?_
    have hb1 : Below w.heap.size w W1 := by rw [e1]; (repeat (first | exact Below.refl _ _ | refine Below.alloc ?_ (by first | omega | (simp; try omega)) _ | refine below_setRow ?_ (by omega) _ | refine Below.drew ?_))
    have q1 := hb1.size
    have R1 : IsRow W1 (w.heap.size) ∧ IsRow W1 (w.heap.size + 1) ∧ IsRow W1 (w.heap.size + 2) := by rw [e1]; simp [go_sem]
    obtain ⟨r2_1, r3_1, r8_1⟩ := R1
    have C1 := (⟨congrArg (blk · (w.heap.size)) e1, congrArg (blk · (w.heap.size + 1)) e1, congrArg (blk · (w.heap.size + 2)) e1⟩ : _ ∧ _ ∧ _); simp [go_sem] at C1
    obtain ⟨c2_1, c3_1, c8_1⟩ := C1
    have z2_1 := isRow_lt r2_1; have z3_1 := isRow_lt r3_1; have z8_1 := isRow_lt r8_1
    clear e1
    refine (isCoWith_any _ _ _ _ 0 1 1 (nth v) _ HF.out (by omega) r8_1 (vecs_one c8_1 Hv.out)).mono ?_; rintro _ W2 ⟨rfl, hw2⟩
    obtain ⟨r2_2, c2_2⟩ := keepB hw2 z2_1 r2_1 c2_1
    have z2_2 := isRow_lt r2_2
    obtain ⟨r3_2, c3_2⟩ := keepB hw2 z3_1 r3_1 c3_1
    have z3_2 := isRow_lt r3_2
    obtain ⟨r8_2, c8_2⟩ := keepB hw2 z8_1 r8_1 c8_1
    have z8_2 := isRow_lt r8_2
    have hb2 := hb1.trans (hw2.mono hb1.size)
    have q2 := hb2.size
    clear hw2 r2_1 c2_1 z2_1 r3_1 c3_1 z3_1 r8_1 c8_1 z8_1 hb1
    go_wp2_with fail
    go_ret2
    exact ⟨ret_bc HR.out.symm (by rfl), (by (repeat (first | exact hb2 | exact Below.refl _ _ | refine Below.alloc ?_ (by first | omega | (simp; try omega)) _ | refine below_setRow ?_ (by omega) _ | refine Below.drew ?_)))⟩
  · skip
    obtain ⟨hp2, hp31, hn1, hn8⟩ := sizes_range (co_sizes (okC_co hc))
    obtain ⟨n, rfl⟩ := Int.eq_ofNat_of_zero_le (show 0 ≤ n by omega)
    have hn : n ≤ 8 := by omega
    have hp : 0 < p := by omega
    have hp' : p ≤ 255 := by omega
    have HR := Lib.hid (grpR_yes hc)
    go_enter Try.func47, Try.ntmps47
    go_wp2_with fail
    refine atomC fun W3 e3 => ?_
    have hb3 : Below w.heap.size w W3 := by rw [e3]; (repeat (first | exact Below.refl _ _ | refine Below.alloc ?_ (by first | omega | (simp; try omega)) _ | refine below_setRow ?_ (by omega) _ | refine Below.drew ?_))
    have q3 := hb3.size
    have R3 : IsRow W3 (w.heap.size) ∧ IsRow W3 (w.heap.size + 1) ∧ IsRow W3 (w.heap.size + 2) := by rw [e3]; simp [go_sem]
    obtain ⟨r2_3, r3_3, r8_3⟩ := R3
    have C3 := (⟨congrArg (blk · (w.heap.size)) e3, congrArg (blk · (w.heap.size + 1)) e3, congrArg (blk · (w.heap.size + 2)) e3⟩ : _ ∧ _ ∧ _); simp [go_sem] at C3
    obtain ⟨c2_3, c3_3, c8_3⟩ := C3
    have z2_3 := isRow_lt r2_3; have z3_3 := isRow_lt r3_3; have z8_3 := isRow_lt r8_3
    clear e3
    refine (isCoWith_any _ _ _ _ 0 1 1 (nth v) _ HF.out (by omega) r8_3 (vecs_one c8_3 Hv.out)).mono ?_; rintro _ W4 ⟨rfl, hw4⟩
    obtain ⟨r2_4, c2_4⟩ := keepB hw4 z2_3 r2_3 c2_3
    have z2_4 := isRow_lt r2_4
    obtain ⟨r3_4, c3_4⟩ := keepB hw4 z3_3 r3_3 c3_3
    have z3_4 := isRow_lt r3_4
    obtain ⟨r8_4, c8_4⟩ := keepB hw4 z8_3 r8_3 c8_3
    have z8_4 := isRow_lt r8_4
    have hb4 := hb3.trans (hw4.mono hb3.size)
    have q4 := hb4.size
    clear hw4 r2_3 c2_3 z2_3 r3_3 c3_3 z3_3 r8_3 c8_3 z8_3 hb3
    go_wp2_with fail
    refine (isGrp_any _ _ _ _ _ hp hp' HF.out Hv.out).mono ?_; rintro _ W5 ⟨rfl, hw5⟩
    have hb5 := hb4.trans (hw5.mono hb4.size)
    have q5 := hb5.size
    clear hw5 hb4
    go_wp2_with fail
    go_ret2
    exact ⟨ret_bc HR.out.symm (by rfl), (by (repeat (first | exact hb5 | exact Below.refl _ _ | refine Below.alloc ?_ (by first | omega | (simp; try omega)) _ | refine below_setRow ?_ (by omega) _ | refine Below.drew ?_)))⟩

set_option maxRecDepth 100000 in
set_option maxHeartbeats 1000000 in
theorem specIsGroupLike_any (p n : Int) (f v : Nat → Int) (w : World) (hF : Bytes 520 f) (hv : Bytes 8 v) :
    Calls Try.prog 46 #[.agg (alg p n f), .agg (row 8 v)] w fun e w' => e = .returned (.tuple #[.bool (grpR p n f v), .int .i64 (codeB (okC p n f 1 (nth v)))]) ∧ Below w.heap.size w w' := by
  have HF := Lib.hid hF; clear hF
  have Hv := Lib.hid hv; clear hv
  cases hc : okC p n f 1 (nth v)
  · skip
    have HR := Lib.hid (grpR_no hc)
    have hc1 : codeB false = 1 := rfl
    go_enter Try.func46, Try.ntmps46
    go_wp2_with fail
    refine atomC fun W1 e1 => ?_
    have hb1 : Below w.heap.size w W1 := by rw [e1]; (repeat (first | exact Below.refl _ _ | refine Below.alloc ?_ (by first | omega | (simp; try omega)) _ | refine below_setRow ?_ (by omega) _ | refine Below.drew ?_))
    have q1 := hb1.size
    have R1 : IsRow W1 (w.heap.size) ∧ IsRow W1 (w.heap.size + 1) ∧ IsRow W1 (w.heap.size + 2) := by rw [e1]; simp [go_sem]
    obtain ⟨r2_1, r3_1, r9_1⟩ := R1
    have C1 := (⟨congrArg (blk · (w.heap.size)) e1, congrArg (blk · (w.heap.size + 1)) e1, congrArg (blk · (w.heap.size + 2)) e1⟩ : _ ∧ _ ∧ _); simp [go_sem] at C1
    obtain ⟨c2_1, c3_1, c9_1⟩ := C1
    have z2_1 := isRow_lt r2_1; have z3_1 := isRow_lt r3_1; have z9_1 := isRow_lt r9_1
    clear e1
    refine (l02Code_any _ _ _ _ 0 1 1 (nth v) _ HF.out (by omega) r9_1 (vecs_one c9_1 Hv.out)).mono ?_; rintro _ W2 ⟨rfl, hw2⟩
    obtain ⟨r2_2, c2_2⟩ := keepB hw2 z2_1 r2_1 c2_1
    have z2_2 := isRow_lt r2_2
    obtain ⟨r3_2, c3_2⟩ := keepB hw2 z3_1 r3_1 c3_1
    have z3_2 := isRow_lt r3_2
    obtain ⟨r9_2, c9_2⟩ := keepB hw2 z9_1 r9_1 c9_1
    have z9_2 := isRow_lt r9_2
    have hb2 := hb1.trans (hw2.mono hb1.size)
    have q2 := hb2.size
    clear hw2 r2_1 c2_1 z2_1 r3_1 c3_1 z3_1 r9_1 c9_1 z9_1 hb1
    go_wp2_with fail
    go_ret2
    exact ⟨ret_bc HR.out.symm (by rfl), (by (repeat (first | exact hb2 | exact Below.refl _ _ | refine Below.alloc ?_ (by first | omega | (simp; try omega)) _ | refine below_setRow ?_ (by omega) _ | refine Below.drew ?_)))⟩
  · skip
    obtain ⟨hp2, hp31, hn1, hn8⟩ := sizes_range (co_sizes (okC_co hc))
    obtain ⟨n, rfl⟩ := Int.eq_ofNat_of_zero_le (show 0 ≤ n by omega)
    have hn : n ≤ 8 := by omega
    have hp : 0 < p := by omega
    have hp' : p ≤ 255 := by omega
    have HR := Lib.hid (grpR_yes hc)
    have HS := Lib.hid (co_shape (okC_co hc))
    have hc1 : codeB true = 0 := rfl
    go_enter Try.func46, Try.ntmps46
    go_wp2_with fail
    refine atomC fun W3 e3 => ?_
    have hb3 : Below w.heap.size w W3 := by rw [e3]; (repeat (first | exact Below.refl _ _ | refine Below.alloc ?_ (by first | omega | (simp; try omega)) _ | refine below_setRow ?_ (by omega) _ | refine Below.drew ?_))
    have q3 := hb3.size
    have R3 : IsRow W3 (w.heap.size) ∧ IsRow W3 (w.heap.size + 1) ∧ IsRow W3 (w.heap.size + 2) := by rw [e3]; simp [go_sem]
    obtain ⟨r2_3, r3_3, r9_3⟩ := R3
    have C3 := (⟨congrArg (blk · (w.heap.size)) e3, congrArg (blk · (w.heap.size + 1)) e3, congrArg (blk · (w.heap.size + 2)) e3⟩ : _ ∧ _ ∧ _); simp [go_sem] at C3
    obtain ⟨c2_3, c3_3, c9_3⟩ := C3
    have z2_3 := isRow_lt r2_3; have z3_3 := isRow_lt r3_3; have z9_3 := isRow_lt r9_3
    clear e3
    refine (l02Code_any _ _ _ _ 0 1 1 (nth v) _ HF.out (by omega) r9_3 (vecs_one c9_3 Hv.out)).mono ?_; rintro _ W4 ⟨rfl, hw4⟩
    obtain ⟨r2_4, c2_4⟩ := keepB hw4 z2_3 r2_3 c2_3
    have z2_4 := isRow_lt r2_4
    obtain ⟨r3_4, c3_4⟩ := keepB hw4 z3_3 r3_3 c3_3
    have z3_4 := isRow_lt r3_4
    obtain ⟨r9_4, c9_4⟩ := keepB hw4 z9_3 r9_3 c9_3
    have z9_4 := isRow_lt r9_4
    have hb4 := hb3.trans (hw4.mono hb3.size)
    have q4 := hb4.size
    clear hw4 r2_3 c2_3 z2_3 r3_3 c3_3 z3_3 r9_3 c9_3 z9_3 hb3
    go_wp2_with fail
    refine (l02Group_any _ _ _ _ _ hp hp' hn HF.out Hv.out HS.out).mono ?_; rintro _ W5 ⟨rfl, hw5⟩
    have hb5 := hb4.trans (hw5.mono hb4.size)
    have q5 := hb5.size
    clear hw5 hb4
    go_wp2_with fail
    go_ret2
    exact ⟨ret_bc HR.out.symm (by rfl), (by (repeat (first | exact hb5 | exact Below.refl _ _ | refine Below.alloc ?_ (by first | omega | (simp; try omega)) _ | refine below_setRow ?_ (by omega) _ | refine Below.drew ?_)))⟩

set_option maxRecDepth 100000 in
set_option maxHeartbeats 2000000 in
theorem lawIsGroupLike (fp fn : Int) (f : Nat → Int) (v : Nat → Int) (w : World) (_wfp : (Lit.int .i64 fp).wf = true) (_wfn : (Lit.int .i64 fn).wf = true) (hf : Bytes 520 f) (hv : Bytes 8 v) :
    Calls Try.prog 11 #[.agg (alg fp fn f), .agg (row 8 v)] w fun e w' => e = .returned (.bool true) ∧ Below w.heap.size w w' := by
  have Hf := Lib.hid hf; clear hf
  have Hv := Lib.hid hv; clear hv
  go_enter Try.func11, Try.ntmps11
  go_wp2
  refine atomW fun W1 e1 => ?_
  have hb1 : Below w.heap.size w W1 := by rw [e1]; (repeat (first | exact Below.refl _ _ | refine Below.alloc ?_ (by first | omega | (simp; try omega)) _ | refine below_setRow ?_ (by omega) _ | refine Below.drew ?_))
  have q1 := hb1.size
  have R1 : IsRow W1 (w.heap.size) ∧ IsRow W1 (w.heap.size + 1) := by rw [e1]; simp [go_sem]
  obtain ⟨r2_1, r3_1⟩ := R1
  have C1 := (⟨congrArg (blk · (w.heap.size)) e1, congrArg (blk · (w.heap.size + 1)) e1⟩ : _ ∧ _); simp [go_sem] at C1
  obtain ⟨c2_1, c3_1⟩ := C1
  have z2_1 := isRow_lt r2_1; have z3_1 := isRow_lt r3_1
  clear e1
  refine wp_quiet_all (Below W1.heap.size W1) (by kernel_rfl) (by kernel_rfl) (Below.refl _ _).drew ?_
  iterate 1 (refine q_plain rfl ?_; apply Exists.intro; refine ⟨fun W hW => ?_, ?_⟩; (focus (obtain ⟨x2, y2⟩ := keepB hW z2_1 r2_1 c2_1; obtain ⟨x3, y3⟩ := keepB hW z3_1 r3_1 c3_1; go_simp; first | done | rfl)); simp only [Act.put, List.setIfInBounds_toArray, List.set_cons_zero, List.set_cons_succ])
  (refine q_plain rfl ?_; apply Exists.intro; refine ⟨fun W hW => ?_, ?_⟩; (focus (obtain ⟨x2, y2⟩ := keepB hW z2_1 r2_1 c2_1; obtain ⟨x3, y3⟩ := keepB hW z3_1 r3_1 c3_1; go_simp; (go_at_call 22; exact (toCoalgebra_any _ _ _ _).mono fun e w2 ⟨he, hw2⟩ => ⟨he, hW.trans (hw2.mono hW.size)⟩))); simp only [Act.put, List.setIfInBounds_toArray, List.set_cons_zero, List.set_cons_succ])
  iterate 1 (refine q_plain rfl ?_; apply Exists.intro; refine ⟨fun W hW => ?_, ?_⟩; (focus (obtain ⟨x2, y2⟩ := keepB hW z2_1 r2_1 c2_1; obtain ⟨x3, y3⟩ := keepB hW z3_1 r3_1 c3_1; go_simp; first | done | rfl)); simp only [Act.put, List.setIfInBounds_toArray, List.set_cons_zero, List.set_cons_succ])
  (refine q_plain rfl ?_; apply Exists.intro; refine ⟨fun W hW => ?_, ?_⟩; (focus (obtain ⟨x2, y2⟩ := keepB hW z2_1 r2_1 c2_1; obtain ⟨x3, y3⟩ := keepB hW z3_1 r3_1 c3_1; go_simp; (go_at_call 30; exact (toVector_any _ _).mono fun e w2 ⟨he, hw2⟩ => ⟨he, hW.trans (hw2.mono hW.size)⟩))); simp only [Act.put, List.setIfInBounds_toArray, List.set_cons_zero, List.set_cons_succ])
  (refine q_plain rfl ?_; apply Exists.intro; refine ⟨fun W hW => ?_, ?_⟩; (focus (obtain ⟨x2, y2⟩ := keepB hW z2_1 r2_1 c2_1; obtain ⟨x3, y3⟩ := keepB hW z3_1 r3_1 c3_1; go_simp; (go_at_call 46; exact (specIsGroupLike_any _ _ _ _ _ Hf.out Hv.out).mono fun e w2 ⟨he, hw2⟩ => ⟨he, hW.trans (hw2.mono hW.size)⟩))); simp only [Act.put, List.setIfInBounds_toArray, List.set_cons_zero, List.set_cons_succ])
  iterate 5 (refine q_plain rfl ?_; apply Exists.intro; refine ⟨fun W hW => ?_, ?_⟩; (focus (obtain ⟨x2, y2⟩ := keepB hW z2_1 r2_1 c2_1; obtain ⟨x3, y3⟩ := keepB hW z3_1 r3_1 c3_1; go_simp; first | done | rfl)); simp only [Act.put, List.setIfInBounds_toArray, List.set_cons_zero, List.set_cons_succ])
  refine wpQuiet_nil ?_
  intro W2 hw2
  obtain ⟨r2_2, c2_2⟩ := keepB hw2 z2_1 r2_1 c2_1
  have z2_2 := isRow_lt r2_2
  obtain ⟨r3_2, c3_2⟩ := keepB hw2 z3_1 r3_1 c3_1
  have z3_2 := isRow_lt r3_2
  have hb2 := hb1.trans (hw2.mono hb1.size)
  have q2 := hb2.size
  clear hw2 r2_1 c2_1 z2_1 r3_1 c3_1 z3_1 hb1
  go_wp2
  refine wp_quiet_all (Below W2.heap.size W2) (by kernel_rfl) (by kernel_rfl) (Below.refl _ _).drew ?_
  iterate 1 (refine q_plain rfl ?_; apply Exists.intro; refine ⟨fun W hW => ?_, ?_⟩; (focus (obtain ⟨x2, y2⟩ := keepB hW z2_2 r2_2 c2_2; obtain ⟨x3, y3⟩ := keepB hW z3_2 r3_2 c3_2; go_simp; first | done | rfl)); simp only [Act.put, List.setIfInBounds_toArray, List.set_cons_zero, List.set_cons_succ])
  (refine q_plain rfl ?_; apply Exists.intro; refine ⟨fun W hW => ?_, ?_⟩; (focus (obtain ⟨x2, y2⟩ := keepB hW z2_2 r2_2 c2_2; obtain ⟨x3, y3⟩ := keepB hW z3_2 r3_2 c3_2; go_simp; (go_at_call 22; exact (toCoalgebra_any _ _ _ _).mono fun e w2 ⟨he, hw2⟩ => ⟨he, hW.trans (hw2.mono hW.size)⟩))); simp only [Act.put, List.setIfInBounds_toArray, List.set_cons_zero, List.set_cons_succ])
  iterate 1 (refine q_plain rfl ?_; apply Exists.intro; refine ⟨fun W hW => ?_, ?_⟩; (focus (obtain ⟨x2, y2⟩ := keepB hW z2_2 r2_2 c2_2; obtain ⟨x3, y3⟩ := keepB hW z3_2 r3_2 c3_2; go_simp; first | done | rfl)); simp only [Act.put, List.setIfInBounds_toArray, List.set_cons_zero, List.set_cons_succ])
  (refine q_plain rfl ?_; apply Exists.intro; refine ⟨fun W hW => ?_, ?_⟩; (focus (obtain ⟨x2, y2⟩ := keepB hW z2_2 r2_2 c2_2; obtain ⟨x3, y3⟩ := keepB hW z3_2 r3_2 c3_2; go_simp; (go_at_call 30; exact (toVector_any _ _).mono fun e w2 ⟨he, hw2⟩ => ⟨he, hW.trans (hw2.mono hW.size)⟩))); simp only [Act.put, List.setIfInBounds_toArray, List.set_cons_zero, List.set_cons_succ])
  (refine q_plain rfl ?_; apply Exists.intro; refine ⟨fun W hW => ?_, ?_⟩; (focus (obtain ⟨x2, y2⟩ := keepB hW z2_2 r2_2 c2_2; obtain ⟨x3, y3⟩ := keepB hW z3_2 r3_2 c3_2; go_simp; (go_at_call 47; exact (isGroupLike_any _ _ _ _ _ Hf.out Hv.out).mono fun e w2 ⟨he, hw2⟩ => ⟨he, hW.trans (hw2.mono hW.size)⟩))); simp only [Act.put, List.setIfInBounds_toArray, List.set_cons_zero, List.set_cons_succ])
  iterate 5 (refine q_plain rfl ?_; apply Exists.intro; refine ⟨fun W hW => ?_, ?_⟩; (focus (obtain ⟨x2, y2⟩ := keepB hW z2_2 r2_2 c2_2; obtain ⟨x3, y3⟩ := keepB hW z3_2 r3_2 c3_2; go_simp; first | done | rfl)); simp only [Act.put, List.setIfInBounds_toArray, List.set_cons_zero, List.set_cons_succ])
  refine wpQuiet_nil ?_
  intro W3 hw3
  obtain ⟨r2_3, c2_3⟩ := keepB hw3 z2_2 r2_2 c2_2
  have z2_3 := isRow_lt r2_3
  obtain ⟨r3_3, c3_3⟩ := keepB hw3 z3_2 r3_2 c3_2
  have z3_3 := isRow_lt r3_3
  have hb3 := hb2.trans (hw3.mono hb2.size)
  have q3 := hb3.size
  clear hw3 r2_2 c2_2 z2_2 r3_2 c3_2 z3_2 hb2
  go_wp2_with fail
  go_ret
  exact ⟨rfl, (by (repeat (first | exact hb3 | exact Below.refl _ _ | refine Below.alloc ?_ (by first | omega | (simp; try omega)) _ | refine below_setRow ?_ (by omega) _ | refine Below.drew ?_)))⟩

end Go.Proofs.Ytfdejhhgkpdfdaa
