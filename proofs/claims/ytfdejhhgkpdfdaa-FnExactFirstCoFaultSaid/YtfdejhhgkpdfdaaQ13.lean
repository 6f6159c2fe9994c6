/- The first coassociativity fault: both programs, and the law. -/
import Derived.Test.YtfdejhhgkpdfdaaQ10
import Derived.Test.YtfdejhhgkpdfdaaL2
namespace Go.Proofs.Ytfdejhhgkpdfdaa
open Go.RowKit
set_option linter.unusedSimpArgs false
set_option linter.unusedVariables false
attribute [local irreducible] wpQuiet wpQE

theorem firstCo_eq {p : Int} {n : Nat} {f : Nat → Int} {m m' : Nat} (h : FirstCo p n f m) (h' : FirstCo p n f m') : m = m' := by
  rcases Nat.lt_trichotomy m m' with h1 | h1 | h1
  · have := h'.2.2 m h1; rw [h.2.1] at this; cases this
  · exact h1
  · have := h.2.2 m' h1; rw [h'.2.1] at this; cases this
theorem noCo_not {p : Int} {n : Nat} {f : Nat → Int} (h : ¬ ∃ m, FirstCo p n f m) : NoCo p n f := (co_or p n f).elim id fun x => (h x).elim
open Classical in
noncomputable def fcM (p n : Int) (f : Nat → Int) : Nat := if h : ∃ m, FirstCo p n.toNat f m then h.choose else 0
open Classical in
noncomputable def fcCode (p n : Int) (f : Nat → Int) : Int := if shapeB p n f = true then (if ∃ m, FirstCo p n.toNat f m then 0 else 4) else 1
open Classical in
noncomputable def fcN (p n : Int) (f : Nat → Int) : Nat := if shapeB p n f = true ∧ ∃ m, FirstCo p n.toNat f m then 4 else 0
noncomputable def fcG (p n : Int) (f : Nat → Int) : Nat → Nat → Int := fun i _ => q4 n.toNat (fcM p n f) i
theorem fc_bad {p n : Int} {f : Nat → Int} (h : shapeB p n f = false) : fcCode p n f = 1 ∧ fcN p n f = 0 := by unfold fcCode fcN; rw [h]; simp
theorem fc_none {p : Int} {n : Nat} {f : Nat → Int} (h : shapeB p n f = true) (h2 : ¬ ∃ m, FirstCo p n f m) : fcCode p n f = 4 ∧ fcN p n f = 0 := by
  unfold fcCode fcN
  rw [Int.toNat_natCast, if_pos h, if_neg h2, if_neg fun x => h2 x.2]
  exact ⟨rfl, rfl⟩
theorem fc_some {p : Int} {n m : Nat} {f : Nat → Int} (h : shapeB p n f = true) (h2 : FirstCo p n f m) : fcCode p n f = 0 ∧ fcN p n f = 4 ∧ fcG p n f = fun i _ => q4 n m i := by
  have h3 : ∃ m, FirstCo p n f m := ⟨m, h2⟩
  unfold fcCode fcN fcG fcM
  rw [Int.toNat_natCast, if_pos h, if_pos h3, if_pos ⟨h, h3⟩, dif_pos h3, firstCo_eq h3.choose_spec h2]
  exact ⟨rfl, rfl, rfl⟩
theorem fc_le (p n : Int) (f : Nat → Int) : fcN p n f ≤ 4 := by unfold fcN; split <;> omega
theorem nl_nums {w : World} {B b m : Nat} {F : Nat → Int} (hB : B ≤ b) (hr : IsRow w b) (hc : blk w b = nums m F) (hm : m ≤ 1000) : NL w B w.heap.size (some ⟨b, 0, none⟩) m m fun i _ => F i :=
  .inr ⟨b, F, rfl, hB, isRow_lt hr, hr, Nat.le_refl _, by unfold maxLen; omega, hc, trivial, fun _ _ _ _ => rfl⟩
theorem findCoFault_nl (p : Int) (n : Nat) (f : Nat → Int) (m : Nat) (w : World) (hp : 0 < p) (hp' : p ≤ 255) (hn : n ≤ 8) (hF : Bytes 520 f) (hfi : FirstCo p n f m) :
    Calls Try.prog 77 #[.agg (alg p n f)] w fun e w' => ∃ ad c, e = .returned (.slice (some ad) 4 c) ∧ Below w.heap.size w w' ∧ NL w' w.heap.size w'.heap.size (some ad) 4 c (fun i _ => q4 n m i) :=
  (findCoFault_some p n f m w hp hp' hn hF hfi).mono fun e w' ⟨b, he, hw, hb, hr, hc⟩ => ⟨_, _, he, hw, nl_nums hb hr hc (by omega)⟩
theorem l02Fault_nl (p : Int) (n : Nat) (f : Nat → Int) (m : Nat) (w : World) (hp : 0 < p) (hp' : p ≤ 255) (hn : n ≤ 8) (hF : Bytes 520 f) (hfi : FirstCo p n f m) :
    Calls Try.prog 79 #[.agg (alg p n f)] w fun e w' => ∃ ad c, e = .returned (.tuple #[.slice (some ad) 4 c, .bool true]) ∧ Below w.heap.size w w' ∧ NL w' w.heap.size w'.heap.size (some ad) 4 c (fun i _ => q4 n m i) :=
  (l02Fault_some p n f m w hp hp' hn hF hfi).mono fun e w' ⟨b, he, hw, hb, hr, hc⟩ => ⟨_, _, he, hw, nl_nums hb hr hc (by omega)⟩

set_option maxRecDepth 100000 in
set_option maxHeartbeats 1000000 in
theorem firstCoFault_any (p n : Int) (f : Nat → Int) (w : World) (hF : Bytes 520 f) :
    Calls Try.prog 25 #[.agg (alg p n f)] w fun e w' => ∃ a c, e = .returned (.tuple #[.slice a (fcN p n f) c, .int .i64 (fcCode p n f)]) ∧ Below w.heap.size w w' ∧ NL w' w.heap.size w'.heap.size a (fcN p n f) c (fcG p n f) := by
  have HF := Lib.hid hF; clear hF
  have hn1 := nil_none
  have hn2 := nil_some
  cases hs : shapeB p n f
  · skip
    have HR := Lib.hid (fc_bad hs)
    go_enter Try.func25, Try.ntmps25
    go_wp2_with fail
    refine atomC fun W1 e1 => ?_
    have hb1 : Below w.heap.size w W1 := by rw [e1]; (repeat (first | exact Below.refl _ _ | refine Below.alloc ?_ (by first | omega | (simp; try omega)) _ | refine below_setRow ?_ (by omega) _ | refine Below.drew ?_))
    have q1 := hb1.size
    have r1_1 : IsRow W1 (w.heap.size) := by rw [e1]; simp [go_sem]
    have c1_1 := congrArg (fun x => blk x (w.heap.size)) e1; simp [go_sem] at c1_1
    have z1_1 := isRow_lt r1_1
    clear e1
    refine (isShapedCo_any _ _ _ _ HF.out).mono ?_; rintro _ W2 ⟨rfl, hw2⟩
    obtain ⟨r1_2, c1_2⟩ := keepB hw2 z1_1 r1_1 c1_1
    have z1_2 := isRow_lt r1_2
    have hb2 := hb1.trans (hw2.mono hb1.size)
    have q2 := hb2.size
    clear hw2 r1_1 c1_1 z1_1 hb1
    go_wp2_with fail
    go_ret2
    exact ⟨none, 0, by rw [HR.out.1, HR.out.2]; rfl, (by (repeat (first | exact hb2 | exact Below.refl _ _ | refine Below.alloc ?_ (by first | omega | (simp; try omega)) _ | refine below_setRow ?_ (by omega) _ | refine Below.drew ?_))), NL.nilOf (HR.out.2)⟩
  · skip
    by_cases he : ∃ m, FirstCo p n.toNat f m
    · skip
      obtain ⟨hp2, hp31, hn1, hn8⟩ := sizes_range (shape_parts hs).1
      obtain ⟨n, rfl⟩ := Int.eq_ofNat_of_zero_le (show 0 ≤ n by omega)
      have hn : n ≤ 8 := by omega
      have hp : 0 < p := by omega
      have hp' : p ≤ 255 := by omega
      rw [Int.toNat_natCast] at he
      obtain ⟨m, hm⟩ := he
      have HR := Lib.hid (fc_some hs hm)
      have HM := Lib.hid hm; clear hm
      go_enter Try.func25, Try.ntmps25
      go_wp2_with fail
      refine atomC fun W3 e3 => ?_
      have hb3 : Below w.heap.size w W3 := by rw [e3]; (repeat (first | exact Below.refl _ _ | refine Below.alloc ?_ (by first | omega | (simp; try omega)) _ | refine below_setRow ?_ (by omega) _ | refine Below.drew ?_))
      have q3 := hb3.size
      have r1_3 : IsRow W3 (w.heap.size) := by rw [e3]; simp [go_sem]
      have c1_3 := congrArg (fun x => blk x (w.heap.size)) e3; simp [go_sem] at c1_3
      have z1_3 := isRow_lt r1_3
      clear e3
      refine (isShapedCo_any _ _ _ _ HF.out).mono ?_; rintro _ W4 ⟨rfl, hw4⟩
      obtain ⟨r1_4, c1_4⟩ := keepB hw4 z1_3 r1_3 c1_3
      have z1_4 := isRow_lt r1_4
      have hb4 := hb3.trans (hw4.mono hb3.size)
      have q4 := hb4.size
      clear hw4 r1_3 c1_3 z1_3 hb3
      go_wp2_with fail
      refine (findCoFault_nl _ _ _ _ _ hp hp' hn HF.out HM.out).mono ?_; rintro _ W5 ⟨ad5, c4_5, rfl, hw5, hv4_5⟩
      have sz5 := hw5.size
      have hb5 := hb4.trans (hw5.mono hb4.size)
      have q5 := hb5.size
      clear hw5 hb4
      go_wp2_with fail
      go_ret2
      exact ⟨(some ad5), c4_5, by rw [HR.out.1, HR.out.2.1]; rfl, (by (repeat (first | exact hb5 | exact Below.refl _ _ | refine Below.alloc ?_ (by first | omega | (simp; try omega)) _ | refine below_setRow ?_ (by omega) _ | refine Below.drew ?_))), ((show NL _ _ _ _ (fcN p n f) _ (fcG p n f) from by rw [HR.out.2.1, HR.out.2.2]; exact hv4_5)).wider (by omega) (by omega)⟩
    · skip
      obtain ⟨hp2, hp31, hn1, hn8⟩ := sizes_range (shape_parts hs).1
      obtain ⟨n, rfl⟩ := Int.eq_ofNat_of_zero_le (show 0 ≤ n by omega)
      have hn : n ≤ 8 := by omega
      have hp : 0 < p := by omega
      have hp' : p ≤ 255 := by omega
      rw [Int.toNat_natCast] at he
      have HR := Lib.hid (fc_none hs he)
      have HN := Lib.hid (noCo_not he); clear he
      go_enter Try.func25, Try.ntmps25
      go_wp2_with fail
      refine atomC fun W6 e6 => ?_
      have hb6 : Below w.heap.size w W6 := by rw [e6]; (repeat (first | exact Below.refl _ _ | refine Below.alloc ?_ (by first | omega | (simp; try omega)) _ | refine below_setRow ?_ (by omega) _ | refine Below.drew ?_))
      have q6 := hb6.size
      have r1_6 : IsRow W6 (w.heap.size) := by rw [e6]; simp [go_sem]
      have c1_6 := congrArg (fun x => blk x (w.heap.size)) e6; simp [go_sem] at c1_6
      have z1_6 := isRow_lt r1_6
      clear e6
      refine (isShapedCo_any _ _ _ _ HF.out).mono ?_; rintro _ W7 ⟨rfl, hw7⟩
      obtain ⟨r1_7, c1_7⟩ := keepB hw7 z1_6 r1_6 c1_6
      have z1_7 := isRow_lt r1_7
      have hb7 := hb6.trans (hw7.mono hb6.size)
      have q7 := hb7.size
      clear hw7 r1_6 c1_6 z1_6 hb6
      go_wp2_with fail
      refine (findCoFault_none _ _ _ _ hp hp' hn HF.out HN.out).mono ?_; rintro _ W8 ⟨rfl, hw8⟩
      have hb8 := hb7.trans (hw8.mono hb7.size)
      have q8 := hb8.size
      clear hw8 hb7
      go_wp2_with fail
      go_ret2
      exact ⟨none, 0, by rw [HR.out.1, HR.out.2]; rfl, (by (repeat (first | exact hb8 | exact Below.refl _ _ | refine Below.alloc ?_ (by first | omega | (simp; try omega)) _ | refine below_setRow ?_ (by omega) _ | refine Below.drew ?_))), NL.nilOf (HR.out.2)⟩

set_option maxRecDepth 100000 in
set_option maxHeartbeats 1000000 in
theorem specFirstCoFault_any (p n : Int) (f : Nat → Int) (w : World) (hF : Bytes 520 f) :
    Calls Try.prog 24 #[.agg (alg p n f)] w fun e w' => ∃ a c, e = .returned (.tuple #[.slice a (fcN p n f) c, .int .i64 (fcCode p n f)]) ∧ Below w.heap.size w w' ∧ NL w' w.heap.size w'.heap.size a (fcN p n f) c (fcG p n f) := by
  have HF := Lib.hid hF; clear hF
  cases hs : shapeB p n f
  · skip
    have HR := Lib.hid (fc_bad hs)
    go_enter Try.func24, Try.ntmps24
    go_wp2_with fail
    refine atomC fun W1 e1 => ?_
    have hb1 : Below w.heap.size w W1 := by rw [e1]; (repeat (first | exact Below.refl _ _ | refine Below.alloc ?_ (by first | omega | (simp; try omega)) _ | refine below_setRow ?_ (by omega) _ | refine Below.drew ?_))
    have q1 := hb1.size
    have r1_1 : IsRow W1 (w.heap.size) := by rw [e1]; simp [go_sem]
    have c1_1 := congrArg (fun x => blk x (w.heap.size)) e1; simp [go_sem] at c1_1
    have z1_1 := isRow_lt r1_1
    clear e1
    refine (l02Shape_any _ _ _ _ HF.out).mono ?_; rintro _ W2 ⟨rfl, hw2⟩
    obtain ⟨r1_2, c1_2⟩ := keepB hw2 z1_1 r1_1 c1_1
    have z1_2 := isRow_lt r1_2
    have hb2 := hb1.trans (hw2.mono hb1.size)
    have q2 := hb2.size
    clear hw2 r1_1 c1_1 z1_1 hb1
    go_wp2_with fail
    go_ret2
    exact ⟨none, 0, by rw [HR.out.1, HR.out.2]; rfl, (by (repeat (first | exact hb2 | exact Below.refl _ _ | refine Below.alloc ?_ (by first | omega | (simp; try omega)) _ | refine below_setRow ?_ (by omega) _ | refine Below.drew ?_))), NL.nilOf (HR.out.2)⟩
  · skip
    by_cases he : ∃ m, FirstCo p n.toNat f m
    · skip
      obtain ⟨hp2, hp31, hn1, hn8⟩ := sizes_range (shape_parts hs).1
      obtain ⟨n, rfl⟩ := Int.eq_ofNat_of_zero_le (show 0 ≤ n by omega)
      have hn : n ≤ 8 := by omega
      have hp : 0 < p := by omega
      have hp' : p ≤ 255 := by omega
      rw [Int.toNat_natCast] at he
      obtain ⟨m, hm⟩ := he
      have HR := Lib.hid (fc_some hs hm)
      have HM := Lib.hid hm; clear hm
      go_enter Try.func24, Try.ntmps24
      go_wp2_with fail
      refine atomC fun W3 e3 => ?_
      have hb3 : Below w.heap.size w W3 := by rw [e3]; (repeat (first | exact Below.refl _ _ | refine Below.alloc ?_ (by first | omega | (simp; try omega)) _ | refine below_setRow ?_ (by omega) _ | refine Below.drew ?_))
      have q3 := hb3.size
      have r1_3 : IsRow W3 (w.heap.size) := by rw [e3]; simp [go_sem]
      have c1_3 := congrArg (fun x => blk x (w.heap.size)) e3; simp [go_sem] at c1_3
      have z1_3 := isRow_lt r1_3
      clear e3
      refine (l02Shape_any _ _ _ _ HF.out).mono ?_; rintro _ W4 ⟨rfl, hw4⟩
      obtain ⟨r1_4, c1_4⟩ := keepB hw4 z1_3 r1_3 c1_3
      have z1_4 := isRow_lt r1_4
      have hb4 := hb3.trans (hw4.mono hb3.size)
      have q4 := hb4.size
      clear hw4 r1_3 c1_3 z1_3 hb3
      go_wp2_with fail
      refine (l02Fault_nl _ _ _ _ _ hp hp' hn HF.out HM.out).mono ?_; rintro _ W5 ⟨ad5, c4_5, rfl, hw5, hv4_5⟩
      have sz5 := hw5.size
      have hb5 := hb4.trans (hw5.mono hb4.size)
      have q5 := hb5.size
      clear hw5 hb4
      go_wp2_with fail
      go_ret2
      exact ⟨(some ad5), c4_5, by rw [HR.out.1, HR.out.2.1]; rfl, (by (repeat (first | exact hb5 | exact Below.refl _ _ | refine Below.alloc ?_ (by first | omega | (simp; try omega)) _ | refine below_setRow ?_ (by omega) _ | refine Below.drew ?_))), ((show NL _ _ _ _ (fcN p n f) _ (fcG p n f) from by rw [HR.out.2.1, HR.out.2.2]; exact hv4_5)).wider (by omega) (by omega)⟩
    · skip
      obtain ⟨hp2, hp31, hn1, hn8⟩ := sizes_range (shape_parts hs).1
      obtain ⟨n, rfl⟩ := Int.eq_ofNat_of_zero_le (show 0 ≤ n by omega)
      have hn : n ≤ 8 := by omega
      have hp : 0 < p := by omega
      have hp' : p ≤ 255 := by omega
      rw [Int.toNat_natCast] at he
      have HR := Lib.hid (fc_none hs he)
      have HN := Lib.hid (noCo_not he); clear he
      go_enter Try.func24, Try.ntmps24
      go_wp2_with fail
      refine atomC fun W6 e6 => ?_
      have hb6 : Below w.heap.size w W6 := by rw [e6]; (repeat (first | exact Below.refl _ _ | refine Below.alloc ?_ (by first | omega | (simp; try omega)) _ | refine below_setRow ?_ (by omega) _ | refine Below.drew ?_))
      have q6 := hb6.size
      have r1_6 : IsRow W6 (w.heap.size) := by rw [e6]; simp [go_sem]
      have c1_6 := congrArg (fun x => blk x (w.heap.size)) e6; simp [go_sem] at c1_6
      have z1_6 := isRow_lt r1_6
      clear e6
      refine (l02Shape_any _ _ _ _ HF.out).mono ?_; rintro _ W7 ⟨rfl, hw7⟩
      obtain ⟨r1_7, c1_7⟩ := keepB hw7 z1_6 r1_6 c1_6
      have z1_7 := isRow_lt r1_7
      have hb7 := hb6.trans (hw7.mono hb6.size)
      have q7 := hb7.size
      clear hw7 r1_6 c1_6 z1_6 hb6
      go_wp2_with fail
      refine (l02Fault_none _ _ _ _ hp hp' hn HF.out HN.out).mono ?_; rintro _ W8 ⟨rfl, hw8⟩
      have hb8 := hb7.trans (hw8.mono hb7.size)
      have q8 := hb8.size
      clear hw8 hb7
      go_wp2_with fail
      go_ret2
      exact ⟨none, 0, by rw [HR.out.1, HR.out.2]; rfl, (by (repeat (first | exact hb8 | exact Below.refl _ _ | refine Below.alloc ?_ (by first | omega | (simp; try omega)) _ | refine below_setRow ?_ (by omega) _ | refine Below.drew ?_))), NL.nilOf (HR.out.2)⟩

set_option maxRecDepth 100000 in
set_option maxHeartbeats 2000000 in
theorem lawFirstCoFault (fp fn : Int) (f : Nat → Int) (w : World) (_wfp : (Lit.int .i64 fp).wf = true) (_wfn : (Lit.int .i64 fn).wf = true) (hf : Bytes 520 f) :
    Calls Try.prog 4 #[.agg (alg fp fn f)] w fun e w' => e = .returned (.bool true) ∧ Below w.heap.size w w' := by
  have Hf := Lib.hid hf; clear hf
  have hm : fcN fp fn f ≤ 1000000 := Nat.le_trans (fc_le fp fn f) (by omega)
  go_enter Try.func4, Try.ntmps4
  go_wp2_with fail
  refine atomC fun W1 e1 => ?_
  have hb1 : Below w.heap.size w W1 := by rw [e1]; (repeat (first | exact Below.refl _ _ | refine Below.alloc ?_ (by first | omega | (simp; try omega)) _ | refine below_setRow ?_ (by omega) _ | refine Below.drew ?_))
  have q1 := hb1.size
  have r1_1 : IsRow W1 (w.heap.size) := by rw [e1]; simp [go_sem]
  have c1_1 := congrArg (fun x => blk x (w.heap.size)) e1; simp [go_sem] at c1_1
  have z1_1 := isRow_lt r1_1
  clear e1
  refine (toCoalgebra_any _ _ _ _).mono ?_; rintro _ W2 ⟨rfl, hw2⟩
  obtain ⟨r1_2, c1_2⟩ := keepB hw2 z1_1 r1_1 c1_1
  have z1_2 := isRow_lt r1_2
  have hb2 := hb1.trans (hw2.mono hb1.size)
  have q2 := hb2.size
  clear hw2 r1_1 c1_1 z1_1 hb1
  go_wp2_with fail
  have ltS1n3 : (w.heap.size) < W2.heap.size := z1_2
  refine (specFirstCoFault_any _ _ _ _ Hf.out).mono ?_; rintro _ W3 ⟨aS_3, cS_3, rfl, hw3, hvS_3⟩
  have sz3 := hw3.size
  obtain ⟨r1_3, c1_3⟩ := keepB hw3 z1_2 r1_2 c1_2
  have z1_3 := isRow_lt r1_3
  have hb3 := hb2.trans (hw3.mono hb2.size)
  have q3 := hb3.size
  clear hw3 r1_2 c1_2 z1_2 hb2
  go_wp2_with fail
  refine (toCoalgebra_any _ _ _ _).mono ?_; rintro _ W4 ⟨rfl, hw4⟩
  obtain ⟨r1_4, c1_4⟩ := keepB hw4 z1_3 r1_3 c1_3
  have z1_4 := isRow_lt r1_4
  have hb4 := hb3.trans (hw4.mono hb3.size)
  have q4 := hb4.size
  have sz4 := hw4.size
  have hvS_4 := hvS_3.below hw4 (by omega)
  clear hw4 hvS_3 r1_3 c1_3 z1_3 hb3
  go_wp2_with fail
  have ltG1n5 : (w.heap.size) < W4.heap.size := z1_4
  refine (firstCoFault_any _ _ _ _ Hf.out).mono ?_; rintro _ W5 ⟨aG_5, cG_5, rfl, hw5, hvG_5⟩
  obtain ⟨r1_5, c1_5⟩ := keepB hw5 z1_4 r1_4 c1_4
  have z1_5 := isRow_lt r1_5
  have hb5 := hb4.trans (hw5.mono hb4.size)
  have q5 := hb5.size
  have sz5 := hw5.size
  have hvS_5 := hvS_4.below hw5 (by omega)
  clear hw5 hvS_4 r1_4 c1_4 z1_4 hb4
  go_wp2_with fail
  refine (eqInt64S_any hm hvG_5 hvS_5).mono ?_; rintro _ W6 ⟨rfl, hw6⟩
  obtain ⟨r1_6, c1_6⟩ := keepB hw6 z1_5 r1_5 c1_5
  have z1_6 := isRow_lt r1_6
  have hb6 := hb5.trans (hw6.mono hb5.size)
  have q6 := hb6.size
  have sz6 := hw6.size
  have hvS_6 := hvS_5.below hw6 (by omega)
  have hvG_6 := hvG_5.below hw6 (by omega)
  clear hw6 hvS_5 hvG_5 r1_5 c1_5 z1_5 hb5
  go_wp2_with fail
  refine (markInt64S_all hm (by omega) (by omega) (by omega) hvG_6).mono ?_; rintro _ W7 ⟨rfl, hw7, hvG_7⟩
  obtain ⟨r1_7, c1_7⟩ := keepB hw7 (by have := z1_6; omega) r1_6 c1_6
  have z1_7 := isRow_lt r1_7
  have hb7 := hb6.trans (hw7.mono (by omega))
  have q7 := hb7.size
  have sz7 := hw7.size
  have hvS_7 := hvS_6.below hw7 (by omega)
  clear hw7 hvG_6 hvS_6 r1_6 c1_6 z1_6 hb6
  go_wp2_with fail
  refine (heldInt64S_all hm (by omega) (by omega) hvG_7).mono ?_; rintro _ W8 ⟨rfl, hw8⟩
  obtain ⟨r1_8, c1_8⟩ := keepB hw8 z1_7 r1_7 c1_7
  have z1_8 := isRow_lt r1_8
  have hb8 := hb7.trans (hw8.mono hb7.size)
  have q8 := hb8.size
  have sz8 := hw8.size
  have hvS_8 := hvS_7.below hw8 (by omega)
  have hvG_8 := hvG_7.below hw8 (by omega)
  clear hw8 hvS_7 hvG_7 r1_7 c1_7 z1_7 hb7
  go_wp2_with fail
  refine (toCoalgebra_any _ _ _ _).mono ?_; rintro _ W9 ⟨rfl, hw9⟩
  have hb9 := hb8.trans (hw9.mono hb8.size)
  have q9 := hb9.size
  have sz9 := hw9.size
  have hvS_9 := hvS_8.below hw9 (by omega)
  have hvG_9 := hvG_8.below hw9 (by omega)
  clear hw9 hvS_8 hvG_8 hb8
  go_wp2_with fail
  refine (firstCoFault_any _ _ _ _ Hf.out).mono ?_; rintro _ W10 ⟨aH_10, cH_10, rfl, hw10, hvH_10⟩
  have hb10 := hb9.trans (hw10.mono hb9.size)
  have q10 := hb10.size
  have sz10 := hw10.size
  have hvS_10 := hvS_9.below hw10 (by omega)
  have hvG_10 := hvG_9.below hw10 (by omega)
  clear hw10 hvS_9 hvG_9 hb9
  go_wp2_with fail
  refine (eqInt64S_any hm hvH_10 hvS_10).mono ?_; rintro _ W11 ⟨rfl, hw11⟩
  have hb11 := hb10.trans (hw11.mono hb10.size)
  have q11 := hb11.size
  have sz11 := hw11.size
  have hvS_11 := hvS_10.below hw11 (by omega)
  have hvG_11 := hvG_10.below hw11 (by omega)
  have hvH_11 := hvH_10.below hw11 (by omega)
  clear hw11 hvS_10 hvG_10 hvH_10 hb10
  go_wp2_with fail
  refine (heldInt64S_all hm (by omega) (by omega) hvG_11).mono ?_; rintro _ W12 ⟨rfl, hw12⟩
  have hb12 := hb11.trans (hw12.mono hb11.size)
  have q12 := hb12.size
  have sz12 := hw12.size
  have hvS_12 := hvS_11.below hw12 (by omega)
  have hvG_12 := hvG_11.below hw12 (by omega)
  have hvH_12 := hvH_11.below hw12 (by omega)
  clear hw12 hvS_11 hvG_11 hvH_11 hb11
  go_wp2_with fail
  go_ret
  exact ⟨rfl, (by (repeat (first | exact hb12 | exact Below.refl _ _ | refine Below.alloc ?_ (by first | omega | (simp; try omega)) _ | refine below_setRow ?_ (by omega) _ | refine Below.drew ?_)))⟩

end Go.Proofs.Ytfdejhhgkpdfdaa
