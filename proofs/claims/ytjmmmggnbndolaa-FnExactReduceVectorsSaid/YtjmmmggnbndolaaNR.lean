/- Law ReduceVectors. -/
import Derived.Test.YtjmmmggnbndolaaN3
namespace Go.Proofs.Ytjmmmggnbndolaa
open Go.RowKit
set_option linter.unusedSimpArgs false
set_option linter.unusedVariables false
attribute [local irreducible] wpQuiet wpQE

set_option maxRecDepth 100000 in
set_option maxHeartbeats 4000000 in
theorem lawReduceVectors (p : Int) (n : Int) (va : Option Addr) (vm vc : Nat) (v : Nat → Nat → Int) (w : World) (_wp : (Lit.int .i64 p).wf = true) (_wn : (Lit.int .i64 n).wf = true) (hv : AL w w.heap.size va vm vc v) :
    Calls Try.prog 3 #[.int .i64 p, .int .i64 n, .slice va vm vc] w fun e w' => e = .returned (.bool true) ∧ Below w.heap.size w w' := by
 by_cases hmv : vm ≤ 1000000
 ·
  go_enter Try.func3, Try.ntmps3
  go_wp2_with fail
  refine atomC fun W1 e1 => ?_
  have hb1 : Below w.heap.size w W1 := by rw [e1]; exact bt
  have q1 := hb1.size
  have hvv_1 : AL W1 w.heap.size va vm vc v := by rw [e1]; (repeat (first | exact hv | refine AL.alloc ?_ _ | refine AL.drew ?_ | refine AL.setRow ?_ (by omega) _))
  clear e1 hv
  refine (szVectorS_yes va vm vc _ hmv).mono ?_; rintro _ W2 ⟨rfl, hw2⟩
  obtain ⟨hb2, q2⟩ := bN hb1 hw2
  have sz2 := hw2.size
  have hvv_2 := hvv_1.below hw2 (by omega)
  clear hw2 hvv_1 hb1
  go_wp2_with fail
  refine (toVectorS_false _ va vm vc v _ hmv (by omega) hvv_2).mono ?_; rintro _ W3 ⟨bT_3, rfl, hw3, hvT_3⟩
  obtain ⟨hb3, q3⟩ := bN hb2 hw3
  have sz3 := hw3.size
  have hvv_3 := hvv_2.below hw3 (by omega)
  clear hw3 hvv_2 hb2
  go_wp2_with fail
  refine (specReduceVectors_any p n _ _ _ _ _ _ _ hmv (by omega) (by omega) (hvT_3.cut (Nat.le_add_right _ _) fun i hi t _ => ext_low hi t)).mono ?_; rintro _ W4 ⟨aS_4, cS_4, rfl, hw4, hvS_4⟩
  obtain ⟨hb4, q4⟩ := bN hb3 hw4
  have sz4 := hw4.size
  have hvv_4 := hvv_3.below hw4 (by omega)
  have hvT_4 := hvT_3.below hw4 (by omega)
  clear hw4 hvv_3 hvT_3 hb3
  go_wp2_with fail
  refine (toVectorS_false _ va vm vc v _ hmv (by omega) hvv_4).mono ?_; rintro _ W5 ⟨bX_5, rfl, hw5, hvX_5⟩
  obtain ⟨hb5, q5⟩ := bN hb4 hw5
  have sz5 := hw5.size
  have hvv_5 := hvv_4.below hw5 (by omega)
  have hvT_5 := hvT_4.below hw5 (by omega)
  have hvS_5 := hvS_4.below hw5 (by omega)
  clear hw5 hvv_4 hvT_4 hvS_4 hb4
  go_wp2_with fail
  refine (implReduceVectors_any p n _ _ _ _ _ _ _ hmv (by omega) (by omega) (hvX_5.cut (Nat.le_add_right _ _) fun i hi t _ => ext_low hi t)).mono ?_; rintro _ W6 ⟨aG_6, cG_6, rfl, hw6, hvG_6⟩
  obtain ⟨hb6, q6⟩ := bN hb5 hw6
  have sz6 := hw6.size
  have hvv_6 := hvv_5.below hw6 (by omega)
  have hvT_6 := hvT_5.below hw6 (by omega)
  have hvS_6 := hvS_5.below hw6 (by omega)
  have hvX_6 := hvX_5.below hw6 (by omega)
  clear hw6 hvv_5 hvT_5 hvS_5 hvX_5 hb5
  go_wp2_with fail
  refine (eqVectorS_any (Nat.le_trans (rv_le p n vm v) (by omega)) hvG_6 hvS_6).mono ?_; rintro _ W7 ⟨rfl, hw7⟩
  obtain ⟨hb7, q7⟩ := bN hb6 hw7
  have sz7 := hw7.size
  have hvv_7 := hvv_6.below hw7 (by omega)
  have hvT_7 := hvT_6.below hw7 (by omega)
  have hvS_7 := hvS_6.below hw7 (by omega)
  have hvX_7 := hvX_6.below hw7 (by omega)
  have hvG_7 := hvG_6.below hw7 (by omega)
  clear hw7 hvv_6 hvT_6 hvS_6 hvX_6 hvG_6 hb6
  go_wp2_with fail
  refine (toVectorS_false _ va vm vc v _ hmv (by omega) hvv_7).mono ?_; rintro _ W8 ⟨bY_8, rfl, hw8, hvY_8⟩
  obtain ⟨hb8, q8⟩ := bN hb7 hw8
  have sz8 := hw8.size
  have hvv_8 := hvv_7.below hw8 (by omega)
  have hvT_8 := hvT_7.below hw8 (by omega)
  have hvS_8 := hvS_7.below hw8 (by omega)
  have hvX_8 := hvX_7.below hw8 (by omega)
  have hvG_8 := hvG_7.below hw8 (by omega)
  clear hw8 hvv_7 hvT_7 hvS_7 hvX_7 hvG_7 hb7
  go_wp2_with fail
  refine (intactVectorS_any _ _ vm _ _ _ _ _ v _ hmv rfl (by omega) (by omega) hvX_8 hvY_8).mono ?_; rintro _ W9 ⟨rfl, hw9⟩
  obtain ⟨hb9, q9⟩ := bN hb8 hw9
  have sz9 := hw9.size
  have hvv_9 := hvv_8.below hw9 (by omega)
  have hvT_9 := hvT_8.below hw9 (by omega)
  have hvS_9 := hvS_8.below hw9 (by omega)
  have hvX_9 := hvX_8.below hw9 (by omega)
  have hvG_9 := hvG_8.below hw9 (by omega)
  have hvY_9 := hvY_8.below hw9 (by omega)
  clear hw9 hvv_8 hvT_8 hvS_8 hvX_8 hvG_8 hvY_8 hb8
  go_wp2_with fail
  refine (markVectorS_amid hmv (by omega) (by omega) (by omega) (hvX_9.cut (Nat.le_add_right _ _) fun i hi t _ => ext_low hi t)).mono ?_; rintro _ W10 ⟨rfl, hw10, hx10, hvX_10⟩
  have hb10 := hb9.trans (hw10.mono (by omega))
  have q10 := hb10.size
  have sz10 := hw10.size
  have hvv_10 := hvv_9.below hw10 (by omega)
  have hvS_10 := hvS_9.below hw10 (by omega)
  have hvG_10 := hvG_9.amid hx10 (by omega)
  clear hw10 hvX_9 hvv_9 hvS_9 hvG_9 hb9
  go_wp2_with fail
  refine (eqVectorS_any (Nat.le_trans (rv_le p n vm v) (by omega)) hvG_10 hvS_10).mono ?_; rintro _ W11 ⟨rfl, hw11⟩
  obtain ⟨hb11, q11⟩ := bN hb10 hw11
  have sz11 := hw11.size
  have hvv_11 := hvv_10.below hw11 (by omega)
  have hvS_11 := hvS_10.below hw11 (by omega)
  have hvG_11 := hvG_10.below hw11 (by omega)
  clear hw11 hvv_10 hvS_10 hvG_10 hb10
  go_wp2_with fail
  refine (markVectorS_any (Nat.le_trans (rv_le p n vm v) (by omega)) (by omega) (by omega) (by omega) hvG_11).mono ?_; rintro _ W12 ⟨rfl, hw12, hvG_12⟩
  have hb12 := hb11.trans (hw12.mono (by omega))
  have q12 := hb12.size
  have sz12 := hw12.size
  have hvv_12 := hvv_11.below hw12 (by omega)
  have hvS_12 := hvS_11.below hw12 (by omega)
  clear hw12 hvG_11 hvv_11 hvS_11 hb11
  go_wp2_with fail
  refine (heldVectorS_any (Nat.le_trans (rv_le p n vm v) (by omega)) (by omega) (by omega) hvG_12).mono ?_; rintro _ W13 ⟨rfl, hw13⟩
  obtain ⟨hb13, q13⟩ := bN hb12 hw13
  have sz13 := hw13.size
  have hvv_13 := hvv_12.below hw13 (by omega)
  have hvS_13 := hvS_12.below hw13 (by omega)
  have hvG_13 := hvG_12.below hw13 (by omega)
  clear hw13 hvv_12 hvS_12 hvG_12 hb12
  go_wp2_with fail
  refine (toVectorS_bare _ va vm vc v _ hmv (by omega) hvv_13).mono ?_; rintro _ W14 ⟨aZ_14, cZ_14, rfl, hw14, hvZ_14⟩
  obtain ⟨hb14, q14⟩ := bN hb13 hw14
  have sz14 := hw14.size
  have hvv_14 := hvv_13.below hw14 (by omega)
  have hvS_14 := hvS_13.below hw14 (by omega)
  have hvG_14 := hvG_13.below hw14 (by omega)
  clear hw14 hvv_13 hvS_13 hvG_13 hb13
  go_wp2_with fail
  refine (implReduceVectors_any p n _ _ _ _ _ _ _ hmv (by omega) (by omega) hvZ_14).mono ?_; rintro _ W15 ⟨aH_15, cH_15, rfl, hw15, hvH_15⟩
  obtain ⟨hb15, q15⟩ := bN hb14 hw15
  have sz15 := hw15.size
  have hvv_15 := hvv_14.below hw15 (by omega)
  have hvS_15 := hvS_14.below hw15 (by omega)
  have hvG_15 := hvG_14.below hw15 (by omega)
  have hvZ_15 := hvZ_14.below hw15 (by omega)
  clear hw15 hvv_14 hvS_14 hvG_14 hvZ_14 hb14
  go_wp2_with fail
  refine (eqVectorS_any (Nat.le_trans (rv_le p n vm v) (by omega)) hvH_15 hvS_15).mono ?_; rintro _ W16 ⟨rfl, hw16⟩
  obtain ⟨hb16, q16⟩ := bN hb15 hw16
  have sz16 := hw16.size
  have hvv_16 := hvv_15.below hw16 (by omega)
  have hvS_16 := hvS_15.below hw16 (by omega)
  have hvG_16 := hvG_15.below hw16 (by omega)
  have hvZ_16 := hvZ_15.below hw16 (by omega)
  have hvH_16 := hvH_15.below hw16 (by omega)
  clear hw16 hvv_15 hvS_15 hvG_15 hvZ_15 hvH_15 hb15
  go_wp2_with fail
  refine (heldVectorS_any (Nat.le_trans (rv_le p n vm v) (by omega)) (by omega) (by omega) hvG_16).mono ?_; rintro _ W17 ⟨rfl, hw17⟩
  obtain ⟨hb17, q17⟩ := bN hb16 hw17
  have sz17 := hw17.size
  have hvv_17 := hvv_16.below hw17 (by omega)
  have hvS_17 := hvS_16.below hw17 (by omega)
  have hvG_17 := hvG_16.below hw17 (by omega)
  have hvZ_17 := hvZ_16.below hw17 (by omega)
  have hvH_17 := hvH_16.below hw17 (by omega)
  clear hw17 hvv_16 hvS_16 hvG_16 hvZ_16 hvH_16 hb16
  go_wp2_with fail
  go_ret
  exact ⟨rfl, bt⟩
 ·
  have hmc := Nat.le_trans hv.1 hv.2.1
  go_enter Try.func3, Try.ntmps3
  go_wp2_with fail
  refine atomC fun W18 e18 => ?_
  have hb18 : Below w.heap.size w W18 := by rw [e18]; exact bt
  have q18 := hb18.size
  have hvv_18 : AL W18 w.heap.size va vm vc v := by rw [e18]; (repeat (first | exact hv | refine AL.alloc ?_ _ | refine AL.drew ?_ | refine AL.setRow ?_ (by omega) _))
  clear e18 hv
  refine (szVectorS_no va vm vc _ hmv hmc).mono ?_; rintro _ W19 ⟨rfl, hw19⟩
  obtain ⟨hb19, q19⟩ := bN hb18 hw19
  have sz19 := hw19.size
  have hvv_19 := hvv_18.below hw19 (by omega)
  clear hw19 hvv_18 hb18
  go_wp2_with fail
  go_ret
  exact ⟨rfl, bt⟩

end Go.Proofs.Ytjmmmggnbndolaa
