/- The first axiom that fails, and Hopf algebras, by the reference model. -/
import Derived.Test.YtnjjcimpcnennaaR6
namespace Go.Proofs.Ytnjjcimpcnennaa
open Go.RowKit
set_option linter.unusedSimpArgs false
set_option linter.unusedVariables false
attribute [local irreducible] wpQuiet wpQE

/-- the number of the first of the axioms 1 to 5 that fails, or 0 -/
def biN (p : Int) (n : Nat) (f : Nat → Int) : Int := axN [algB p n f, coB p n (coF f), ax3B p n f, ax4B p f, ax5B p n f] 1
theorem axN_app (l' : List Bool) : ∀ (l : List Bool) (k : Int), 0 < k → axN (l ++ l') k = if axN l k = 0 then axN l' (k + l.length) else axN l k
  | [], k, _ => by simp [axN]
  | false :: l, k, h => by
    show k = if k = 0 then _ else k
    rw [if_neg (by omega)]
  | true :: l, k, h => by
    show axN (l ++ l') (k + 1) = if axN l (k + 1) = 0 then axN l' (k + (l.length + 1 : Nat)) else axN l (k + 1)
    rw [axN_app l' l (k + 1) (by omega), show k + 1 + (l.length : Int) = k + ((l.length + 1 : Nat) : Int) by omega]
theorem fail_app (p : Int) (n : Nat) (f : Nat → Int) : failN p n f = if biN p n f = 0 then axN [ax6B p n f, ax7B p n f] 6 else biN p n f := axN_app [ax6B p n f, ax7B p n f] [algB p n f, coB p n (coF f), ax3B p n f, ax4B p f, ax5B p n f] 1 (by omega)
theorem bi1 {p : Int} {n : Nat} {f : Nat → Int} (h1 : algB p n f = false) : biN p n f = 1 := by unfold biN; rw [h1]; rfl
theorem bi2 {p : Int} {n : Nat} {f : Nat → Int} (h1 : algB p n f = true) (h2 : coB p n (coF f) = false) : biN p n f = 2 := by unfold biN; rw [h1, h2]; rfl
theorem bi3 {p : Int} {n : Nat} {f : Nat → Int} (h1 : algB p n f = true) (h2 : coB p n (coF f) = true) (h3 : ax3B p n f = false) : biN p n f = 3 := by unfold biN; rw [h1, h2, h3]; rfl
theorem bi4 {p : Int} {n : Nat} {f : Nat → Int} (h1 : algB p n f = true) (h2 : coB p n (coF f) = true) (h3 : ax3B p n f = true) (h4 : ax4B p f = false) : biN p n f = 4 := by unfold biN; rw [h1, h2, h3, h4]; rfl
theorem bi5 {p : Int} {n : Nat} {f : Nat → Int} (h1 : algB p n f = true) (h2 : coB p n (coF f) = true) (h3 : ax3B p n f = true) (h4 : ax4B p f = true) (h5 : ax5B p n f = false) : biN p n f = 5 := by unfold biN; rw [h1, h2, h3, h4, h5]; rfl
theorem bi0 {p : Int} {n : Nat} {f : Nat → Int} (h1 : algB p n f = true) (h2 : coB p n (coF f) = true) (h3 : ax3B p n f = true) (h4 : ax4B p f = true) (h5 : ax5B p n f = true) : biN p n f = 0 := by unfold biN; rw [h1, h2, h3, h4, h5]; rfl

set_option maxRecDepth 100000 in
set_option maxHeartbeats 8000000 in
theorem l03Bialgebra_any (p : Int) (n : Nat) (f : Nat → Int) (w : World) (hp : 0 < p) (hp' : p ≤ 255) (hn : n ≤ 8) (hF : Bytes 1104 f) (hs : shapeH p n f = true) :
    Calls Try.prog 72 #[.agg (hop p n f)] w fun e w' => e = .returned (.int .i64 (biN p n f)) ∧ Below w.heap.size w w' := by
  have HF := Lib.hid hF; clear hF
  have Hs := Lib.hid hs; clear hs
  have HC : Hid (Bytes 8 (coF f)) := Lib.hid (unit_bytes (co_bytes HF.out))
  have HU : Hid (Bytes 8 f) := Lib.hid (unit_bytes (hop_bytes HF.out))
  have HZ : Hid (Bytes 8 zf) := Lib.hid fun t _ => by unfold zf; omega
  have hp0 : ¬ p = 0 := by omega
  cases ha : algB p n f
  · skip
    have H := Lib.hid (bi1 (n := n) ha)
    go_enter Try.func72, Try.ntmps72
    go_wp2
    refine atomW fun W1 e1 => ?_
    have hb1 : Below w.heap.size w W1 := by rw [e1]; (repeat (first | exact Below.refl _ _ | refine Below.alloc ?_ (by first | omega | (simp; try omega)) _ | refine below_setRow ?_ (by omega) _ | refine Below.drew ?_))
    have q1 := hb1.size
    have r1_1 : IsRow W1 (w.heap.size) := by rw [e1]; simp [go_sem]
    have c1_1 := congrArg (fun x => blk x (w.heap.size)) e1; simp [go_sem] at c1_1
    have z1_1 := isRow_lt r1_1
    clear e1
    refine wp_quiet_made1 4 6 _ (alg 0 0 zf) 40 (by kernel_rfl) rfl rfl (by omega) (by kernel_rfl) (fun a W => (xallocAlg _ _ _ _ _ _ _).trans (allocAlg W)) ?_
    simp only [List.take_succ_cons, List.take_zero, List.drop_succ_cons, List.drop_zero, List.eraseIdx_cons_succ, List.eraseIdx_cons_zero]
    iterate 3 (refine e_plain rfl ?_; apply Exists.intro; refine ⟨fun D hD hK W hW => ?_, ?_⟩; (focus (obtain ⟨x1, y1⟩ := keepB (hD W hW) z1_1 r1_1 c1_1; unfold Oper.quietAt; go_simp; first | done | rfl)); simp only [Act.put, List.setIfInBounds_toArray, List.set_cons_zero, List.set_cons_succ])
    (refine e_plain rfl ?_; apply Exists.intro; refine ⟨fun D hD hK W hW => ?_, ?_⟩; (focus (obtain ⟨x1, y1⟩ := keepB (hD W hW) z1_1 r1_1 c1_1; unfold Oper.quietAt; go_simp; (go_at_call 40; exact (l03Algebra_any _ _ _ _).mono fun e w2 ⟨he, hw2⟩ => ⟨he, hK _ _ hW hw2⟩))); simp only [Act.put, List.setIfInBounds_toArray, List.set_cons_zero, List.set_cons_succ])
    iterate 1 (refine e_plain rfl ?_; apply Exists.intro; refine ⟨fun D hD hK W hW => ?_, ?_⟩; (focus (obtain ⟨x1, y1⟩ := keepB (hD W hW) z1_1 r1_1 c1_1; unfold Oper.quietAt; go_simp; first | done | rfl)); simp only [Act.put, List.setIfInBounds_toArray, List.set_cons_zero, List.set_cons_succ])
    refine e_nil ?_
    intro a2 W2 hW2
    obtain ⟨hw2, hl2, m1_2, m2_2⟩ := hW2
    have n1_4 : (w.heap.size) ≠ (a2) := by have := z1_1; omega
    have n4_1 : (a2) ≠ (w.heap.size) := by have := z1_1; omega
    obtain ⟨r1_2, c1_2⟩ := keepB hw2 z1_1 r1_1 c1_1
    have z1_2 := isRow_lt r1_2
    have hb2 := hb1.trans (hw2.mono hb1.size)
    have q2 := hb2.size
    clear hw2 r1_1 c1_1 z1_1 hb1
    have z4_2 := isRow_lt m1_2
    simp only [Act.put, List.setIfInBounds_toArray, List.set_cons_zero, List.set_cons_succ]
    go_wp2_with fail
    refine atomC fun W3 e3 => ?_
    have hb3 : Below w.heap.size w W3 := by rw [e3]; (repeat (first | exact hb2 | exact Below.refl _ _ | refine Below.alloc ?_ (by first | omega | (simp; try omega)) _ | refine below_setRow ?_ (by omega) _ | refine Below.drew ?_))
    have q3 := hb3.size
    have r1_3 : IsRow W3 (w.heap.size) := by rw [e3]; simp [go_sem, r1_2, c1_2, n1_4, m1_2]
    have c1_3 := congrArg (fun x => blk x (w.heap.size)) e3; simp [go_sem, r1_2, c1_2, n1_4, m1_2] at c1_3
    have z1_3 := isRow_lt r1_3
    clear e3 r1_2 c1_2 z1_2 hb2
    refine (l01Is_any _ _ _ _ (hop_bytes HF.out)).mono ?_; rintro _ W4 ⟨rfl, hw4⟩
    obtain ⟨r1_4, c1_4⟩ := keepB hw4 z1_3 r1_3 c1_3
    have z1_4 := isRow_lt r1_4
    have hb4 := hb3.trans (hw4.mono hb3.size)
    have q4 := hb4.size
    clear hw4 r1_3 c1_3 z1_3 hb3
    go_wp2_with fail
    go_ret
    exact ⟨ret_int (by rw [H.out]), (by (repeat (first | exact hb4 | exact Below.refl _ _ | refine Below.alloc ?_ (by first | omega | (simp; try omega)) _ | refine below_setRow ?_ (by omega) _ | refine Below.drew ?_)))⟩
  · skip
    cases hc : coB p n (coF f)
    · skip
      have H := Lib.hid (bi2 (n := n) ha hc)
      go_enter Try.func72, Try.ntmps72
      go_wp2
      refine atomW fun W5 e5 => ?_
      have hb5 : Below w.heap.size w W5 := by rw [e5]; (repeat (first | exact Below.refl _ _ | refine Below.alloc ?_ (by first | omega | (simp; try omega)) _ | refine below_setRow ?_ (by omega) _ | refine Below.drew ?_))
      have q5 := hb5.size
      have r1_5 : IsRow W5 (w.heap.size) := by rw [e5]; simp [go_sem]
      have c1_5 := congrArg (fun x => blk x (w.heap.size)) e5; simp [go_sem] at c1_5
      have z1_5 := isRow_lt r1_5
      clear e5
      refine wp_quiet_made1 4 6 _ (alg 0 0 zf) 40 (by kernel_rfl) rfl rfl (by omega) (by kernel_rfl) (fun a W => (xallocAlg _ _ _ _ _ _ _).trans (allocAlg W)) ?_
      simp only [List.take_succ_cons, List.take_zero, List.drop_succ_cons, List.drop_zero, List.eraseIdx_cons_succ, List.eraseIdx_cons_zero]
      iterate 3 (refine e_plain rfl ?_; apply Exists.intro; refine ⟨fun D hD hK W hW => ?_, ?_⟩; (focus (obtain ⟨x1, y1⟩ := keepB (hD W hW) z1_5 r1_5 c1_5; unfold Oper.quietAt; go_simp; first | done | rfl)); simp only [Act.put, List.setIfInBounds_toArray, List.set_cons_zero, List.set_cons_succ])
      (refine e_plain rfl ?_; apply Exists.intro; refine ⟨fun D hD hK W hW => ?_, ?_⟩; (focus (obtain ⟨x1, y1⟩ := keepB (hD W hW) z1_5 r1_5 c1_5; unfold Oper.quietAt; go_simp; (go_at_call 40; exact (l03Algebra_any _ _ _ _).mono fun e w2 ⟨he, hw2⟩ => ⟨he, hK _ _ hW hw2⟩))); simp only [Act.put, List.setIfInBounds_toArray, List.set_cons_zero, List.set_cons_succ])
      iterate 1 (refine e_plain rfl ?_; apply Exists.intro; refine ⟨fun D hD hK W hW => ?_, ?_⟩; (focus (obtain ⟨x1, y1⟩ := keepB (hD W hW) z1_5 r1_5 c1_5; unfold Oper.quietAt; go_simp; first | done | rfl)); simp only [Act.put, List.setIfInBounds_toArray, List.set_cons_zero, List.set_cons_succ])
      refine e_nil ?_
      intro a6 W6 hW6
      obtain ⟨hw6, hl6, m1_6, m2_6⟩ := hW6
      have n1_4 : (w.heap.size) ≠ (a6) := by have := z1_5; omega
      have n4_1 : (a6) ≠ (w.heap.size) := by have := z1_5; omega
      obtain ⟨r1_6, c1_6⟩ := keepB hw6 z1_5 r1_5 c1_5
      have z1_6 := isRow_lt r1_6
      have hb6 := hb5.trans (hw6.mono hb5.size)
      have q6 := hb6.size
      clear hw6 r1_5 c1_5 z1_5 hb5
      have z4_6 := isRow_lt m1_6
      simp only [Act.put, List.setIfInBounds_toArray, List.set_cons_zero, List.set_cons_succ]
      go_wp2_with fail
      refine atomC fun W7 e7 => ?_
      have hb7 : Below w.heap.size w W7 := by rw [e7]; (repeat (first | exact hb6 | exact Below.refl _ _ | refine Below.alloc ?_ (by first | omega | (simp; try omega)) _ | refine below_setRow ?_ (by omega) _ | refine Below.drew ?_))
      have q7 := hb7.size
      have r1_7 : IsRow W7 (w.heap.size) := by rw [e7]; simp [go_sem, r1_6, c1_6, n1_4, m1_6]
      have c1_7 := congrArg (fun x => blk x (w.heap.size)) e7; simp [go_sem, r1_6, c1_6, n1_4, m1_6] at c1_7
      have z1_7 := isRow_lt r1_7
      clear e7 r1_6 c1_6 z1_6 hb6
      refine (l01Is_any _ _ _ _ (hop_bytes HF.out)).mono ?_; rintro _ W8 ⟨rfl, hw8⟩
      obtain ⟨r1_8, c1_8⟩ := keepB hw8 z1_7 r1_7 c1_7
      have z1_8 := isRow_lt r1_8
      have hb8 := hb7.trans (hw8.mono hb7.size)
      have q8 := hb8.size
      clear hw8 r1_7 c1_7 z1_7 hb7
      go_wp2_with fail
      refine (l03Coalgebra_any _ _ _ _).mono ?_; rintro _ W9 ⟨rfl, hw9⟩
      obtain ⟨r1_9, c1_9⟩ := keepB hw9 z1_8 r1_8 c1_8
      have z1_9 := isRow_lt r1_9
      have hb9 := hb8.trans (hw9.mono hb8.size)
      have q9 := hb9.size
      clear hw9 r1_8 c1_8 z1_8 hb8
      go_wp2_with fail
      refine (l02Is_any _ _ _ _ (co_bytes HF.out)).mono ?_; rintro _ W10 ⟨rfl, hw10⟩
      obtain ⟨r1_10, c1_10⟩ := keepB hw10 z1_9 r1_9 c1_9
      have z1_10 := isRow_lt r1_10
      have hb10 := hb9.trans (hw10.mono hb9.size)
      have q10 := hb10.size
      clear hw10 r1_9 c1_9 z1_9 hb9
      go_wp2_with fail
      go_ret
      exact ⟨ret_int (by rw [H.out]), (by (repeat (first | exact hb10 | exact Below.refl _ _ | refine Below.alloc ?_ (by first | omega | (simp; try omega)) _ | refine below_setRow ?_ (by omega) _ | refine Below.drew ?_)))⟩
    · skip
      go_enter Try.func72, Try.ntmps72
      go_wp2
      refine atomW fun W11 e11 => ?_
      have hb11 : Below w.heap.size w W11 := by rw [e11]; (repeat (first | exact Below.refl _ _ | refine Below.alloc ?_ (by first | omega | (simp; try omega)) _ | refine below_setRow ?_ (by omega) _ | refine Below.drew ?_))
      have q11 := hb11.size
      have r1_11 : IsRow W11 (w.heap.size) := by rw [e11]; simp [go_sem]
      have c1_11 := congrArg (fun x => blk x (w.heap.size)) e11; simp [go_sem] at c1_11
      have z1_11 := isRow_lt r1_11
      clear e11
      refine wp_quiet_made1 4 6 _ (alg 0 0 zf) 40 (by kernel_rfl) rfl rfl (by omega) (by kernel_rfl) (fun a W => (xallocAlg _ _ _ _ _ _ _).trans (allocAlg W)) ?_
      simp only [List.take_succ_cons, List.take_zero, List.drop_succ_cons, List.drop_zero, List.eraseIdx_cons_succ, List.eraseIdx_cons_zero]
      iterate 3 (refine e_plain rfl ?_; apply Exists.intro; refine ⟨fun D hD hK W hW => ?_, ?_⟩; (focus (obtain ⟨x1, y1⟩ := keepB (hD W hW) z1_11 r1_11 c1_11; unfold Oper.quietAt; go_simp; first | done | rfl)); simp only [Act.put, List.setIfInBounds_toArray, List.set_cons_zero, List.set_cons_succ])
      (refine e_plain rfl ?_; apply Exists.intro; refine ⟨fun D hD hK W hW => ?_, ?_⟩; (focus (obtain ⟨x1, y1⟩ := keepB (hD W hW) z1_11 r1_11 c1_11; unfold Oper.quietAt; go_simp; (go_at_call 40; exact (l03Algebra_any _ _ _ _).mono fun e w2 ⟨he, hw2⟩ => ⟨he, hK _ _ hW hw2⟩))); simp only [Act.put, List.setIfInBounds_toArray, List.set_cons_zero, List.set_cons_succ])
      iterate 1 (refine e_plain rfl ?_; apply Exists.intro; refine ⟨fun D hD hK W hW => ?_, ?_⟩; (focus (obtain ⟨x1, y1⟩ := keepB (hD W hW) z1_11 r1_11 c1_11; unfold Oper.quietAt; go_simp; first | done | rfl)); simp only [Act.put, List.setIfInBounds_toArray, List.set_cons_zero, List.set_cons_succ])
      refine e_nil ?_
      intro a12 W12 hW12
      obtain ⟨hw12, hl12, m1_12, m2_12⟩ := hW12
      have n1_4 : (w.heap.size) ≠ (a12) := by have := z1_11; omega
      have n4_1 : (a12) ≠ (w.heap.size) := by have := z1_11; omega
      obtain ⟨r1_12, c1_12⟩ := keepB hw12 z1_11 r1_11 c1_11
      have z1_12 := isRow_lt r1_12
      have hb12 := hb11.trans (hw12.mono hb11.size)
      have q12 := hb12.size
      clear hw12 r1_11 c1_11 z1_11 hb11
      have z4_12 := isRow_lt m1_12
      simp only [Act.put, List.setIfInBounds_toArray, List.set_cons_zero, List.set_cons_succ]
      go_wp2_with fail
      refine atomC fun W13 e13 => ?_
      have hb13 : Below w.heap.size w W13 := by rw [e13]; (repeat (first | exact hb12 | exact Below.refl _ _ | refine Below.alloc ?_ (by first | omega | (simp; try omega)) _ | refine below_setRow ?_ (by omega) _ | refine Below.drew ?_))
      have q13 := hb13.size
      have r1_13 : IsRow W13 (w.heap.size) := by rw [e13]; simp [go_sem, r1_12, c1_12, n1_4, m1_12]
      have c1_13 := congrArg (fun x => blk x (w.heap.size)) e13; simp [go_sem, r1_12, c1_12, n1_4, m1_12] at c1_13
      have z1_13 := isRow_lt r1_13
      clear e13 r1_12 c1_12 z1_12 hb12
      refine (l01Is_any _ _ _ _ (hop_bytes HF.out)).mono ?_; rintro _ W14 ⟨rfl, hw14⟩
      obtain ⟨r1_14, c1_14⟩ := keepB hw14 z1_13 r1_13 c1_13
      have z1_14 := isRow_lt r1_14
      have hb14 := hb13.trans (hw14.mono hb13.size)
      have q14 := hb14.size
      clear hw14 r1_13 c1_13 z1_13 hb13
      go_wp2_with fail
      refine (l03Coalgebra_any _ _ _ _).mono ?_; rintro _ W15 ⟨rfl, hw15⟩
      obtain ⟨r1_15, c1_15⟩ := keepB hw15 z1_14 r1_14 c1_14
      have z1_15 := isRow_lt r1_15
      have hb15 := hb14.trans (hw15.mono hb14.size)
      have q15 := hb15.size
      clear hw15 r1_14 c1_14 z1_14 hb14
      go_wp2_with fail
      refine (l02Is_any _ _ _ _ (co_bytes HF.out)).mono ?_; rintro _ W16 ⟨rfl, hw16⟩
      obtain ⟨r1_16, c1_16⟩ := keepB hw16 z1_15 r1_15 c1_15
      have z1_16 := isRow_lt r1_16
      have hb16 := hb15.trans (hw16.mono hb15.size)
      have q16 := hb16.size
      clear hw16 r1_15 c1_15 z1_15 hb15
      go_wp2
      go_loopw [5] (fun s5 wr => ∃ i : Nat, i ≤ n ∧ s5 = .int .i64 i ∧ Below w.heap.size w wr ∧ (IsRow wr (w.heap.size) ∧ blk wr (w.heap.size) = blk W16 (w.heap.size)) ∧ ∀ a, a < i → ax3R p n f a = true) (fun s5 _ => n - (intOf s5).toNat)
      case atStart => exact ⟨0, by omega, rfl, hb16, ⟨r1_16, rfl⟩, fun a ha => by omega⟩
      case round =>
        obtain ⟨i, hle17, rfl, hb17, ⟨r1_17, c1_17⟩, hx17⟩ := hrel
        obtain ⟨W17, rfl⟩ : ∃ W17 : World, W17 = wr := ⟨_, rfl⟩
        have q17 := hb17.size
        have HX17 := Lib.hid hx17; clear hx17
        have E1_17 := Lib.hid c1_16; replace c1_17 := c1_17.trans c1_16
        have z1_17 := isRow_lt r1_17
        clear r1_16 c1_16 z1_16 hb16
        by_cases hlt17 : i < n
        · skip
          have i0_17 : (0 : Int) ≤ (i : Int) := by omega
          have i8_17 : (i : Int) < 8 := by omega
          have k8_17 : i < 8 := by omega
          have m8_17 : i * 8 + 8 ≤ 64 := by omega
          have m64_17 : i * 64 + 64 ≤ 512 := by omega
          have l1_17 : 10 + i * 64 + 64 ≤ 522 := by omega
          go_wp2
          go_loopw [6] (fun s6 wr => ∃ j : Nat, j ≤ n ∧ s6 = .int .i64 j ∧ Below w.heap.size w wr ∧ (IsRow wr (w.heap.size) ∧ blk wr (w.heap.size) = blk W17 (w.heap.size)) ∧ (∀ a, a < i → ax3R p n f a = true) ∧ (∀ b, b < j → ax3At p n f i b = true)) (fun s6 _ => n - (intOf s6).toNat)
          case atStart => exact ⟨0, by omega, rfl, hb17, ⟨r1_17, rfl⟩, ⟨HX17.out, fun b hb => by omega⟩⟩
          case round =>
            obtain ⟨j, hle18, rfl, hb18, ⟨r1_18, c1_18⟩, hx18⟩ := hrel
            obtain ⟨W18, rfl⟩ : ∃ W18 : World, W18 = wr := ⟨_, rfl⟩
            have q18 := hb18.size
            have HX18 := Lib.hid hx18; clear hx18
            have E1_18 := Lib.hid c1_17; replace c1_18 := c1_18.trans c1_17
            have z1_18 := isRow_lt r1_18
            clear r1_17 c1_17 z1_17 hb17
            by_cases hlt18 : j < n
            · skip
              have i0_18 : (0 : Int) ≤ (j : Int) := by omega
              have i8_18 : (j : Int) < 8 := by omega
              have k8_18 : j < 8 := by omega
              have m8_18 : j * 8 + 8 ≤ 64 := by omega
              have m64_18 : j * 64 + 64 ≤ 512 := by omega
              have l1_18 : 10 + j * 64 + 64 ≤ 522 := by omega
              have l2_18i : 10 + i * 64 + j * 8 + 8 ≤ 522 := by omega
              have l3_18i : 10 + j * 64 + i * 8 + 8 ≤ 522 := by omega
              have l4_18i : i * 64 + j * 8 + 8 ≤ 512 := by omega
              have l5_18i : j * 64 + i * 8 + 8 ≤ 512 := by omega
              have l6_18i : i * 8 + j < 64 := by omega
              have l7_18i : j * 8 + i < 64 := by omega
              cases h0 : ax3At p n f i j
              · skip
                have HV : Hid (Bytes 8 (mtab f i j)) := Lib.hid (mtab_bytes (hop_bytes HF.out) i j (by omega) (by omega))
                have e8 := hop_mul8 p n f i j (by omega) (by omega)
                have e7 := hop_comF p n f i (by omega)
                have e6 := hop_comF p n f j (by omega)
                have HI := Lib.hid (comF_bytes HF.out i (by omega)); have HJ := Lib.hid (comF_bytes HF.out j (by omega))
                have l8 : 530 + i * 64 + 64 ≤ 1106 := by omega
                have l9 : 530 + j * 64 + 64 ≤ 1106 := by omega
                have l7 : 10 + i * 64 + j * 8 + 8 ≤ 1106 := by omega
                have h1 : segEq 0 64 (copS p (coF f) (mtab f i j) n n 0) (ppS p n f (comF f i) (comF f j) n 0) = false := (ax3_spec hn Hs.out i j).trans h0
                have H := Lib.hid (bi3 (n := n) ha hc (all_no (q := ax3R p n f) i n (by omega) (all_no (q := ax3At p n f i) j n (by omega) h0)))
                go_wp2
                refine wp_quiet_all (Below W18.heap.size W18) (by kernel_rfl) (by kernel_rfl) (Below.refl _ _).drew ?_
                iterate 7 (refine q_plain rfl ?_; apply Exists.intro; refine ⟨fun W hW => ?_, ?_⟩; (focus (obtain ⟨x1, y1⟩ := keepB hW z1_18 r1_18 c1_18; go_simp; first | done | rfl)); simp only [Act.put, List.setIfInBounds_toArray, List.set_cons_zero, List.set_cons_succ])
                (refine q_plain rfl ?_; apply Exists.intro; refine ⟨fun W hW => ?_, ?_⟩; (focus (obtain ⟨x1, y1⟩ := keepB hW z1_18 r1_18 c1_18; go_simp; (go_at_call 46; exact (l03Coproduct_any p n f _ _ hp hp' hn HF.out HV.out).mono fun e w2 ⟨he, hw2⟩ => ⟨he, hW.trans (hw2.mono hW.size)⟩))); simp only [Act.put, List.setIfInBounds_toArray, List.set_cons_zero, List.set_cons_succ])
                iterate 9 (refine q_plain rfl ?_; apply Exists.intro; refine ⟨fun W hW => ?_, ?_⟩; (focus (obtain ⟨x1, y1⟩ := keepB hW z1_18 r1_18 c1_18; go_simp; first | done | rfl)); simp only [Act.put, List.setIfInBounds_toArray, List.set_cons_zero, List.set_cons_succ])
                (refine q_plain rfl ?_; apply Exists.intro; refine ⟨fun W hW => ?_, ?_⟩; (focus (obtain ⟨x1, y1⟩ := keepB hW z1_18 r1_18 c1_18; go_simp; (go_at_call 92; exact (l03Pairs_any p n f (comF f i) (comF f j) _ hp hp' hn HF.out HI.out HJ.out).mono fun e w2 ⟨he, hw2⟩ => ⟨he, hW.trans (hw2.mono hW.size)⟩))); simp only [Act.put, List.setIfInBounds_toArray, List.set_cons_zero, List.set_cons_succ])
                iterate 1 (refine q_plain rfl ?_; apply Exists.intro; refine ⟨fun W hW => ?_, ?_⟩; (focus (obtain ⟨x1, y1⟩ := keepB hW z1_18 r1_18 c1_18; go_simp; first | done | rfl)); simp only [Act.put, List.setIfInBounds_toArray, List.set_cons_zero, List.set_cons_succ])
                refine wpQuiet_nil ?_
                intro W19 hw19
                obtain ⟨r1_19, c1_19⟩ := keepB hw19 z1_18 r1_18 c1_18
                have z1_19 := isRow_lt r1_19
                have hb19 := hb18.trans (hw19.mono hb18.size)
                have q19 := hb19.size
                clear hw19 r1_18 c1_18 z1_18 hb18
                go_wp2_with fail
                go_ret
                exact ⟨ret_int (by rw [H.out]), (by (repeat (first | exact hb19 | exact Below.refl _ _ | refine Below.alloc ?_ (by first | omega | (simp; try omega)) _ | refine below_setRow ?_ (by omega) _ | refine Below.drew ?_)))⟩
              · skip
                have HV : Hid (Bytes 8 (mtab f i j)) := Lib.hid (mtab_bytes (hop_bytes HF.out) i j (by omega) (by omega))
                have e8 := hop_mul8 p n f i j (by omega) (by omega)
                have e7 := hop_comF p n f i (by omega)
                have e6 := hop_comF p n f j (by omega)
                have HI := Lib.hid (comF_bytes HF.out i (by omega)); have HJ := Lib.hid (comF_bytes HF.out j (by omega))
                have l8 : 530 + i * 64 + 64 ≤ 1106 := by omega
                have l9 : 530 + j * 64 + 64 ≤ 1106 := by omega
                have l7 : 10 + i * 64 + j * 8 + 8 ≤ 1106 := by omega
                have h1 : segEq 0 64 (copS p (coF f) (mtab f i j) n n 0) (ppS p n f (comF f i) (comF f j) n 0) = true := (ax3_spec hn Hs.out i j).trans h0
                have H := Lib.hid (upto_more (q := ax3At p n f i) HX18.out.2 h0)
                have H2 := Lib.hid HX18.out.1
                go_wp2
                refine wp_quiet_all (Below W18.heap.size W18) (by kernel_rfl) (by kernel_rfl) (Below.refl _ _).drew ?_
                iterate 7 (refine q_plain rfl ?_; apply Exists.intro; refine ⟨fun W hW => ?_, ?_⟩; (focus (obtain ⟨x1, y1⟩ := keepB hW z1_18 r1_18 c1_18; go_simp; first | done | rfl)); simp only [Act.put, List.setIfInBounds_toArray, List.set_cons_zero, List.set_cons_succ])
                (refine q_plain rfl ?_; apply Exists.intro; refine ⟨fun W hW => ?_, ?_⟩; (focus (obtain ⟨x1, y1⟩ := keepB hW z1_18 r1_18 c1_18; go_simp; (go_at_call 46; exact (l03Coproduct_any p n f _ _ hp hp' hn HF.out HV.out).mono fun e w2 ⟨he, hw2⟩ => ⟨he, hW.trans (hw2.mono hW.size)⟩))); simp only [Act.put, List.setIfInBounds_toArray, List.set_cons_zero, List.set_cons_succ])
                iterate 9 (refine q_plain rfl ?_; apply Exists.intro; refine ⟨fun W hW => ?_, ?_⟩; (focus (obtain ⟨x1, y1⟩ := keepB hW z1_18 r1_18 c1_18; go_simp; first | done | rfl)); simp only [Act.put, List.setIfInBounds_toArray, List.set_cons_zero, List.set_cons_succ])
                (refine q_plain rfl ?_; apply Exists.intro; refine ⟨fun W hW => ?_, ?_⟩; (focus (obtain ⟨x1, y1⟩ := keepB hW z1_18 r1_18 c1_18; go_simp; (go_at_call 92; exact (l03Pairs_any p n f (comF f i) (comF f j) _ hp hp' hn HF.out HI.out HJ.out).mono fun e w2 ⟨he, hw2⟩ => ⟨he, hW.trans (hw2.mono hW.size)⟩))); simp only [Act.put, List.setIfInBounds_toArray, List.set_cons_zero, List.set_cons_succ])
                iterate 1 (refine q_plain rfl ?_; apply Exists.intro; refine ⟨fun W hW => ?_, ?_⟩; (focus (obtain ⟨x1, y1⟩ := keepB hW z1_18 r1_18 c1_18; go_simp; first | done | rfl)); simp only [Act.put, List.setIfInBounds_toArray, List.set_cons_zero, List.set_cons_succ])
                refine wpQuiet_nil ?_
                intro W20 hw20
                obtain ⟨r1_20, c1_20⟩ := keepB hw20 z1_18 r1_18 c1_18
                have z1_20 := isRow_lt r1_20
                have hb20 := hb18.trans (hw20.mono hb18.size)
                have q20 := hb20.size
                clear hw20 r1_18 c1_18 z1_18 hb18
                go_wp2
                go_roundw
                case rel => exact ⟨j + 1, by omega, by go_num, (by (repeat (first | exact hb20 | exact Below.refl _ _ | refine Below.alloc ?_ (by first | omega | (simp; try omega)) _ | refine below_setRow ?_ (by omega) _ | refine Below.drew ?_))), ⟨by simp [go_sem, r1_20, c1_20], (by rw [E1_18.out]; first | exact c1_20 | (simp [go_sem, r1_20, c1_20]; done))⟩, ⟨H2.out, H.out⟩⟩
                case measure => simp [intOf]; try omega
            · skip
              obtain rfl : n = j := by omega
              have H := Lib.hid (upto_more (q := ax3R p n f) HX18.out.1 (all_yes (q := ax3At p n f i) n HX18.out.2))
              go_wp2
              go_roundw
              case rel => exact ⟨i + 1, by omega, by go_num, (by (repeat (first | exact hb18 | exact Below.refl _ _ | refine Below.alloc ?_ (by first | omega | (simp; try omega)) _ | refine below_setRow ?_ (by omega) _ | refine Below.drew ?_))), ⟨by simp [go_sem, r1_18, c1_18], (by rw [E1_17.out]; first | exact c1_18 | (simp [go_sem, r1_18, c1_18]; done))⟩, H.out⟩
              case measure => simp [intOf]; try omega
        · skip
          obtain rfl : n = i := by omega
          have H3 : Hid (ax3B p n f = true) := Lib.hid (all_yes (q := ax3R p n f) n fun a ha => HX17.out a ha)
          have HV : Hid (Bytes 8 f) := Lib.hid HU.out
          go_wp2_with fail
          refine (l03Coproduct_any p n f _ _ hp hp' hn HF.out HV.out).mono ?_; rintro _ W21 ⟨rfl, hw21⟩
          obtain ⟨r1_21, c1_21⟩ := keepB hw21 z1_17 r1_17 c1_17
          have z1_21 := isRow_lt r1_21
          have hb21 := hb17.trans (hw21.mono hb17.size)
          have q21 := hb21.size
          clear hw21 r1_17 c1_17 z1_17 hb17
          go_wp2
          have nw1_W21_0 : (w.heap.size) ≠ W21.heap.size := by omega
          refine atomW fun W22 e22 => ?_
          have hb22 : Below w.heap.size w W22 := by rw [e22]; (repeat (first | exact hb21 | exact Below.refl _ _ | refine Below.alloc ?_ (by first | omega | (simp; try omega)) _ | refine below_setRow ?_ (by omega) _ | refine Below.drew ?_))
          have q22 := hb22.size
          have r1_22 : IsRow W22 (w.heap.size) := by rw [e22]; simp [go_sem, r1_21, c1_21, nw1_W21_0]
          have c1_22 := congrArg (fun x => blk x (w.heap.size)) e22; simp [go_sem, r1_21, c1_21, nw1_W21_0] at c1_22
          have z1_22 := isRow_lt r1_22
          have r7_22 : IsRow W22 (W21.heap.size) := by rw [e22]; simp [go_sem, r1_21, c1_21, nw1_W21_0]
          have c7_22 := congrArg (fun x => blk x (W21.heap.size)) e22; simp [go_sem, r1_21, c1_21, nw1_W21_0] at c7_22
          have z7_22 := isRow_lt r7_22
          have n1_7 : (w.heap.size) ≠ (W21.heap.size) := by omega
          have n7_1 : (W21.heap.size) ≠ (w.heap.size) := by omega
          clear e22 nw1_W21_0 r1_21 c1_21 z1_21 hb21
          go_loopw [8] (fun s8 wr => ∃ j : Nat, j ≤ n ∧ s8 = .int .i64 j ∧ Below w.heap.size w wr ∧ (IsRow wr (w.heap.size) ∧ blk wr (w.heap.size) = blk W22 (w.heap.size)) ∧ (IsRow wr (W21.heap.size) ∧ blk wr (W21.heap.size) = blk W22 (W21.heap.size)) ∧ ∀ a, a < j → ax4S p n f a = true) (fun s8 _ => n - (intOf s8).toNat)
          case atStart => exact ⟨0, by omega, rfl, hb22, ⟨r1_22, rfl⟩, ⟨r7_22, rfl⟩, fun a ha => by omega⟩
          case round =>
            obtain ⟨j, hle23, rfl, hb23, ⟨r1_23, c1_23⟩, ⟨r7_23, c7_23⟩, hx23⟩ := hrel
            obtain ⟨W23, rfl⟩ : ∃ W23 : World, W23 = wr := ⟨_, rfl⟩
            have q23 := hb23.size
            have HX23 := Lib.hid hx23; clear hx23
            have E1_23 := Lib.hid c1_22; replace c1_23 := c1_23.trans c1_22
            have z1_23 := isRow_lt r1_23
            have E7_23 := Lib.hid c7_22; replace c7_23 := c7_23.trans c7_22
            have z7_23 := isRow_lt r7_23
            clear r1_22 c1_22 z1_22 r7_22 c7_22 z7_22 hb22
            by_cases hlt23 : j < n
            · skip
              have i0_23 : (0 : Int) ≤ (j : Int) := by omega
              have i8_23 : (j : Int) < 8 := by omega
              have k8_23 : j < 8 := by omega
              have m8_23 : j * 8 + 8 ≤ 64 := by omega
              have m64_23 : j * 64 + 64 ≤ 512 := by omega
              have l1_23 : 10 + j * 64 + 64 ≤ 522 := by omega
              cases h0 : ax4S p n f j
              · skip
                have e7 := hop_uq p n f j (by omega)
                have b1 := (HU.out j (by omega)).1; have b2 := (HU.out j (by omega)).2
                have q1 : IntKind.i64.wrap (f j) = f j := IntWalk.i64_in _ (by omega)
                have h1 : segEq 0 8 (fun i => copS p (coF f) f n n 0 (j * 8 + i)) (addm p 0 8 (f j) zf f) = false := h0
                have H := Lib.hid (bi4 (n := n) ha hc H3.out ((ax4_spec hn Hs.out).trans (all_no (q := ax4S p n f) j n (by omega) h0)))
                go_wp2
                refine wp_quiet_all (Below W23.heap.size W23) (by kernel_rfl) (by kernel_rfl) (Below.refl _ _).drew ?_
                iterate 13 (refine q_plain rfl ?_; apply Exists.intro; refine ⟨fun W hW => ?_, ?_⟩; (focus (obtain ⟨x1, y1⟩ := keepB hW z1_23 r1_23 c1_23; obtain ⟨x7, y7⟩ := keepB hW z7_23 r7_23 c7_23; go_simp; first | done | rfl)); simp only [Act.put, List.setIfInBounds_toArray, List.set_cons_zero, List.set_cons_succ])
                (refine q_plain rfl ?_; apply Exists.intro; refine ⟨fun W hW => ?_, ?_⟩; (focus (obtain ⟨x1, y1⟩ := keepB hW z1_23 r1_23 c1_23; obtain ⟨x7, y7⟩ := keepB hW z7_23 r7_23 c7_23; go_simp; (go_at_call 74; exact (l01Add_any _ _ _ _ _ hp hp' (by omega) (by omega) HZ.out HU.out).mono fun e w2 ⟨he, hw2⟩ => ⟨he, hW.trans (hw2.mono hW.size)⟩))); simp only [Act.put, List.setIfInBounds_toArray, List.set_cons_zero, List.set_cons_succ])
                iterate 1 (refine q_plain rfl ?_; apply Exists.intro; refine ⟨fun W hW => ?_, ?_⟩; (focus (obtain ⟨x1, y1⟩ := keepB hW z1_23 r1_23 c1_23; obtain ⟨x7, y7⟩ := keepB hW z7_23 r7_23 c7_23; go_simp; first | done | rfl)); simp only [Act.put, List.setIfInBounds_toArray, List.set_cons_zero, List.set_cons_succ])
                refine wpQuiet_nil ?_
                intro W24 hw24
                obtain ⟨r1_24, c1_24⟩ := keepB hw24 z1_23 r1_23 c1_23
                have z1_24 := isRow_lt r1_24
                obtain ⟨r7_24, c7_24⟩ := keepB hw24 z7_23 r7_23 c7_23
                have z7_24 := isRow_lt r7_24
                have hb24 := hb23.trans (hw24.mono hb23.size)
                have q24 := hb24.size
                clear hw24 r1_23 c1_23 z1_23 r7_23 c7_23 z7_23 hb23
                go_wp2_with fail
                go_ret
                exact ⟨ret_int (by rw [H.out]), (by (repeat (first | exact hb24 | exact Below.refl _ _ | refine Below.alloc ?_ (by first | omega | (simp; try omega)) _ | refine below_setRow ?_ (by omega) _ | refine Below.drew ?_)))⟩
              · skip
                have e7 := hop_uq p n f j (by omega)
                have b1 := (HU.out j (by omega)).1; have b2 := (HU.out j (by omega)).2
                have q1 : IntKind.i64.wrap (f j) = f j := IntWalk.i64_in _ (by omega)
                have h1 : segEq 0 8 (fun i => copS p (coF f) f n n 0 (j * 8 + i)) (addm p 0 8 (f j) zf f) = true := h0
                have H := Lib.hid (upto_more (q := ax4S p n f) HX23.out h0)
                go_wp2
                refine wp_quiet_all (Below W23.heap.size W23) (by kernel_rfl) (by kernel_rfl) (Below.refl _ _).drew ?_
                iterate 13 (refine q_plain rfl ?_; apply Exists.intro; refine ⟨fun W hW => ?_, ?_⟩; (focus (obtain ⟨x1, y1⟩ := keepB hW z1_23 r1_23 c1_23; obtain ⟨x7, y7⟩ := keepB hW z7_23 r7_23 c7_23; go_simp; first | done | rfl)); simp only [Act.put, List.setIfInBounds_toArray, List.set_cons_zero, List.set_cons_succ])
                (refine q_plain rfl ?_; apply Exists.intro; refine ⟨fun W hW => ?_, ?_⟩; (focus (obtain ⟨x1, y1⟩ := keepB hW z1_23 r1_23 c1_23; obtain ⟨x7, y7⟩ := keepB hW z7_23 r7_23 c7_23; go_simp; (go_at_call 74; exact (l01Add_any _ _ _ _ _ hp hp' (by omega) (by omega) HZ.out HU.out).mono fun e w2 ⟨he, hw2⟩ => ⟨he, hW.trans (hw2.mono hW.size)⟩))); simp only [Act.put, List.setIfInBounds_toArray, List.set_cons_zero, List.set_cons_succ])
                iterate 1 (refine q_plain rfl ?_; apply Exists.intro; refine ⟨fun W hW => ?_, ?_⟩; (focus (obtain ⟨x1, y1⟩ := keepB hW z1_23 r1_23 c1_23; obtain ⟨x7, y7⟩ := keepB hW z7_23 r7_23 c7_23; go_simp; first | done | rfl)); simp only [Act.put, List.setIfInBounds_toArray, List.set_cons_zero, List.set_cons_succ])
                refine wpQuiet_nil ?_
                intro W25 hw25
                obtain ⟨r1_25, c1_25⟩ := keepB hw25 z1_23 r1_23 c1_23
                have z1_25 := isRow_lt r1_25
                obtain ⟨r7_25, c7_25⟩ := keepB hw25 z7_23 r7_23 c7_23
                have z7_25 := isRow_lt r7_25
                have hb25 := hb23.trans (hw25.mono hb23.size)
                have q25 := hb25.size
                clear hw25 r1_23 c1_23 z1_23 r7_23 c7_23 z7_23 hb23
                go_wp2
                go_roundw
                case rel => exact ⟨j + 1, by omega, by go_num, (by (repeat (first | exact hb25 | exact Below.refl _ _ | refine Below.alloc ?_ (by first | omega | (simp; try omega)) _ | refine below_setRow ?_ (by omega) _ | refine Below.drew ?_))), ⟨by simp [go_sem, r1_25, c1_25, n1_7, r7_25, c7_25, n7_1], (by rw [E1_23.out]; first | exact c1_25 | (simp [go_sem, r1_25, c1_25, n1_7, r7_25, c7_25, n7_1]; done))⟩, ⟨by simp [go_sem, r1_25, c1_25, n1_7, r7_25, c7_25, n7_1], (by rw [E7_23.out]; first | exact c7_25 | (simp [go_sem, r1_25, c1_25, n1_7, r7_25, c7_25, n7_1]; done))⟩, H.out⟩
                case measure => simp [intOf]; try omega
            · skip
              obtain rfl : n = j := by omega
              have H4 : Hid (ax4B p f = true) := Lib.hid ((ax4_spec hn Hs.out).trans (all_yes (q := ax4S p n f) n fun a ha => HX23.out a ha))
              go_wp2
              go_loopw [9] (fun s9 wr => ∃ i : Nat, i ≤ n ∧ s9 = .int .i64 i ∧ Below w.heap.size w wr ∧ (IsRow wr (w.heap.size) ∧ blk wr (w.heap.size) = blk W23 (w.heap.size)) ∧ ∀ a, a < i → ax5R p n f a = true) (fun s9 _ => n - (intOf s9).toNat)
              case atStart => exact ⟨0, by omega, rfl, hb23, ⟨r1_23, rfl⟩, fun a ha => by omega⟩
              case round =>
                obtain ⟨i, hle26, rfl, hb26, ⟨r1_26, c1_26⟩, hx26⟩ := hrel
                obtain ⟨W26, rfl⟩ : ∃ W26 : World, W26 = wr := ⟨_, rfl⟩
                have q26 := hb26.size
                have HX26 := Lib.hid hx26; clear hx26
                have E1_26 := Lib.hid c1_23; replace c1_26 := c1_26.trans c1_23
                have z1_26 := isRow_lt r1_26
                clear r1_23 c1_23 z1_23 hb23
                by_cases hlt26 : i < n
                · skip
                  have i0_26 : (0 : Int) ≤ (i : Int) := by omega
                  have i8_26 : (i : Int) < 8 := by omega
                  have k8_26 : i < 8 := by omega
                  have m8_26 : i * 8 + 8 ≤ 64 := by omega
                  have m64_26 : i * 64 + 64 ≤ 512 := by omega
                  have l1_26 : 10 + i * 64 + 64 ≤ 522 := by omega
                  go_wp2
                  go_loopw [10] (fun s10 wr => ∃ j : Nat, j ≤ n ∧ s10 = .int .i64 j ∧ Below w.heap.size w wr ∧ (IsRow wr (w.heap.size) ∧ blk wr (w.heap.size) = blk W26 (w.heap.size)) ∧ (∀ a, a < i → ax5R p n f a = true) ∧ (∀ b, b < j → ax5At p f i b = true)) (fun s10 _ => n - (intOf s10).toNat)
                  case atStart => exact ⟨0, by omega, rfl, hb26, ⟨r1_26, rfl⟩, ⟨HX26.out, fun b hb => by omega⟩⟩
                  case round =>
                    obtain ⟨j, hle27, rfl, hb27, ⟨r1_27, c1_27⟩, hx27⟩ := hrel
                    obtain ⟨W27, rfl⟩ : ∃ W27 : World, W27 = wr := ⟨_, rfl⟩
                    have q27 := hb27.size
                    have HX27 := Lib.hid hx27; clear hx27
                    have E1_27 := Lib.hid c1_26; replace c1_27 := c1_27.trans c1_26
                    have z1_27 := isRow_lt r1_27
                    clear r1_26 c1_26 z1_26 hb26
                    by_cases hlt27 : j < n
                    · skip
                      have i0_27 : (0 : Int) ≤ (j : Int) := by omega
                      have i8_27 : (j : Int) < 8 := by omega
                      have k8_27 : j < 8 := by omega
                      have m8_27 : j * 8 + 8 ≤ 64 := by omega
                      have m64_27 : j * 64 + 64 ≤ 512 := by omega
                      have l1_27 : 10 + j * 64 + 64 ≤ 522 := by omega
                      have l2_27i : 10 + i * 64 + j * 8 + 8 ≤ 522 := by omega
                      have l3_27i : 10 + j * 64 + i * 8 + 8 ≤ 522 := by omega
                      have l4_27i : i * 64 + j * 8 + 8 ≤ 512 := by omega
                      have l5_27i : j * 64 + i * 8 + 8 ≤ 512 := by omega
                      have l6_27i : i * 8 + j < 64 := by omega
                      have l7_27i : j * 8 + i < 64 := by omega
                      cases h0 : ax5At p f i j
                      · skip
                        have HV : Hid (Bytes 8 (mtab f i j)) := Lib.hid (mtab_bytes (hop_bytes HF.out) i j (by omega) (by omega))
                        have e8 := hop_mul8 p n f i j (by omega) (by omega)
                        have e7 := hop_cq p n f i (by omega)
                        have e6 := hop_cq p n f j (by omega)
                        have l7 : 10 + i * 64 + j * 8 + 8 ≤ 1106 := by omega
                        have b1 := (HC.out i (by omega)).1; have b2 := (HC.out i (by omega)).2; have b3 := (HC.out j (by omega)).1; have b4 := (HC.out j (by omega)).2
                        have b5 := (prod_le (coF f i) (coF f j) 255 255 b1 b3 b2 b4).1; have b6 := (prod_le (coF f i) (coF f j) 255 255 b1 b3 b2 b4).2
                        have q1 : IntKind.i64.wrap (coF f i) = coF f i := IntWalk.i64_in _ (by omega)
                        have q2 : IntKind.i64.wrap (coF f j) = coF f j := IntWalk.i64_in _ (by omega)
                        have q3 : IntKind.i64.wrap (coF f i * coF f j) = coF f i * coF f j := IntWalk.i64_in _ (by omega)
                        have t1 : (coF f i * coF f j).tmod p = coF f i * coF f j % p := Int.tmod_eq_emod_of_nonneg b5
                        have h5 := ax5_spec hn Hs.out i j (by omega) (by omega)
                        have h1 : (dotF n (mtab f i j) (coF f) % p != coF f i * coF f j % p) = true := by rw [h5]; exact neq_of (q := false) h0
                        have H := Lib.hid (bi5 (n := n) ha hc H3.out H4.out (by unfold ax5B; rw [all_no (q := ax5R p n f) i n (by omega) (all_no (q := ax5At p f i) j n (by omega) h0)]; rfl))
                        clear h5
                        go_wp2
                        refine wp_quiet_all (Below W27.heap.size W27) (by kernel_rfl) (by kernel_rfl) (Below.refl _ _).drew ?_
                        iterate 7 (refine q_plain rfl ?_; apply Exists.intro; refine ⟨fun W hW => ?_, ?_⟩; (focus (obtain ⟨x1, y1⟩ := keepB hW z1_27 r1_27 c1_27; go_simp; first | done | rfl)); simp only [Act.put, List.setIfInBounds_toArray, List.set_cons_zero, List.set_cons_succ])
                        (refine q_plain rfl ?_; apply Exists.intro; refine ⟨fun W hW => ?_, ?_⟩; (focus (obtain ⟨x1, y1⟩ := keepB hW z1_27 r1_27 c1_27; go_simp; (go_at_call 49; exact (l03Counit_any p n f _ _ hp hp' hn HF.out HV.out).mono fun e w2 ⟨he, hw2⟩ => ⟨he, hW.trans (hw2.mono hW.size)⟩))); simp only [Act.put, List.setIfInBounds_toArray, List.set_cons_zero, List.set_cons_succ])
                        iterate 15 (refine q_plain rfl ?_; apply Exists.intro; refine ⟨fun W hW => ?_, ?_⟩; (focus (obtain ⟨x1, y1⟩ := keepB hW z1_27 r1_27 c1_27; go_simp; first | done | rfl)); simp only [Act.put, List.setIfInBounds_toArray, List.set_cons_zero, List.set_cons_succ])
                        refine wpQuiet_nil ?_
                        intro W28 hw28
                        obtain ⟨r1_28, c1_28⟩ := keepB hw28 z1_27 r1_27 c1_27
                        have z1_28 := isRow_lt r1_28
                        have hb28 := hb27.trans (hw28.mono hb27.size)
                        have q28 := hb28.size
                        clear hw28 r1_27 c1_27 z1_27 hb27
                        go_wp2_with fail
                        go_ret
                        exact ⟨ret_int (by rw [H.out]), (by (repeat (first | exact hb28 | exact Below.refl _ _ | refine Below.alloc ?_ (by first | omega | (simp; try omega)) _ | refine below_setRow ?_ (by omega) _ | refine Below.drew ?_)))⟩
                      · skip
                        have HV : Hid (Bytes 8 (mtab f i j)) := Lib.hid (mtab_bytes (hop_bytes HF.out) i j (by omega) (by omega))
                        have e8 := hop_mul8 p n f i j (by omega) (by omega)
                        have e7 := hop_cq p n f i (by omega)
                        have e6 := hop_cq p n f j (by omega)
                        have l7 : 10 + i * 64 + j * 8 + 8 ≤ 1106 := by omega
                        have b1 := (HC.out i (by omega)).1; have b2 := (HC.out i (by omega)).2; have b3 := (HC.out j (by omega)).1; have b4 := (HC.out j (by omega)).2
                        have b5 := (prod_le (coF f i) (coF f j) 255 255 b1 b3 b2 b4).1; have b6 := (prod_le (coF f i) (coF f j) 255 255 b1 b3 b2 b4).2
                        have q1 : IntKind.i64.wrap (coF f i) = coF f i := IntWalk.i64_in _ (by omega)
                        have q2 : IntKind.i64.wrap (coF f j) = coF f j := IntWalk.i64_in _ (by omega)
                        have q3 : IntKind.i64.wrap (coF f i * coF f j) = coF f i * coF f j := IntWalk.i64_in _ (by omega)
                        have t1 : (coF f i * coF f j).tmod p = coF f i * coF f j % p := Int.tmod_eq_emod_of_nonneg b5
                        have h5 := ax5_spec hn Hs.out i j (by omega) (by omega)
                        have h1 : (dotF n (mtab f i j) (coF f) % p != coF f i * coF f j % p) = false := by rw [h5]; exact neq_of (q := true) h0
                        have H := Lib.hid (upto_more (q := ax5At p f i) HX27.out.2 h0)
                        have H2 := Lib.hid HX27.out.1
                        clear h5
                        go_wp2
                        refine wp_quiet_all (Below W27.heap.size W27) (by kernel_rfl) (by kernel_rfl) (Below.refl _ _).drew ?_
                        iterate 7 (refine q_plain rfl ?_; apply Exists.intro; refine ⟨fun W hW => ?_, ?_⟩; (focus (obtain ⟨x1, y1⟩ := keepB hW z1_27 r1_27 c1_27; go_simp; first | done | rfl)); simp only [Act.put, List.setIfInBounds_toArray, List.set_cons_zero, List.set_cons_succ])
                        (refine q_plain rfl ?_; apply Exists.intro; refine ⟨fun W hW => ?_, ?_⟩; (focus (obtain ⟨x1, y1⟩ := keepB hW z1_27 r1_27 c1_27; go_simp; (go_at_call 49; exact (l03Counit_any p n f _ _ hp hp' hn HF.out HV.out).mono fun e w2 ⟨he, hw2⟩ => ⟨he, hW.trans (hw2.mono hW.size)⟩))); simp only [Act.put, List.setIfInBounds_toArray, List.set_cons_zero, List.set_cons_succ])
                        iterate 15 (refine q_plain rfl ?_; apply Exists.intro; refine ⟨fun W hW => ?_, ?_⟩; (focus (obtain ⟨x1, y1⟩ := keepB hW z1_27 r1_27 c1_27; go_simp; first | done | rfl)); simp only [Act.put, List.setIfInBounds_toArray, List.set_cons_zero, List.set_cons_succ])
                        refine wpQuiet_nil ?_
                        intro W29 hw29
                        obtain ⟨r1_29, c1_29⟩ := keepB hw29 z1_27 r1_27 c1_27
                        have z1_29 := isRow_lt r1_29
                        have hb29 := hb27.trans (hw29.mono hb27.size)
                        have q29 := hb29.size
                        clear hw29 r1_27 c1_27 z1_27 hb27
                        go_wp2
                        go_roundw
                        case rel => exact ⟨j + 1, by omega, by go_num, (by (repeat (first | exact hb29 | exact Below.refl _ _ | refine Below.alloc ?_ (by first | omega | (simp; try omega)) _ | refine below_setRow ?_ (by omega) _ | refine Below.drew ?_))), ⟨by simp [go_sem, r1_29, c1_29, n1_7], (by rw [E1_27.out]; first | exact c1_29 | (simp [go_sem, r1_29, c1_29, n1_7]; done))⟩, ⟨H2.out, H.out⟩⟩
                        case measure => simp [intOf]; try omega
                    · skip
                      obtain rfl : n = j := by omega
                      have H := Lib.hid (upto_more (q := ax5R p n f) HX27.out.1 (all_yes (q := ax5At p f i) n HX27.out.2))
                      go_wp2
                      go_roundw
                      case rel => exact ⟨i + 1, by omega, by go_num, (by (repeat (first | exact hb27 | exact Below.refl _ _ | refine Below.alloc ?_ (by first | omega | (simp; try omega)) _ | refine below_setRow ?_ (by omega) _ | refine Below.drew ?_))), ⟨by simp [go_sem, r1_27, c1_27, n1_7], (by rw [E1_26.out]; first | exact c1_27 | (simp [go_sem, r1_27, c1_27, n1_7]; done))⟩, H.out⟩
                      case measure => simp [intOf]; try omega
                · skip
                  obtain rfl : n = i := by omega
                  cases hu : ax5U p f
                  · skip
                    have HV : Hid (Bytes 8 f) := Lib.hid HU.out
                    have h1 : (dotF n f (coF f) % p != 1) = true := by rw [ax5u_spec hn Hs.out]; exact neq_of (q := false) hu
                    have H := Lib.hid (bi5 (n := n) ha hc H3.out H4.out (by unfold ax5B; rw [hu, Bool.and_false]))
                    go_wp2_with fail
                    refine (l03Counit_any p n f _ _ hp hp' hn HF.out HV.out).mono ?_; rintro _ W30 ⟨rfl, hw30⟩
                    have hb30 := hb26.trans (hw30.mono hb26.size)
                    have q30 := hb30.size
                    clear hw30 hb26
                    go_wp2_with fail
                    go_ret
                    exact ⟨ret_int (by rw [H.out]), (by (repeat (first | exact hb30 | exact Below.refl _ _ | refine Below.alloc ?_ (by first | omega | (simp; try omega)) _ | refine below_setRow ?_ (by omega) _ | refine Below.drew ?_)))⟩
                  · skip
                    have HV : Hid (Bytes 8 f) := Lib.hid HU.out
                    have h1 : (dotF n f (coF f) % p != 1) = false := by rw [ax5u_spec hn Hs.out]; exact neq_of (q := true) hu
                    have H := Lib.hid (bi0 (n := n) ha hc H3.out H4.out (by unfold ax5B; rw [hu, all_yes (q := ax5R p n f) n fun a ha => HX26.out a ha]; rfl))
                    go_wp2_with fail
                    refine (l03Counit_any p n f _ _ hp hp' hn HF.out HV.out).mono ?_; rintro _ W31 ⟨rfl, hw31⟩
                    have hb31 := hb26.trans (hw31.mono hb26.size)
                    have q31 := hb31.size
                    clear hw31 hb26
                    go_wp2_with fail
                    go_ret
                    exact ⟨ret_int (by rw [H.out]), (by (repeat (first | exact hb31 | exact Below.refl _ _ | refine Below.alloc ?_ (by first | omega | (simp; try omega)) _ | refine below_setRow ?_ (by omega) _ | refine Below.drew ?_)))⟩

theorem fail_bi {p : Int} {n : Nat} {f : Nat → Int} (h : ¬ biN p n f = 0) : biN p n f = failN p n f := by rw [fail_app, if_neg h]
theorem fail_6 {p : Int} {n : Nat} {f : Nat → Int} (h : biN p n f = 0) (h6 : ax6B p n f = false) : failN p n f = 6 := by rw [fail_app, if_pos h, h6]; rfl
theorem fail_7 {p : Int} {n : Nat} {f : Nat → Int} (h : biN p n f = 0) (h6 : ax6B p n f = true) (h7 : ax7B p n f = false) : failN p n f = 7 := by rw [fail_app, if_pos h, h6, h7]; rfl
theorem fail_0 {p : Int} {n : Nat} {f : Nat → Int} (h : biN p n f = 0) (h6 : ax6B p n f = true) (h7 : ax7B p n f = true) : failN p n f = 0 := by rw [fail_app, if_pos h, h6, h7]; rfl

set_option maxRecDepth 100000 in
set_option maxHeartbeats 1000000 in
theorem l03Fails_any (p : Int) (n : Nat) (f : Nat → Int) (w : World) (hp : 0 < p) (hp' : p ≤ 255) (hn : n ≤ 8) (hF : Bytes 1104 f) (hs : shapeH p n f = true) :
    Calls Try.prog 39 #[.agg (hop p n f)] w fun e w' => e = .returned (.int .i64 (failN p n f)) ∧ Below w.heap.size w w' := by
  have HF := Lib.hid hF; clear hF
  have Hs := Lib.hid hs; clear hs
  have HS : Hid (Bytes 64 (anF f)) := Lib.hid (an_bytes HF.out)
  by_cases hb : biN p n f = 0
  · skip
    cases h6 : ax6B p n f
    · skip
      have H := Lib.hid (fail_6 hb h6)
      have x6 : apB p n f (anF f) false = false := (ax6_spec hn Hs.out HF.out).symm.trans h6
      go_enter Try.func39, Try.ntmps39
      go_wp2_with fail
      refine atomC fun W1 e1 => ?_
      have hb1 : Below w.heap.size w W1 := by rw [e1]; (repeat (first | exact Below.refl _ _ | refine Below.alloc ?_ (by first | omega | (simp; try omega)) _ | refine below_setRow ?_ (by omega) _ | refine Below.drew ?_))
      have q1 := hb1.size
      have r1_1 : IsRow W1 (w.heap.size) := by rw [e1]; simp [go_sem]
      have c1_1 := congrArg (fun x => blk x (w.heap.size)) e1; simp [go_sem] at c1_1
      have z1_1 := isRow_lt r1_1
      clear e1
      refine (l03Bialgebra_any p n f _ hp hp' hn HF.out Hs.out).mono ?_; rintro _ W2 ⟨rfl, hw2⟩
      obtain ⟨r1_2, c1_2⟩ := keepB hw2 z1_1 r1_1 c1_1
      have z1_2 := isRow_lt r1_2
      have hb2 := hb1.trans (hw2.mono hb1.size)
      have q2 := hb2.size
      clear hw2 r1_1 c1_1 z1_1 hb1
      go_wp2_with fail
      refine (l03Antipode_false p n f (anF f) _ hp hp' hn HF.out HS.out).mono ?_; rintro _ W3 ⟨rfl, hw3⟩
      obtain ⟨r1_3, c1_3⟩ := keepB hw3 z1_2 r1_2 c1_2
      have z1_3 := isRow_lt r1_3
      have hb3 := hb2.trans (hw3.mono hb2.size)
      have q3 := hb3.size
      clear hw3 r1_2 c1_2 z1_2 hb2
      go_wp2_with fail
      go_ret
      exact ⟨ret_int (by rw [H.out]), (by (repeat (first | exact hb3 | exact Below.refl _ _ | refine Below.alloc ?_ (by first | omega | (simp; try omega)) _ | refine below_setRow ?_ (by omega) _ | refine Below.drew ?_)))⟩
    · skip
      cases h7 : ax7B p n f
      · skip
        have H := Lib.hid (fail_7 hb h6 h7)
        have x6 : apB p n f (anF f) false = true := (ax6_spec hn Hs.out HF.out).symm.trans h6
        have x7 : apB p n f (anF f) true = false := (ax7_spec hn Hs.out).symm.trans h7
        go_enter Try.func39, Try.ntmps39
        go_wp2_with fail
        refine atomC fun W4 e4 => ?_
        have hb4 : Below w.heap.size w W4 := by rw [e4]; (repeat (first | exact Below.refl _ _ | refine Below.alloc ?_ (by first | omega | (simp; try omega)) _ | refine below_setRow ?_ (by omega) _ | refine Below.drew ?_))
        have q4 := hb4.size
        have r1_4 : IsRow W4 (w.heap.size) := by rw [e4]; simp [go_sem]
        have c1_4 := congrArg (fun x => blk x (w.heap.size)) e4; simp [go_sem] at c1_4
        have z1_4 := isRow_lt r1_4
        clear e4
        refine (l03Bialgebra_any p n f _ hp hp' hn HF.out Hs.out).mono ?_; rintro _ W5 ⟨rfl, hw5⟩
        obtain ⟨r1_5, c1_5⟩ := keepB hw5 z1_4 r1_4 c1_4
        have z1_5 := isRow_lt r1_5
        have hb5 := hb4.trans (hw5.mono hb4.size)
        have q5 := hb5.size
        clear hw5 r1_4 c1_4 z1_4 hb4
        go_wp2_with fail
        refine (l03Antipode_false p n f (anF f) _ hp hp' hn HF.out HS.out).mono ?_; rintro _ W6 ⟨rfl, hw6⟩
        obtain ⟨r1_6, c1_6⟩ := keepB hw6 z1_5 r1_5 c1_5
        have z1_6 := isRow_lt r1_6
        have hb6 := hb5.trans (hw6.mono hb5.size)
        have q6 := hb6.size
        clear hw6 r1_5 c1_5 z1_5 hb5
        go_wp2_with fail
        refine (l03Antipode_true p n f (anF f) _ hp hp' hn HF.out HS.out).mono ?_; rintro _ W7 ⟨rfl, hw7⟩
        have hb7 := hb6.trans (hw7.mono hb6.size)
        have q7 := hb7.size
        clear hw7 hb6
        go_wp2_with fail
        go_ret
        exact ⟨ret_int (by rw [H.out]), (by (repeat (first | exact hb7 | exact Below.refl _ _ | refine Below.alloc ?_ (by first | omega | (simp; try omega)) _ | refine below_setRow ?_ (by omega) _ | refine Below.drew ?_)))⟩
      · skip
        have H := Lib.hid (fail_0 hb h6 h7)
        have x6 : apB p n f (anF f) false = true := (ax6_spec hn Hs.out HF.out).symm.trans h6
        have x7 : apB p n f (anF f) true = true := (ax7_spec hn Hs.out).symm.trans h7
        go_enter Try.func39, Try.ntmps39
        go_wp2_with fail
        refine atomC fun W8 e8 => ?_
        have hb8 : Below w.heap.size w W8 := by rw [e8]; (repeat (first | exact Below.refl _ _ | refine Below.alloc ?_ (by first | omega | (simp; try omega)) _ | refine below_setRow ?_ (by omega) _ | refine Below.drew ?_))
        have q8 := hb8.size
        have r1_8 : IsRow W8 (w.heap.size) := by rw [e8]; simp [go_sem]
        have c1_8 := congrArg (fun x => blk x (w.heap.size)) e8; simp [go_sem] at c1_8
        have z1_8 := isRow_lt r1_8
        clear e8
        refine (l03Bialgebra_any p n f _ hp hp' hn HF.out Hs.out).mono ?_; rintro _ W9 ⟨rfl, hw9⟩
        obtain ⟨r1_9, c1_9⟩ := keepB hw9 z1_8 r1_8 c1_8
        have z1_9 := isRow_lt r1_9
        have hb9 := hb8.trans (hw9.mono hb8.size)
        have q9 := hb9.size
        clear hw9 r1_8 c1_8 z1_8 hb8
        go_wp2_with fail
        refine (l03Antipode_false p n f (anF f) _ hp hp' hn HF.out HS.out).mono ?_; rintro _ W10 ⟨rfl, hw10⟩
        obtain ⟨r1_10, c1_10⟩ := keepB hw10 z1_9 r1_9 c1_9
        have z1_10 := isRow_lt r1_10
        have hb10 := hb9.trans (hw10.mono hb9.size)
        have q10 := hb10.size
        clear hw10 r1_9 c1_9 z1_9 hb9
        go_wp2_with fail
        refine (l03Antipode_true p n f (anF f) _ hp hp' hn HF.out HS.out).mono ?_; rintro _ W11 ⟨rfl, hw11⟩
        have hb11 := hb10.trans (hw11.mono hb10.size)
        have q11 := hb11.size
        clear hw11 hb10
        go_wp2_with fail
        go_ret
        exact ⟨ret_int (by rw [H.out]), (by (repeat (first | exact hb11 | exact Below.refl _ _ | refine Below.alloc ?_ (by first | omega | (simp; try omega)) _ | refine below_setRow ?_ (by omega) _ | refine Below.drew ?_)))⟩
  · skip
    have h1 : (biN p n f != 0) = true := by simp [hb]
    have H := Lib.hid (fail_bi hb)
    go_enter Try.func39, Try.ntmps39
    go_wp2_with fail
    refine atomC fun W12 e12 => ?_
    have hb12 : Below w.heap.size w W12 := by rw [e12]; (repeat (first | exact Below.refl _ _ | refine Below.alloc ?_ (by first | omega | (simp; try omega)) _ | refine below_setRow ?_ (by omega) _ | refine Below.drew ?_))
    have q12 := hb12.size
    have r1_12 : IsRow W12 (w.heap.size) := by rw [e12]; simp [go_sem]
    have c1_12 := congrArg (fun x => blk x (w.heap.size)) e12; simp [go_sem] at c1_12
    have z1_12 := isRow_lt r1_12
    clear e12
    refine (l03Bialgebra_any p n f _ hp hp' hn HF.out Hs.out).mono ?_; rintro _ W13 ⟨rfl, hw13⟩
    obtain ⟨r1_13, c1_13⟩ := keepB hw13 z1_12 r1_12 c1_12
    have z1_13 := isRow_lt r1_13
    have hb13 := hb12.trans (hw13.mono hb12.size)
    have q13 := hb13.size
    clear hw13 r1_12 c1_12 z1_12 hb12
    go_wp2_with fail
    go_ret
    exact ⟨ret_int (by rw [H.out]), (by (repeat (first | exact hb13 | exact Below.refl _ _ | refine Below.alloc ?_ (by first | omega | (simp; try omega)) _ | refine below_setRow ?_ (by omega) _ | refine Below.drew ?_)))⟩

set_option maxRecDepth 100000 in
set_option maxHeartbeats 1000000 in
theorem l03Is_any (p n : Int) (f : Nat → Int) (w : World) (hF : Bytes 1104 f) :
    Calls Try.prog 33 #[.agg (hop p n f)] w fun e w' => e = .returned (.bool (hopfB p n f)) ∧ Below w.heap.size w w' := by
  have HF := Lib.hid hF; clear hF
  cases hs : shapeH p n f
  · skip
    have H := Lib.hid (hopfB_no hs)
    go_enter Try.func33, Try.ntmps33
    go_wp2_with fail
    refine atomC fun W1 e1 => ?_
    have hb1 : Below w.heap.size w W1 := by rw [e1]; (repeat (first | exact Below.refl _ _ | refine Below.alloc ?_ (by first | omega | (simp; try omega)) _ | refine below_setRow ?_ (by omega) _ | refine Below.drew ?_))
    have q1 := hb1.size
    have r1_1 : IsRow W1 (w.heap.size) := by rw [e1]; simp [go_sem]
    have c1_1 := congrArg (fun x => blk x (w.heap.size)) e1; simp [go_sem] at c1_1
    have z1_1 := isRow_lt r1_1
    clear e1
    refine (l03Shape_any _ _ _ _ HF.out).mono ?_; rintro _ W2 ⟨rfl, hw2⟩
    obtain ⟨r1_2, c1_2⟩ := keepB hw2 z1_1 r1_1 c1_1
    have z1_2 := isRow_lt r1_2
    have hb2 := hb1.trans (hw2.mono hb1.size)
    have q2 := hb2.size
    clear hw2 r1_1 c1_1 z1_1 hb1
    go_wp2_with fail
    go_ret
    exact ⟨ret_bool (by rw [H.out]), (by (repeat (first | exact hb2 | exact Below.refl _ _ | refine Below.alloc ?_ (by first | omega | (simp; try omega)) _ | refine below_setRow ?_ (by omega) _ | refine Below.drew ?_)))⟩
  · skip
    have Hs := Lib.hid hs
    obtain ⟨hp2, hp31, hn1, hn8⟩ := sizes_range (shapeH_sizes hs)
    obtain ⟨n, rfl⟩ := Int.eq_ofNat_of_zero_le (show 0 ≤ n by omega)
    have hn : n ≤ 8 := by omega
    have hp : 0 < p := by omega
    have hp' : p ≤ 255 := by omega
    have H := Lib.hid (hopfB_yes hs)
    go_enter Try.func33, Try.ntmps33
    go_wp2_with fail
    refine atomC fun W3 e3 => ?_
    have hb3 : Below w.heap.size w W3 := by rw [e3]; (repeat (first | exact Below.refl _ _ | refine Below.alloc ?_ (by first | omega | (simp; try omega)) _ | refine below_setRow ?_ (by omega) _ | refine Below.drew ?_))
    have q3 := hb3.size
    have r1_3 : IsRow W3 (w.heap.size) := by rw [e3]; simp [go_sem]
    have c1_3 := congrArg (fun x => blk x (w.heap.size)) e3; simp [go_sem] at c1_3
    have z1_3 := isRow_lt r1_3
    clear e3
    refine (l03Shape_any _ _ _ _ HF.out).mono ?_; rintro _ W4 ⟨rfl, hw4⟩
    obtain ⟨r1_4, c1_4⟩ := keepB hw4 z1_3 r1_3 c1_3
    have z1_4 := isRow_lt r1_4
    have hb4 := hb3.trans (hw4.mono hb3.size)
    have q4 := hb4.size
    clear hw4 r1_3 c1_3 z1_3 hb3
    go_wp2_with fail
    refine (l03Fails_any p n f _ hp hp' hn HF.out Hs.out).mono ?_; rintro _ W5 ⟨rfl, hw5⟩
    have hb5 := hb4.trans (hw5.mono hb4.size)
    have q5 := hb5.size
    clear hw5 hb4
    go_wp2_with fail
    go_ret
    exact ⟨ret_bool (by rw [H.out]), (by (repeat (first | exact hb5 | exact Below.refl _ _ | refine Below.alloc ?_ (by first | omega | (simp; try omega)) _ | refine below_setRow ?_ (by omega) _ | refine Below.drew ?_)))⟩

set_option maxRecDepth 100000 in
set_option maxHeartbeats 1000000 in
theorem specIsHopf_any (p n : Int) (f : Nat → Int) (w : World) (hF : Bytes 1104 f) :
    Calls Try.prog 11 #[.agg (hop p n f)] w fun e w' => e = .returned (.bool (hopfB p n f)) ∧ Below w.heap.size w w' := by
  have HF := Lib.hid hF; clear hF
  go_enter Try.func11, Try.ntmps11
  go_wp2_with fail
  refine atomC fun W1 e1 => ?_
  have hb1 : Below w.heap.size w W1 := by rw [e1]; (repeat (first | exact Below.refl _ _ | refine Below.alloc ?_ (by first | omega | (simp; try omega)) _ | refine below_setRow ?_ (by omega) _ | refine Below.drew ?_))
  have q1 := hb1.size
  clear e1
  refine (l03Is_any _ _ _ _ HF.out).mono ?_; rintro _ W2 ⟨rfl, hw2⟩
  have hb2 := hb1.trans (hw2.mono hb1.size)
  have q2 := hb2.size
  clear hw2 hb1
  go_wp2_with fail
  go_ret
  exact ⟨rfl, (by (repeat (first | exact hb2 | exact Below.refl _ _ | refine Below.alloc ?_ (by first | omega | (simp; try omega)) _ | refine below_setRow ?_ (by omega) _ | refine Below.drew ?_)))⟩

end Go.Proofs.Ytnjjcimpcnennaa
