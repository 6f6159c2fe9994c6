/- Duals of algebras and coalgebras, cocommutative coalgebras, group-like vectors, unit maps: both programs, and their laws. -/
import Derived.Test.YtfmhgfnadgaiaaaQ9
import Derived.Test.YtfmhgfnadgaiaaaRA
namespace Go.Proofs.Ytfmhgfnadgaiaaa
open Go.RowKit
set_option linter.unusedSimpArgs false
set_option linter.unusedVariables false
attribute [local irreducible] wpQuiet wpQE

theorem tab_row (f : Nat → Int) : row 512 (tab f) = row 512 fun t => tab f t := rfl

/-- the dual's prime, size and cells, or zeros -/
def dualP (ok : Bool) (p : Int) : Int := match ok with | true => p | false => 0
def dualF (ok : Bool) (f : Nat → Int) : Nat → Int := match ok with | true => f | false => zf

/-! ### group-like vectors -/
def grpB (p : Int) (f v : Nat → Int) : Bool := decide (dotF 8 f v % p = 1) && segEq 0 64 (copF p f v 8) (outF p v v 8)
theorem grp_no {p : Int} {f v : Nat → Int} (h : ¬ dotF 8 f v % p = 1) : grpB p f v = false := by unfold grpB; rw [decide_eq_false h]; rfl
theorem grp_yes {p : Int} {f v : Nat → Int} (h : dotF 8 f v % p = 1) : grpB p f v = segEq 0 64 (copF p f v 8) (outF p v v 8) := by unfold grpB; rw [decide_eq_true h]; rfl
theorem segEq_left {n : Nat} {f g h : Nat → Int} (e : ∀ t, t < n → f t = g t) : segEq 0 n f h = segEq 0 n g h := by
  rw [Bool.eq_iff_iff, segEq_iff, segEq_iff]
  constructor <;> (intro a i hi; have := a i hi; rw [Nat.zero_add] at this ⊢; first | rw [← e i hi]; exact this | rw [e i hi]; exact this)

set_option maxRecDepth 100000 in
set_option maxHeartbeats 1000000 in
theorem isGrp_any (p n : Int) (f v : Nat → Int) (w : World) (hp : 0 < p) (hp' : p ≤ 255) (hF : Bytes 520 f) (hv : Bytes 8 v) :
    Calls Try.prog 46 #[.agg (alg p n f), .agg (row 8 v)] w fun e w' => e = .returned (.bool (grpB p f v)) ∧ Below w.heap.size w w' := by
 have HF := Lib.hid hF; clear hF
 have Hv := Lib.hid hv; clear hv
 by_cases hd : dotF 8 f v % p = 1
 ·
  have H := Lib.hid (grp_yes hd)
  go_enter Try.func46, Try.ntmps46
  go_wp2
  refine atomW fun W1 e1 => ?_
  have hb1 : Below w.heap.size w W1 := by rw [e1]; exact bt
  have q1 := hb1.size
  have R1 : IsRow W1 (w.heap.size) ∧ IsRow W1 (w.heap.size + 1) := by rw [e1]; simp [go_sem]
  obtain ⟨r2_1, r3_1⟩ := R1
  have C1 := (⟨congrArg (blk · (w.heap.size)) e1, congrArg (blk · (w.heap.size + 1)) e1⟩ : _ ∧ _); simp [go_sem] at C1
  obtain ⟨c2_1, c3_1⟩ := C1
  have z2_1 := isRow_lt r2_1; have z3_1 := isRow_lt r3_1
  clear e1
  refine wp_quiet_all (Below W1.heap.size W1) (by kernel_rfl) (by kernel_rfl) (Below.refl _ _).drew ?_
  iterate 5 (refine q_plain rfl ?_; apply Exists.intro; refine ⟨fun W hW => ?_, ?_⟩; (focus (obtain ⟨x2, y2⟩ := keepB hW z2_1 r2_1 c2_1; obtain ⟨x3, y3⟩ := keepB hW z3_1 r3_1 c3_1; go_simp; first | done | rfl)); simp only [Act.put, List.setIfInBounds_toArray, List.set_cons_zero, List.set_cons_succ])
  (refine q_plain rfl ?_; apply Exists.intro; refine ⟨fun W hW => ?_, ?_⟩; (focus (obtain ⟨x2, y2⟩ := keepB hW z2_1 r2_1 c2_1; obtain ⟨x3, y3⟩ := keepB hW z3_1 r3_1 c3_1; go_simp; (go_at_call 86; exact (formValue_any _ _ _ _ hp hp' (unit_bytes HF.out) Hv.out).mono fun e w2 ⟨he, hw2⟩ => ⟨he, hW.trans (hw2.mono hW.size)⟩))); simp only [Act.put, List.setIfInBounds_toArray, List.set_cons_zero, List.set_cons_succ])
  iterate 2 (refine q_plain rfl ?_; apply Exists.intro; refine ⟨fun W hW => ?_, ?_⟩; (focus (obtain ⟨x2, y2⟩ := keepB hW z2_1 r2_1 c2_1; obtain ⟨x3, y3⟩ := keepB hW z3_1 r3_1 c3_1; go_simp; first | done | rfl)); simp only [Act.put, List.setIfInBounds_toArray, List.set_cons_zero, List.set_cons_succ])
  iterate 2 (refine q_want (by kernel_rfl) ?_; apply Exists.intro; refine ⟨fun W hW => ?_, ?_⟩; (focus (obtain ⟨x2, y2⟩ := keepB hW z2_1 r2_1 c2_1; obtain ⟨x3, y3⟩ := keepB hW z3_1 r3_1 c3_1; go_simp; first | done | rfl)); simp only [Act.put, List.setIfInBounds_toArray, List.set_cons_zero, List.set_cons_succ])
  (refine q_want (by kernel_rfl) ?_; apply Exists.intro; refine ⟨fun W hW => ?_, ?_⟩; (focus (obtain ⟨x2, y2⟩ := keepB hW z2_1 r2_1 c2_1; obtain ⟨x3, y3⟩ := keepB hW z3_1 r3_1 c3_1; go_simp; (go_at_call 87; exact (coproduct_any _ _ _ _ _ hp hp' HF.out Hv.out).mono fun e w2 ⟨he, hw2⟩ => ⟨he, hW.trans (hw2.mono hW.size)⟩))); simp only [Act.put, List.setIfInBounds_toArray, List.set_cons_zero, List.set_cons_succ])
  iterate 4 (refine q_want (by kernel_rfl) ?_; apply Exists.intro; refine ⟨fun W hW => ?_, ?_⟩; (focus (obtain ⟨x2, y2⟩ := keepB hW z2_1 r2_1 c2_1; obtain ⟨x3, y3⟩ := keepB hW z3_1 r3_1 c3_1; go_simp; first | done | rfl)); simp only [Act.put, List.setIfInBounds_toArray, List.set_cons_zero, List.set_cons_succ])
  (refine q_want (by kernel_rfl) ?_; apply Exists.intro; refine ⟨fun W hW => ?_, ?_⟩; (focus (obtain ⟨x2, y2⟩ := keepB hW z2_1 r2_1 c2_1; obtain ⟨x3, y3⟩ := keepB hW z3_1 r3_1 c3_1; go_simp; (go_at_call 88; exact (pairOf_any _ _ _ _ hp hp' Hv.out Hv.out).mono fun e w2 ⟨he, hw2⟩ => ⟨he, hW.trans (hw2.mono hW.size)⟩))); simp only [Act.put, List.setIfInBounds_toArray, List.set_cons_zero, List.set_cons_succ])
  iterate 1 (refine q_want (by kernel_rfl) ?_; apply Exists.intro; refine ⟨fun W hW => ?_, ?_⟩; (focus (obtain ⟨x2, y2⟩ := keepB hW z2_1 r2_1 c2_1; obtain ⟨x3, y3⟩ := keepB hW z3_1 r3_1 c3_1; go_simp; first | done | rfl)); simp only [Act.put, List.setIfInBounds_toArray, List.set_cons_zero, List.set_cons_succ])
  iterate 2 (refine q_plain rfl ?_; apply Exists.intro; refine ⟨fun W hW => ?_, ?_⟩; (focus (obtain ⟨x2, y2⟩ := keepB hW z2_1 r2_1 c2_1; obtain ⟨x3, y3⟩ := keepB hW z3_1 r3_1 c3_1; go_simp; first | done | rfl)); simp only [Act.put, List.setIfInBounds_toArray, List.set_cons_zero, List.set_cons_succ])
  refine wpQuiet_nil ?_
  intro W2 hw2
  obtain ⟨r2_2, c2_2, z2_2⟩ := keepZ hw2 z2_1 r2_1 c2_1
  obtain ⟨r3_2, c3_2, z3_2⟩ := keepZ hw2 z3_1 r3_1 c3_1
  obtain ⟨hb2, q2⟩ := bN hb1 hw2
  clear hw2 r2_1 c2_1 z2_1 r3_1 c3_1 z3_1 hb1
  go_wp2_with fail
  go_ret
  exact ⟨ret_bool (by rw [H.out]), bt⟩
 ·
  have H := Lib.hid (grp_no hd)
  have hd1 : (dotF 8 f v % p == 1) = false := by simpa using hd
  have hd2 : decide (dotF 8 f v % p = 1) = false := by simpa using hd
  go_enter Try.func46, Try.ntmps46
  go_wp2
  refine atomW fun W3 e3 => ?_
  have hb3 : Below w.heap.size w W3 := by rw [e3]; exact bt
  have q3 := hb3.size
  have R3 : IsRow W3 (w.heap.size) ∧ IsRow W3 (w.heap.size + 1) := by rw [e3]; simp [go_sem]
  obtain ⟨r2_3, r3_3⟩ := R3
  have C3 := (⟨congrArg (blk · (w.heap.size)) e3, congrArg (blk · (w.heap.size + 1)) e3⟩ : _ ∧ _); simp [go_sem] at C3
  obtain ⟨c2_3, c3_3⟩ := C3
  have z2_3 := isRow_lt r2_3; have z3_3 := isRow_lt r3_3
  clear e3
  refine wp_quiet_all (Below W3.heap.size W3) (by kernel_rfl) (by kernel_rfl) (Below.refl _ _).drew ?_
  iterate 5 (refine q_plain rfl ?_; apply Exists.intro; refine ⟨fun W hW => ?_, ?_⟩; (focus (obtain ⟨x2, y2⟩ := keepB hW z2_3 r2_3 c2_3; obtain ⟨x3, y3⟩ := keepB hW z3_3 r3_3 c3_3; go_simp; first | done | rfl)); simp only [Act.put, List.setIfInBounds_toArray, List.set_cons_zero, List.set_cons_succ])
  (refine q_plain rfl ?_; apply Exists.intro; refine ⟨fun W hW => ?_, ?_⟩; (focus (obtain ⟨x2, y2⟩ := keepB hW z2_3 r2_3 c2_3; obtain ⟨x3, y3⟩ := keepB hW z3_3 r3_3 c3_3; go_simp; (go_at_call 86; exact (formValue_any _ _ _ _ hp hp' (unit_bytes HF.out) Hv.out).mono fun e w2 ⟨he, hw2⟩ => ⟨he, hW.trans (hw2.mono hW.size)⟩))); simp only [Act.put, List.setIfInBounds_toArray, List.set_cons_zero, List.set_cons_succ])
  iterate 2 (refine q_plain rfl ?_; apply Exists.intro; refine ⟨fun W hW => ?_, ?_⟩; (focus (obtain ⟨x2, y2⟩ := keepB hW z2_3 r2_3 c2_3; obtain ⟨x3, y3⟩ := keepB hW z3_3 r3_3 c3_3; go_simp; first | done | rfl)); simp only [Act.put, List.setIfInBounds_toArray, List.set_cons_zero, List.set_cons_succ])
  iterate 9 (refine q_skip (by kernel_rfl) ?_; simp only [Act.put, List.setIfInBounds_toArray, List.set_cons_zero, List.set_cons_succ])
  iterate 2 (refine q_plain rfl ?_; apply Exists.intro; refine ⟨fun W hW => ?_, ?_⟩; (focus (obtain ⟨x2, y2⟩ := keepB hW z2_3 r2_3 c2_3; obtain ⟨x3, y3⟩ := keepB hW z3_3 r3_3 c3_3; go_simp; first | done | rfl)); simp only [Act.put, List.setIfInBounds_toArray, List.set_cons_zero, List.set_cons_succ])
  refine wpQuiet_nil ?_
  intro W4 hw4
  obtain ⟨r2_4, c2_4, z2_4⟩ := keepZ hw4 z2_3 r2_3 c2_3
  obtain ⟨r3_4, c3_4, z3_4⟩ := keepZ hw4 z3_3 r3_3 c3_3
  obtain ⟨hb4, q4⟩ := bN hb3 hw4
  clear hw4 r2_3 c2_3 z2_3 r3_3 c3_3 z3_3 hb3
  go_wp2_with fail
  go_ret
  exact ⟨ret_bool (by rw [H.out]), bt⟩

set_option maxRecDepth 100000 in
set_option maxHeartbeats 1000000 in
theorem l02Group_any (p : Int) (n : Nat) (f v : Nat → Int) (w : World) (hp : 0 < p) (hp' : p ≤ 255) (hn : n ≤ 8) (hF : Bytes 520 f) (hv : Bytes 8 v) (hs : shapeB p n f = true) :
    Calls Try.prog 42 #[.agg (alg p n f), .agg (row 8 v)] w fun e w' => e = .returned (.bool (grpB p f v)) ∧ Below w.heap.size w w' := by
 have HF := Lib.hid hF; clear hF
 have Hv := Lib.hid hv; clear hv
 have Hs := Lib.hid hs; clear hs
 have HC := Lib.hid (dot_comm 8 v f)
 by_cases hd : dotF 8 v f % p = 1
 ·
  have H := Lib.hid (grp_yes (by rw [← HC.out]; exact hd))
  have HE := Lib.hid (segEq_left (h := outF p v v 8) (cop_same (v := v) hn Hs.out))
  go_enter Try.func42, Try.ntmps42
  go_wp2
  refine atomW fun W1 e1 => ?_
  have hb1 : Below w.heap.size w W1 := by rw [e1]; exact bt
  have q1 := hb1.size
  have R1 : IsRow W1 (w.heap.size) ∧ IsRow W1 (w.heap.size + 1) := by rw [e1]; simp [go_sem]
  obtain ⟨r2_1, r3_1⟩ := R1
  have C1 := (⟨congrArg (blk · (w.heap.size)) e1, congrArg (blk · (w.heap.size + 1)) e1⟩ : _ ∧ _); simp [go_sem] at C1
  obtain ⟨c2_1, c3_1⟩ := C1
  have z2_1 := isRow_lt r2_1; have z3_1 := isRow_lt r3_1
  clear e1
  refine wp_quiet_all (Below W1.heap.size W1) (by kernel_rfl) (by kernel_rfl) (Below.refl _ _).drew ?_
  iterate 2 (refine q_plain rfl ?_; apply Exists.intro; refine ⟨fun W hW => ?_, ?_⟩; (focus (obtain ⟨x2, y2⟩ := keepB hW z2_1 r2_1 c2_1; obtain ⟨x3, y3⟩ := keepB hW z3_1 r3_1 c3_1; go_simp; first | done | rfl)); simp only [Act.put, List.setIfInBounds_toArray, List.set_cons_zero, List.set_cons_succ])
  (refine q_plain rfl ?_; apply Exists.intro; refine ⟨fun W hW => ?_, ?_⟩; (focus (obtain ⟨x2, y2⟩ := keepB hW z2_1 r2_1 c2_1; obtain ⟨x3, y3⟩ := keepB hW z3_1 r3_1 c3_1; go_simp; (go_at_call 80; exact (l02Counit_any _ _ _ _ _ hp hp' HF.out Hv.out).mono fun e w2 ⟨he, hw2⟩ => ⟨he, hW.trans (hw2.mono hW.size)⟩))); simp only [Act.put, List.setIfInBounds_toArray, List.set_cons_zero, List.set_cons_succ])
  iterate 2 (refine q_plain rfl ?_; apply Exists.intro; refine ⟨fun W hW => ?_, ?_⟩; (focus (obtain ⟨x2, y2⟩ := keepB hW z2_1 r2_1 c2_1; obtain ⟨x3, y3⟩ := keepB hW z3_1 r3_1 c3_1; go_simp; first | done | rfl)); simp only [Act.put, List.setIfInBounds_toArray, List.set_cons_zero, List.set_cons_succ])
  iterate 2 (refine q_want (by kernel_rfl) ?_; apply Exists.intro; refine ⟨fun W hW => ?_, ?_⟩; (focus (obtain ⟨x2, y2⟩ := keepB hW z2_1 r2_1 c2_1; obtain ⟨x3, y3⟩ := keepB hW z3_1 r3_1 c3_1; go_simp; first | done | rfl)); simp only [Act.put, List.setIfInBounds_toArray, List.set_cons_zero, List.set_cons_succ])
  (refine q_want (by kernel_rfl) ?_; apply Exists.intro; refine ⟨fun W hW => ?_, ?_⟩; (focus (obtain ⟨x2, y2⟩ := keepB hW z2_1 r2_1 c2_1; obtain ⟨x3, y3⟩ := keepB hW z3_1 r3_1 c3_1; go_simp; (go_at_call 81; exact (l02Coproduct_any _ _ _ _ _ hp hp' hn HF.out Hv.out).mono fun e w2 ⟨he, hw2⟩ => ⟨he, hW.trans (hw2.mono hW.size)⟩))); simp only [Act.put, List.setIfInBounds_toArray, List.set_cons_zero, List.set_cons_succ])
  iterate 4 (refine q_want (by kernel_rfl) ?_; apply Exists.intro; refine ⟨fun W hW => ?_, ?_⟩; (focus (obtain ⟨x2, y2⟩ := keepB hW z2_1 r2_1 c2_1; obtain ⟨x3, y3⟩ := keepB hW z3_1 r3_1 c3_1; go_simp; first | done | rfl)); simp only [Act.put, List.setIfInBounds_toArray, List.set_cons_zero, List.set_cons_succ])
  (refine q_want (by kernel_rfl) ?_; apply Exists.intro; refine ⟨fun W hW => ?_, ?_⟩; (focus (obtain ⟨x2, y2⟩ := keepB hW z2_1 r2_1 c2_1; obtain ⟨x3, y3⟩ := keepB hW z3_1 r3_1 c3_1; go_simp; (go_at_call 82; exact (l02Outer_any _ _ _ _ hp hp' Hv.out Hv.out).mono fun e w2 ⟨he, hw2⟩ => ⟨he, hW.trans (hw2.mono hW.size)⟩))); simp only [Act.put, List.setIfInBounds_toArray, List.set_cons_zero, List.set_cons_succ])
  iterate 1 (refine q_want (by kernel_rfl) ?_; apply Exists.intro; refine ⟨fun W hW => ?_, ?_⟩; (focus (obtain ⟨x2, y2⟩ := keepB hW z2_1 r2_1 c2_1; obtain ⟨x3, y3⟩ := keepB hW z3_1 r3_1 c3_1; go_simp; first | done | rfl)); simp only [Act.put, List.setIfInBounds_toArray, List.set_cons_zero, List.set_cons_succ])
  iterate 2 (refine q_plain rfl ?_; apply Exists.intro; refine ⟨fun W hW => ?_, ?_⟩; (focus (obtain ⟨x2, y2⟩ := keepB hW z2_1 r2_1 c2_1; obtain ⟨x3, y3⟩ := keepB hW z3_1 r3_1 c3_1; go_simp; first | done | rfl)); simp only [Act.put, List.setIfInBounds_toArray, List.set_cons_zero, List.set_cons_succ])
  refine wpQuiet_nil ?_
  intro W2 hw2
  obtain ⟨r2_2, c2_2, z2_2⟩ := keepZ hw2 z2_1 r2_1 c2_1
  obtain ⟨r3_2, c3_2, z3_2⟩ := keepZ hw2 z3_1 r3_1 c3_1
  obtain ⟨hb2, q2⟩ := bN hb1 hw2
  clear hw2 r2_1 c2_1 z2_1 r3_1 c3_1 z3_1 hb1
  go_wp2_with fail
  go_ret
  exact ⟨ret_bool (by rw [H.out, HE.out]), bt⟩
 ·
  have H := Lib.hid (grp_no (by rw [← HC.out]; exact hd))
  have hd1 : (dotF 8 v f % p == 1) = false := by simpa using hd
  have hd2 : decide (dotF 8 v f % p = 1) = false := by simpa using hd
  go_enter Try.func42, Try.ntmps42
  go_wp2
  refine atomW fun W3 e3 => ?_
  have hb3 : Below w.heap.size w W3 := by rw [e3]; exact bt
  have q3 := hb3.size
  have R3 : IsRow W3 (w.heap.size) ∧ IsRow W3 (w.heap.size + 1) := by rw [e3]; simp [go_sem]
  obtain ⟨r2_3, r3_3⟩ := R3
  have C3 := (⟨congrArg (blk · (w.heap.size)) e3, congrArg (blk · (w.heap.size + 1)) e3⟩ : _ ∧ _); simp [go_sem] at C3
  obtain ⟨c2_3, c3_3⟩ := C3
  have z2_3 := isRow_lt r2_3; have z3_3 := isRow_lt r3_3
  clear e3
  refine wp_quiet_all (Below W3.heap.size W3) (by kernel_rfl) (by kernel_rfl) (Below.refl _ _).drew ?_
  iterate 2 (refine q_plain rfl ?_; apply Exists.intro; refine ⟨fun W hW => ?_, ?_⟩; (focus (obtain ⟨x2, y2⟩ := keepB hW z2_3 r2_3 c2_3; obtain ⟨x3, y3⟩ := keepB hW z3_3 r3_3 c3_3; go_simp; first | done | rfl)); simp only [Act.put, List.setIfInBounds_toArray, List.set_cons_zero, List.set_cons_succ])
  (refine q_plain rfl ?_; apply Exists.intro; refine ⟨fun W hW => ?_, ?_⟩; (focus (obtain ⟨x2, y2⟩ := keepB hW z2_3 r2_3 c2_3; obtain ⟨x3, y3⟩ := keepB hW z3_3 r3_3 c3_3; go_simp; (go_at_call 80; exact (l02Counit_any _ _ _ _ _ hp hp' HF.out Hv.out).mono fun e w2 ⟨he, hw2⟩ => ⟨he, hW.trans (hw2.mono hW.size)⟩))); simp only [Act.put, List.setIfInBounds_toArray, List.set_cons_zero, List.set_cons_succ])
  iterate 2 (refine q_plain rfl ?_; apply Exists.intro; refine ⟨fun W hW => ?_, ?_⟩; (focus (obtain ⟨x2, y2⟩ := keepB hW z2_3 r2_3 c2_3; obtain ⟨x3, y3⟩ := keepB hW z3_3 r3_3 c3_3; go_simp; first | done | rfl)); simp only [Act.put, List.setIfInBounds_toArray, List.set_cons_zero, List.set_cons_succ])
  iterate 9 (refine q_skip (by kernel_rfl) ?_; simp only [Act.put, List.setIfInBounds_toArray, List.set_cons_zero, List.set_cons_succ])
  iterate 2 (refine q_plain rfl ?_; apply Exists.intro; refine ⟨fun W hW => ?_, ?_⟩; (focus (obtain ⟨x2, y2⟩ := keepB hW z2_3 r2_3 c2_3; obtain ⟨x3, y3⟩ := keepB hW z3_3 r3_3 c3_3; go_simp; first | done | rfl)); simp only [Act.put, List.setIfInBounds_toArray, List.set_cons_zero, List.set_cons_succ])
  refine wpQuiet_nil ?_
  intro W4 hw4
  obtain ⟨r2_4, c2_4, z2_4⟩ := keepZ hw4 z2_3 r2_3 c2_3
  obtain ⟨r3_4, c3_4, z3_4⟩ := keepZ hw4 z3_3 r3_3 c3_3
  obtain ⟨hb4, q4⟩ := bN hb3 hw4
  clear hw4 r2_3 c2_3 z2_3 r3_3 c3_3 z3_3 hb3
  go_wp2_with fail
  go_ret
  exact ⟨ret_bool (by rw [H.out]), bt⟩

def grpR (p n : Int) (f v : Nat → Int) : Bool := match okC p n f 1 (nth v) with | true => grpB p f v | false => false
theorem grpR_yes {p n : Int} {f v : Nat → Int} (h : okC p n f 1 (nth v) = true) : grpR p n f v = grpB p f v := by unfold grpR; rw [h]
theorem grpR_no {p n : Int} {f v : Nat → Int} (h : okC p n f 1 (nth v) = false) : grpR p n f v = false := by unfold grpR; rw [h]

end Go.Proofs.Ytfmhgfnadgaiaaa
