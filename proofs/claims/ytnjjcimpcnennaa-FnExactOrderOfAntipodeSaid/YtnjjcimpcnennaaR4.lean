/- The seven axioms, by the program. -/
import Derived.Test.YtnjjcimpcnennaaR3
namespace Go.Proofs.Ytnjjcimpcnennaa
open Go.RowKit
set_option linter.unusedSimpArgs false
set_option linter.unusedVariables false
attribute [local irreducible] wpQuiet wpQE

/-- the coproduct of e(i) as a table of two vectors -/
def comF (f : Nat → Int) (i : Nat) : Nat → Int := fun t => tab (coF f) (i * 64 + t)
def ax3At (p : Int) (n : Nat) (f : Nat → Int) (i j : Nat) : Bool := segEq 0 64 (copF p (coF f) (mtab f i j) 8) (ppK p n f (comF f i) (comF f j) n 0)
def ax3R (p : Int) (n : Nat) (f : Nat → Int) (i : Nat) : Bool := (List.range n).all (ax3At p n f i)
def ax3B (p : Int) (n : Nat) (f : Nat → Int) : Bool := (List.range n).all (ax3R p n f)
def ax4B (p : Int) (f : Nat → Int) : Bool := segEq 0 64 (copF p (coF f) f 8) (outF p f f 8)
def ax5At (p : Int) (f : Nat → Int) (i j : Nat) : Bool := dotF 8 (coF f) (mtab f i j) % p == coF f i * coF f j % p
def ax5R (p : Int) (n : Nat) (f : Nat → Int) (i : Nat) : Bool := (List.range n).all (ax5At p f i)
def ax5U (p : Int) (f : Nat → Int) : Bool := dotF 8 (coF f) f % p == 1
def ax5B (p : Int) (n : Nat) (f : Nat → Int) : Bool := (List.range n).all (ax5R p n f) && ax5U p f
def ax6B (p : Int) (n : Nat) (f : Nat → Int) : Bool := segEq 0 64 (cvK p n n f (coF f) (anF f) (idK n) n 0) (outF p (coF f) f 8)
def ax7B (p : Int) (n : Nat) (f : Nat → Int) : Bool := segEq 0 64 (cvK p n n f (coF f) (idK n) (anF f) n 0) (outF p (coF f) f 8)
theorem comF_bytes {f : Nat → Int} (h : Bytes 1104 f) (i : Nat) (hi : i < 8) : Bytes 64 (comF f i) := com_bytes (co_bytes h) i hi
theorem hop_comF (p n : Int) (f : Nat → Int) (i : Nat) (hi : i < 8) : (hop p n f).extract (530 + i * 64) (530 + i * 64 + 64) = row 64 (comF f i) := hop_com64 p n f i hi
theorem neq_of {a b : Int} {q : Bool} (h : (a == b) = q) : (a != b) = !q := by unfold bne; rw [h]

set_option maxRecDepth 100000 in
set_option maxHeartbeats 1000000 in
theorem isAlgebraOfHopf_any (p n : Int) (f : Nat → Int) (w : World) (hF : Bytes 1104 f) :
    Calls Try.prog 61 #[.agg (hop p n f)] w fun e w' => e = .returned (.bool (algB p n f)) ∧ Below w.heap.size w w' := by
  have HF := Lib.hid hF; clear hF
  go_enter Try.func61, Try.ntmps61
  go_wp2_with fail
  refine atomC fun W1 e1 => ?_
  have hb1 : Below w.heap.size w W1 := by rw [e1]; (repeat (first | exact Below.refl _ _ | refine Below.alloc ?_ (by first | omega | (simp; try omega)) _ | refine below_setRow ?_ (by omega) _ | refine Below.drew ?_))
  have q1 := hb1.size
  clear e1
  refine (algebraOf_any _ _ _ _).mono ?_; rintro _ W2 ⟨rfl, hw2⟩
  have hb2 := hb1.trans (hw2.mono hb1.size)
  have q2 := hb2.size
  clear hw2 hb1
  go_wp2_with fail
  refine (isAlgebra_any _ _ _ _ (hop_bytes HF.out)).mono ?_; rintro _ W3 ⟨rfl, hw3⟩
  have hb3 := hb2.trans (hw3.mono hb2.size)
  have q3 := hb3.size
  clear hw3 hb2
  go_wp2_with fail
  go_ret
  exact ⟨rfl, (by (repeat (first | exact hb3 | exact Below.refl _ _ | refine Below.alloc ?_ (by first | omega | (simp; try omega)) _ | refine below_setRow ?_ (by omega) _ | refine Below.drew ?_)))⟩

set_option maxRecDepth 100000 in
set_option maxHeartbeats 1000000 in
theorem isCoalgebraOfHopf_any (p n : Int) (f : Nat → Int) (w : World) (hF : Bytes 1104 f) :
    Calls Try.prog 62 #[.agg (hop p n f)] w fun e w' => e = .returned (.bool (coB p n (coF f))) ∧ Below w.heap.size w w' := by
  have HF := Lib.hid hF; clear hF
  go_enter Try.func62, Try.ntmps62
  go_wp2_with fail
  refine atomC fun W1 e1 => ?_
  have hb1 : Below w.heap.size w W1 := by rw [e1]; (repeat (first | exact Below.refl _ _ | refine Below.alloc ?_ (by first | omega | (simp; try omega)) _ | refine below_setRow ?_ (by omega) _ | refine Below.drew ?_))
  have q1 := hb1.size
  clear e1
  refine (coalgebraOf_any _ _ _ _).mono ?_; rintro _ W2 ⟨rfl, hw2⟩
  have hb2 := hb1.trans (hw2.mono hb1.size)
  have q2 := hb2.size
  clear hw2 hb1
  go_wp2_with fail
  refine (isCo_any _ _ _ _ (co_bytes HF.out)).mono ?_; rintro _ W3 ⟨rfl, hw3⟩
  have hb3 := hb2.trans (hw3.mono hb2.size)
  have q3 := hb3.size
  clear hw3 hb2
  go_wp2_with fail
  go_ret
  exact ⟨rfl, (by (repeat (first | exact hb3 | exact Below.refl _ _ | refine Below.alloc ?_ (by first | omega | (simp; try omega)) _ | refine below_setRow ?_ (by omega) _ | refine Below.drew ?_)))⟩

set_option maxRecDepth 100000 in
set_option maxHeartbeats 4000000 in
theorem coproductKeepsProducts_any (p : Int) (n : Nat) (f : Nat → Int) (w : World) (hp : 0 < p) (hp' : p ≤ 255) (hn : n ≤ 8) (hF : Bytes 1104 f) :
    Calls Try.prog 63 #[.agg (hop p n f)] w fun e w' => e = .returned (.bool (ax3B p n f)) ∧ Below w.heap.size w w' := by
  have HF := Lib.hid hF; clear hF
  go_enter Try.func63, Try.ntmps63
  go_wp2
  refine atomW fun W1 e1 => ?_
  have hb1 : Below w.heap.size w W1 := by rw [e1]; (repeat (first | exact Below.refl _ _ | refine Below.alloc ?_ (by first | omega | (simp; try omega)) _ | refine below_setRow ?_ (by omega) _ | refine Below.drew ?_))
  have q1 := hb1.size
  have r1_1 : IsRow W1 (w.heap.size) := by rw [e1]; simp [go_sem]
  have c1_1 := congrArg (fun x => blk x (w.heap.size)) e1; simp [go_sem] at c1_1
  have z1_1 := isRow_lt r1_1
  clear e1
  refine wp_quiet_made2 4 6 _ _ (alg 0 0 zf) (alg 0 0 zf) 40 45 (by kernel_rfl) rfl rfl rfl rfl (by omega) (by kernel_rfl) (fun a W => (xallocAlg _ _ _ _ _ _ _).trans (allocAlg W)) (fun a W => (xallocCoa _ _ _ _ _ _ _).trans (allocCoa W)) ?_
  simp only [List.take_succ_cons, List.take_zero, List.drop_succ_cons, List.drop_zero, List.eraseIdx_cons_succ, List.eraseIdx_cons_zero]
  iterate 1 (refine e_plain rfl ?_; apply Exists.intro; refine ⟨fun D hD hK W hW => ?_, ?_⟩; (focus (obtain ⟨x1, y1⟩ := keepB (hD W hW) z1_1 r1_1 c1_1; unfold Oper.quietAt; go_simp; first | done | rfl)); simp only [Act.put, List.setIfInBounds_toArray, List.set_cons_zero, List.set_cons_succ])
  (refine e_plain rfl ?_; apply Exists.intro; refine ⟨fun D hD hK W hW => ?_, ?_⟩; (focus (obtain ⟨x1, y1⟩ := keepB (hD W hW) z1_1 r1_1 c1_1; unfold Oper.quietAt; go_simp; (go_at_call 41; exact (algebraOf_any _ _ _ _).mono fun e w2 ⟨he, hw2⟩ => ⟨he, hK _ _ hW hw2⟩))); simp only [Act.put, List.setIfInBounds_toArray, List.set_cons_zero, List.set_cons_succ])
  iterate 1 (refine e_plain rfl ?_; apply Exists.intro; refine ⟨fun D hD hK W hW => ?_, ?_⟩; (focus (obtain ⟨x1, y1⟩ := keepB (hD W hW) z1_1 r1_1 c1_1; unfold Oper.quietAt; go_simp; first | done | rfl)); simp only [Act.put, List.setIfInBounds_toArray, List.set_cons_zero, List.set_cons_succ])
  (refine e_plain rfl ?_; apply Exists.intro; refine ⟨fun D hD hK W hW => ?_, ?_⟩; (focus (obtain ⟨x1, y1⟩ := keepB (hD W hW) z1_1 r1_1 c1_1; unfold Oper.quietAt; go_simp; (go_at_call 44; exact (coalgebraOf_any _ _ _ _).mono fun e w2 ⟨he, hw2⟩ => ⟨he, hK _ _ hW hw2⟩))); simp only [Act.put, List.setIfInBounds_toArray, List.set_cons_zero, List.set_cons_succ])
  refine e_nil ?_
  intro a2 b2 W2 hw2 mk1_2 mk2_2 hne2
  obtain ⟨hl1_2, m1_2, m2_2⟩ := mk1_2; obtain ⟨hl2_2, m3_2, m4_2⟩ := mk2_2
  have n1_3 : (w.heap.size) ≠ (a2) := by have := z1_1; omega
  have n3_1 : (a2) ≠ (w.heap.size) := by have := z1_1; omega
  have n1_4 : (w.heap.size) ≠ (b2) := by have := z1_1; omega
  have n4_1 : (b2) ≠ (w.heap.size) := by have := z1_1; omega
  obtain ⟨r1_2, c1_2⟩ := keepB hw2 z1_1 r1_1 c1_1
  have z1_2 := isRow_lt r1_2
  have hb2 := hb1.trans (hw2.mono hb1.size)
  have q2 := hb2.size
  clear hw2 r1_1 c1_1 z1_1 hb1
  have n3_4 : (a2) ≠ (b2) := hne2
  have n4_3 : (b2) ≠ (a2) := Ne.symm hne2
  have z3_2 := isRow_lt m1_2
  have z4_2 := isRow_lt m3_2
  simp only [Act.put, List.setIfInBounds_toArray, List.set_cons_zero, List.set_cons_succ]
  go_wp2
  refine atomW fun W3 e3 => ?_
  have hb3 : Below w.heap.size w W3 := by rw [e3]; (repeat (first | exact hb2 | exact Below.refl _ _ | refine Below.alloc ?_ (by first | omega | (simp; try omega)) _ | refine below_setRow ?_ (by omega) _ | refine Below.drew ?_))
  have q3 := hb3.size
  have r1_3 : IsRow W3 (w.heap.size) := by rw [e3]; simp [go_sem, r1_2, c1_2, n1_3, n1_4, m1_2, m2_2, n3_1, n3_4, m3_2, m4_2, n4_1, n4_3]
  have c1_3 := congrArg (fun x => blk x (w.heap.size)) e3; simp [go_sem, r1_2, c1_2, n1_3, n1_4, m1_2, m2_2, n3_1, n3_4, m3_2, m4_2, n4_1, n4_3] at c1_3
  have z1_3 := isRow_lt r1_3
  have r3_3 : IsRow W3 (a2) := by rw [e3]; simp [go_sem, r1_2, c1_2, n1_3, n1_4, m1_2, m2_2, n3_1, n3_4, m3_2, m4_2, n4_1, n4_3]
  have c3_3 := congrArg (fun x => blk x (a2)) e3; simp [go_sem, r1_2, c1_2, n1_3, n1_4, m1_2, m2_2, n3_1, n3_4, m3_2, m4_2, n4_1, n4_3] at c3_3
  have z3_3 := isRow_lt r3_3
  have r4_3 : IsRow W3 (b2) := by rw [e3]; simp [go_sem, r1_2, c1_2, n1_3, n1_4, m1_2, m2_2, n3_1, n3_4, m3_2, m4_2, n4_1, n4_3]
  have c4_3 := congrArg (fun x => blk x (b2)) e3; simp [go_sem, r1_2, c1_2, n1_3, n1_4, m1_2, m2_2, n3_1, n3_4, m3_2, m4_2, n4_1, n4_3] at c4_3
  have z4_3 := isRow_lt r4_3
  clear e3 r1_2 c1_2 z1_2 m1_2 m2_2 z3_2 m3_2 m4_2 z4_2 hb2
  go_loopw [13] (fun s13 wr => ∃ i : Nat, i ≤ n ∧ s13 = .int .i64 i ∧ Below w.heap.size w wr ∧ (IsRow wr (w.heap.size) ∧ blk wr (w.heap.size) = blk W3 (w.heap.size)) ∧ (IsRow wr (a2) ∧ blk wr (a2) = blk W3 (a2)) ∧ (IsRow wr (b2) ∧ blk wr (b2) = blk W3 (b2)) ∧ ∀ a, a < i → ax3R p n f a = true) (fun s13 _ => n - (intOf s13).toNat)
  case atStart => exact ⟨0, by omega, rfl, hb3, ⟨r1_3, rfl⟩, ⟨r3_3, rfl⟩, ⟨r4_3, rfl⟩, fun a ha => by omega⟩
  case round =>
    obtain ⟨i, hle4, rfl, hb4, ⟨r1_4, c1_4⟩, ⟨r3_4, c3_4⟩, ⟨r4_4, c4_4⟩, hx4⟩ := hrel
    obtain ⟨W4, rfl⟩ : ∃ W4 : World, W4 = wr := ⟨_, rfl⟩
    have q4 := hb4.size
    have HX4 := Lib.hid hx4; clear hx4
    have E1_4 := Lib.hid c1_3; replace c1_4 := c1_4.trans c1_3
    have z1_4 := isRow_lt r1_4
    have E3_4 := Lib.hid c3_3; replace c3_4 := c3_4.trans c3_3
    have z3_4 := isRow_lt r3_4
    have E4_4 := Lib.hid c4_3; replace c4_4 := c4_4.trans c4_3
    have z4_4 := isRow_lt r4_4
    clear r1_3 c1_3 z1_3 r3_3 c3_3 z3_3 r4_3 c4_3 z4_3 hb3
    by_cases hlt4 : i < n
    · skip
      have i0_4 : (0 : Int) ≤ (i : Int) := by omega
      have i8_4 : (i : Int) < 8 := by omega
      have k8_4 : i < 8 := by omega
      have m8_4 : i * 8 + 8 ≤ 64 := by omega
      have m64_4 : i * 64 + 64 ≤ 512 := by omega
      have l1_4 : 10 + i * 64 + 64 ≤ 522 := by omega
      go_wp2
      go_loopw [18] (fun s18 wr => ∃ j : Nat, j ≤ n ∧ s18 = .int .i64 j ∧ Below w.heap.size w wr ∧ (IsRow wr (w.heap.size) ∧ blk wr (w.heap.size) = blk W4 (w.heap.size)) ∧ (IsRow wr (a2) ∧ blk wr (a2) = blk W4 (a2)) ∧ (IsRow wr (b2) ∧ blk wr (b2) = blk W4 (b2)) ∧ (∀ a, a < i → ax3R p n f a = true) ∧ (∀ b, b < j → ax3At p n f i b = true)) (fun s18 _ => n - (intOf s18).toNat)
      case atStart => exact ⟨0, by omega, rfl, hb4, ⟨r1_4, rfl⟩, ⟨r3_4, rfl⟩, ⟨r4_4, rfl⟩, ⟨HX4.out, fun b hb => by omega⟩⟩
      case round =>
        obtain ⟨j, hle5, rfl, hb5, ⟨r1_5, c1_5⟩, ⟨r3_5, c3_5⟩, ⟨r4_5, c4_5⟩, hx5⟩ := hrel
        obtain ⟨W5, rfl⟩ : ∃ W5 : World, W5 = wr := ⟨_, rfl⟩
        have q5 := hb5.size
        have HX5 := Lib.hid hx5; clear hx5
        have E1_5 := Lib.hid c1_4; replace c1_5 := c1_5.trans c1_4
        have z1_5 := isRow_lt r1_5
        have E3_5 := Lib.hid c3_4; replace c3_5 := c3_5.trans c3_4
        have z3_5 := isRow_lt r3_5
        have E4_5 := Lib.hid c4_4; replace c4_5 := c4_5.trans c4_4
        have z4_5 := isRow_lt r4_5
        clear r1_4 c1_4 z1_4 r3_4 c3_4 z3_4 r4_4 c4_4 z4_4 hb4
        by_cases hlt5 : j < n
        · skip
          have i0_5 : (0 : Int) ≤ (j : Int) := by omega
          have i8_5 : (j : Int) < 8 := by omega
          have k8_5 : j < 8 := by omega
          have m8_5 : j * 8 + 8 ≤ 64 := by omega
          have m64_5 : j * 64 + 64 ≤ 512 := by omega
          have l1_5 : 10 + j * 64 + 64 ≤ 522 := by omega
          have l2_5i : 10 + i * 64 + j * 8 + 8 ≤ 522 := by omega
          have l3_5i : 10 + j * 64 + i * 8 + 8 ≤ 522 := by omega
          have l4_5i : i * 64 + j * 8 + 8 ≤ 512 := by omega
          have l5_5i : j * 64 + i * 8 + 8 ≤ 512 := by omega
          have l6_5i : i * 8 + j < 64 := by omega
          have l7_5i : j * 8 + i < 64 := by omega
          cases h0 : ax3At p n f i j
          · skip
            have e8 := hop_mul8 p n f i j (by omega) (by omega)
            have e7 := hop_comF p n f i (by omega)
            have e6 := hop_comF p n f j (by omega)
            have HI := Lib.hid (comF_bytes HF.out i (by omega)); have HJ := Lib.hid (comF_bytes HF.out j (by omega))
            have l8 : 530 + i * 64 + 64 ≤ 1106 := by omega
            have l9 : 530 + j * 64 + 64 ≤ 1106 := by omega
            have l7 : 10 + i * 64 + j * 8 + 8 ≤ 1106 := by omega
            have h1 : segEq 0 64 (copF p (coF f) (mtab f i j) 8) (ppK p n f (comF f i) (comF f j) n 0) = false := h0
            have H : Hid (ax3B p n f = false) := Lib.hid (all_no (q := ax3R p n f) i n (by omega) (all_no (q := ax3At p n f i) j n (by omega) h0))
            go_wp2
            refine wp_quiet_all (Below W5.heap.size W5) (by kernel_rfl) (by kernel_rfl) (Below.refl _ _).drew ?_
            iterate 7 (refine q_plain rfl ?_; apply Exists.intro; refine ⟨fun W hW => ?_, ?_⟩; (focus (obtain ⟨x1, y1⟩ := keepB hW z1_5 r1_5 c1_5; obtain ⟨x3, y3⟩ := keepB hW z3_5 r3_5 c3_5; obtain ⟨x4, y4⟩ := keepB hW z4_5 r4_5 c4_5; go_simp; first | done | rfl)); simp only [Act.put, List.setIfInBounds_toArray, List.set_cons_zero, List.set_cons_succ])
            (refine q_plain rfl ?_; apply Exists.intro; refine ⟨fun W hW => ?_, ?_⟩; (focus (obtain ⟨x1, y1⟩ := keepB hW z1_5 r1_5 c1_5; obtain ⟨x3, y3⟩ := keepB hW z3_5 r3_5 c3_5; obtain ⟨x4, y4⟩ := keepB hW z4_5 r4_5 c4_5; go_simp; (go_at_call 48; exact (coproduct_any p n (coF f) (mtab f i j) _ hp hp' (co_bytes HF.out) (mtab_bytes (hop_bytes HF.out) i j (by omega) (by omega))).mono fun e w2 ⟨he, hw2⟩ => ⟨he, hW.trans (hw2.mono hW.size)⟩))); simp only [Act.put, List.setIfInBounds_toArray, List.set_cons_zero, List.set_cons_succ])
            iterate 9 (refine q_plain rfl ?_; apply Exists.intro; refine ⟨fun W hW => ?_, ?_⟩; (focus (obtain ⟨x1, y1⟩ := keepB hW z1_5 r1_5 c1_5; obtain ⟨x3, y3⟩ := keepB hW z3_5 r3_5 c3_5; obtain ⟨x4, y4⟩ := keepB hW z4_5 r4_5 c4_5; go_simp; first | done | rfl)); simp only [Act.put, List.setIfInBounds_toArray, List.set_cons_zero, List.set_cons_succ])
            (refine q_plain rfl ?_; apply Exists.intro; refine ⟨fun W hW => ?_, ?_⟩; (focus (obtain ⟨x1, y1⟩ := keepB hW z1_5 r1_5 c1_5; obtain ⟨x3, y3⟩ := keepB hW z3_5 r3_5 c3_5; obtain ⟨x4, y4⟩ := keepB hW z4_5 r4_5 c4_5; go_simp; (go_at_call 84; exact (multiplyPairs_any p n f (comF f i) (comF f j) _ hp hp' hn (hop_bytes HF.out) HI.out HJ.out).mono fun e w2 ⟨he, hw2⟩ => ⟨he, hW.trans (hw2.mono hW.size)⟩))); simp only [Act.put, List.setIfInBounds_toArray, List.set_cons_zero, List.set_cons_succ])
            iterate 1 (refine q_plain rfl ?_; apply Exists.intro; refine ⟨fun W hW => ?_, ?_⟩; (focus (obtain ⟨x1, y1⟩ := keepB hW z1_5 r1_5 c1_5; obtain ⟨x3, y3⟩ := keepB hW z3_5 r3_5 c3_5; obtain ⟨x4, y4⟩ := keepB hW z4_5 r4_5 c4_5; go_simp; first | done | rfl)); simp only [Act.put, List.setIfInBounds_toArray, List.set_cons_zero, List.set_cons_succ])
            refine wpQuiet_nil ?_
            intro W6 hw6
            obtain ⟨r1_6, c1_6⟩ := keepB hw6 z1_5 r1_5 c1_5
            have z1_6 := isRow_lt r1_6
            obtain ⟨r3_6, c3_6⟩ := keepB hw6 z3_5 r3_5 c3_5
            have z3_6 := isRow_lt r3_6
            obtain ⟨r4_6, c4_6⟩ := keepB hw6 z4_5 r4_5 c4_5
            have z4_6 := isRow_lt r4_6
            have hb6 := hb5.trans (hw6.mono hb5.size)
            have q6 := hb6.size
            clear hw6 r1_5 c1_5 z1_5 r3_5 c3_5 z3_5 r4_5 c4_5 z4_5 hb5
            go_wp2_with fail
            go_ret
            exact ⟨ret_bool (by rw [H.out] <;> rfl), (by (repeat (first | exact hb6 | exact Below.refl _ _ | refine Below.alloc ?_ (by first | omega | (simp; try omega)) _ | refine below_setRow ?_ (by omega) _ | refine Below.drew ?_)))⟩
          · skip
            have e8 := hop_mul8 p n f i j (by omega) (by omega)
            have e7 := hop_comF p n f i (by omega)
            have e6 := hop_comF p n f j (by omega)
            have HI := Lib.hid (comF_bytes HF.out i (by omega)); have HJ := Lib.hid (comF_bytes HF.out j (by omega))
            have l8 : 530 + i * 64 + 64 ≤ 1106 := by omega
            have l9 : 530 + j * 64 + 64 ≤ 1106 := by omega
            have l7 : 10 + i * 64 + j * 8 + 8 ≤ 1106 := by omega
            have h1 : segEq 0 64 (copF p (coF f) (mtab f i j) 8) (ppK p n f (comF f i) (comF f j) n 0) = true := h0
            have H := Lib.hid (upto_more (q := ax3At p n f i) HX5.out.2 h0)
            have H2 := Lib.hid HX5.out.1
            go_wp2
            refine wp_quiet_all (Below W5.heap.size W5) (by kernel_rfl) (by kernel_rfl) (Below.refl _ _).drew ?_
            iterate 7 (refine q_plain rfl ?_; apply Exists.intro; refine ⟨fun W hW => ?_, ?_⟩; (focus (obtain ⟨x1, y1⟩ := keepB hW z1_5 r1_5 c1_5; obtain ⟨x3, y3⟩ := keepB hW z3_5 r3_5 c3_5; obtain ⟨x4, y4⟩ := keepB hW z4_5 r4_5 c4_5; go_simp; first | done | rfl)); simp only [Act.put, List.setIfInBounds_toArray, List.set_cons_zero, List.set_cons_succ])
            (refine q_plain rfl ?_; apply Exists.intro; refine ⟨fun W hW => ?_, ?_⟩; (focus (obtain ⟨x1, y1⟩ := keepB hW z1_5 r1_5 c1_5; obtain ⟨x3, y3⟩ := keepB hW z3_5 r3_5 c3_5; obtain ⟨x4, y4⟩ := keepB hW z4_5 r4_5 c4_5; go_simp; (go_at_call 48; exact (coproduct_any p n (coF f) (mtab f i j) _ hp hp' (co_bytes HF.out) (mtab_bytes (hop_bytes HF.out) i j (by omega) (by omega))).mono fun e w2 ⟨he, hw2⟩ => ⟨he, hW.trans (hw2.mono hW.size)⟩))); simp only [Act.put, List.setIfInBounds_toArray, List.set_cons_zero, List.set_cons_succ])
            iterate 9 (refine q_plain rfl ?_; apply Exists.intro; refine ⟨fun W hW => ?_, ?_⟩; (focus (obtain ⟨x1, y1⟩ := keepB hW z1_5 r1_5 c1_5; obtain ⟨x3, y3⟩ := keepB hW z3_5 r3_5 c3_5; obtain ⟨x4, y4⟩ := keepB hW z4_5 r4_5 c4_5; go_simp; first | done | rfl)); simp only [Act.put, List.setIfInBounds_toArray, List.set_cons_zero, List.set_cons_succ])
            (refine q_plain rfl ?_; apply Exists.intro; refine ⟨fun W hW => ?_, ?_⟩; (focus (obtain ⟨x1, y1⟩ := keepB hW z1_5 r1_5 c1_5; obtain ⟨x3, y3⟩ := keepB hW z3_5 r3_5 c3_5; obtain ⟨x4, y4⟩ := keepB hW z4_5 r4_5 c4_5; go_simp; (go_at_call 84; exact (multiplyPairs_any p n f (comF f i) (comF f j) _ hp hp' hn (hop_bytes HF.out) HI.out HJ.out).mono fun e w2 ⟨he, hw2⟩ => ⟨he, hW.trans (hw2.mono hW.size)⟩))); simp only [Act.put, List.setIfInBounds_toArray, List.set_cons_zero, List.set_cons_succ])
            iterate 1 (refine q_plain rfl ?_; apply Exists.intro; refine ⟨fun W hW => ?_, ?_⟩; (focus (obtain ⟨x1, y1⟩ := keepB hW z1_5 r1_5 c1_5; obtain ⟨x3, y3⟩ := keepB hW z3_5 r3_5 c3_5; obtain ⟨x4, y4⟩ := keepB hW z4_5 r4_5 c4_5; go_simp; first | done | rfl)); simp only [Act.put, List.setIfInBounds_toArray, List.set_cons_zero, List.set_cons_succ])
            refine wpQuiet_nil ?_
            intro W7 hw7
            obtain ⟨r1_7, c1_7⟩ := keepB hw7 z1_5 r1_5 c1_5
            have z1_7 := isRow_lt r1_7
            obtain ⟨r3_7, c3_7⟩ := keepB hw7 z3_5 r3_5 c3_5
            have z3_7 := isRow_lt r3_7
            obtain ⟨r4_7, c4_7⟩ := keepB hw7 z4_5 r4_5 c4_5
            have z4_7 := isRow_lt r4_7
            have hb7 := hb5.trans (hw7.mono hb5.size)
            have q7 := hb7.size
            clear hw7 r1_5 c1_5 z1_5 r3_5 c3_5 z3_5 r4_5 c4_5 z4_5 hb5
            go_wp2
            go_roundw
            case rel => exact ⟨j + 1, by omega, by go_num, (by (repeat (first | exact hb7 | exact Below.refl _ _ | refine Below.alloc ?_ (by first | omega | (simp; try omega)) _ | refine below_setRow ?_ (by omega) _ | refine Below.drew ?_))), ⟨by simp [go_sem, r1_7, c1_7, n1_3, n1_4, r3_7, c3_7, n3_1, n3_4, r4_7, c4_7, n4_1, n4_3], (by rw [E1_5.out]; first | exact c1_7 | (simp [go_sem, r1_7, c1_7, n1_3, n1_4, r3_7, c3_7, n3_1, n3_4, r4_7, c4_7, n4_1, n4_3]; done))⟩, ⟨by simp [go_sem, r1_7, c1_7, n1_3, n1_4, r3_7, c3_7, n3_1, n3_4, r4_7, c4_7, n4_1, n4_3], (by rw [E3_5.out]; first | exact c3_7 | (simp [go_sem, r1_7, c1_7, n1_3, n1_4, r3_7, c3_7, n3_1, n3_4, r4_7, c4_7, n4_1, n4_3]; done))⟩, ⟨by simp [go_sem, r1_7, c1_7, n1_3, n1_4, r3_7, c3_7, n3_1, n3_4, r4_7, c4_7, n4_1, n4_3], (by rw [E4_5.out]; first | exact c4_7 | (simp [go_sem, r1_7, c1_7, n1_3, n1_4, r3_7, c3_7, n3_1, n3_4, r4_7, c4_7, n4_1, n4_3]; done))⟩, ⟨H2.out, H.out⟩⟩
            case measure => simp [intOf]; omega
        · skip
          obtain rfl : n = j := by omega
          have H := Lib.hid (upto_more (q := ax3R p n f) HX5.out.1 (all_yes (q := ax3At p n f i) n HX5.out.2))
          go_wp2
          go_roundw
          case rel => exact ⟨i + 1, by omega, by go_num, (by (repeat (first | exact hb5 | exact Below.refl _ _ | refine Below.alloc ?_ (by first | omega | (simp; try omega)) _ | refine below_setRow ?_ (by omega) _ | refine Below.drew ?_))), ⟨by simp [go_sem, r1_5, c1_5, n1_3, n1_4, r3_5, c3_5, n3_1, n3_4, r4_5, c4_5, n4_1, n4_3], (by rw [E1_4.out]; first | exact c1_5 | (simp [go_sem, r1_5, c1_5, n1_3, n1_4, r3_5, c3_5, n3_1, n3_4, r4_5, c4_5, n4_1, n4_3]; done))⟩, ⟨by simp [go_sem, r1_5, c1_5, n1_3, n1_4, r3_5, c3_5, n3_1, n3_4, r4_5, c4_5, n4_1, n4_3], (by rw [E3_4.out]; first | exact c3_5 | (simp [go_sem, r1_5, c1_5, n1_3, n1_4, r3_5, c3_5, n3_1, n3_4, r4_5, c4_5, n4_1, n4_3]; done))⟩, ⟨by simp [go_sem, r1_5, c1_5, n1_3, n1_4, r3_5, c3_5, n3_1, n3_4, r4_5, c4_5, n4_1, n4_3], (by rw [E4_4.out]; first | exact c4_5 | (simp [go_sem, r1_5, c1_5, n1_3, n1_4, r3_5, c3_5, n3_1, n3_4, r4_5, c4_5, n4_1, n4_3]; done))⟩, H.out⟩
          case measure => simp [intOf]; omega
    · skip
      obtain rfl : n = i := by omega
      have H : Hid (ax3B p n f = true) := Lib.hid (all_yes (q := ax3R p n f) n fun a ha => HX4.out a ha)
      go_wp2_with fail
      go_ret
      exact ⟨ret_bool (by rw [H.out] <;> rfl), (by (repeat (first | exact hb4 | exact Below.refl _ _ | refine Below.alloc ?_ (by first | omega | (simp; try omega)) _ | refine below_setRow ?_ (by omega) _ | refine Below.drew ?_)))⟩

set_option maxRecDepth 100000 in
set_option maxHeartbeats 1000000 in
theorem coproductKeepsUnit_any (p : Int) (n : Nat) (f : Nat → Int) (w : World) (hp : 0 < p) (hp' : p ≤ 255) (hn : n ≤ 8) (hF : Bytes 1104 f) :
    Calls Try.prog 64 #[.agg (hop p n f)] w fun e w' => e = .returned (.bool (ax4B p f)) ∧ Below w.heap.size w w' := by
  have HF := Lib.hid hF; clear hF
  have H : Hid (ax4B p f = segEq 0 64 (copF p (coF f) f 8) (outF p f f 8)) := Lib.hid rfl
  go_enter Try.func64, Try.ntmps64
  go_wp2
  refine atomW fun W1 e1 => ?_
  have hb1 : Below w.heap.size w W1 := by rw [e1]; (repeat (first | exact Below.refl _ _ | refine Below.alloc ?_ (by first | omega | (simp; try omega)) _ | refine below_setRow ?_ (by omega) _ | refine Below.drew ?_))
  have q1 := hb1.size
  have r1_1 : IsRow W1 (w.heap.size) := by rw [e1]; simp [go_sem]
  have c1_1 := congrArg (fun x => blk x (w.heap.size)) e1; simp [go_sem] at c1_1
  have z1_1 := isRow_lt r1_1
  clear e1
  refine wp_quiet_all (Below W1.heap.size W1) (by kernel_rfl) (by kernel_rfl) (Below.refl _ _).drew ?_
  iterate 1 (refine q_plain rfl ?_; apply Exists.intro; refine ⟨fun W hW => ?_, ?_⟩; (focus (obtain ⟨x1, y1⟩ := keepB hW z1_1 r1_1 c1_1; go_simp; first | done | rfl)); simp only [Act.put, List.setIfInBounds_toArray, List.set_cons_zero, List.set_cons_succ])
  (refine q_plain rfl ?_; apply Exists.intro; refine ⟨fun W hW => ?_, ?_⟩; (focus (obtain ⟨x1, y1⟩ := keepB hW z1_1 r1_1 c1_1; go_simp; (go_at_call 44; exact (coalgebraOf_any _ _ _ _).mono fun e w2 ⟨he, hw2⟩ => ⟨he, hW.trans (hw2.mono hW.size)⟩))); simp only [Act.put, List.setIfInBounds_toArray, List.set_cons_zero, List.set_cons_succ])
  iterate 2 (refine q_plain rfl ?_; apply Exists.intro; refine ⟨fun W hW => ?_, ?_⟩; (focus (obtain ⟨x1, y1⟩ := keepB hW z1_1 r1_1 c1_1; go_simp; first | done | rfl)); simp only [Act.put, List.setIfInBounds_toArray, List.set_cons_zero, List.set_cons_succ])
  (refine q_plain rfl ?_; apply Exists.intro; refine ⟨fun W hW => ?_, ?_⟩; (focus (obtain ⟨x1, y1⟩ := keepB hW z1_1 r1_1 c1_1; go_simp; (go_at_call 48; exact (coproduct_any p n (coF f) f _ hp hp' (co_bytes HF.out) (unit_bytes (hop_bytes HF.out))).mono fun e w2 ⟨he, hw2⟩ => ⟨he, hW.trans (hw2.mono hW.size)⟩))); simp only [Act.put, List.setIfInBounds_toArray, List.set_cons_zero, List.set_cons_succ])
  iterate 6 (refine q_plain rfl ?_; apply Exists.intro; refine ⟨fun W hW => ?_, ?_⟩; (focus (obtain ⟨x1, y1⟩ := keepB hW z1_1 r1_1 c1_1; go_simp; first | done | rfl)); simp only [Act.put, List.setIfInBounds_toArray, List.set_cons_zero, List.set_cons_succ])
  (refine q_plain rfl ?_; apply Exists.intro; refine ⟨fun W hW => ?_, ?_⟩; (focus (obtain ⟨x1, y1⟩ := keepB hW z1_1 r1_1 c1_1; go_simp; (go_at_call 85; exact (pairOf_any p f f _ hp hp' (unit_bytes (hop_bytes HF.out)) (unit_bytes (hop_bytes HF.out))).mono fun e w2 ⟨he, hw2⟩ => ⟨he, hW.trans (hw2.mono hW.size)⟩))); simp only [Act.put, List.setIfInBounds_toArray, List.set_cons_zero, List.set_cons_succ])
  iterate 2 (refine q_plain rfl ?_; apply Exists.intro; refine ⟨fun W hW => ?_, ?_⟩; (focus (obtain ⟨x1, y1⟩ := keepB hW z1_1 r1_1 c1_1; go_simp; first | done | rfl)); simp only [Act.put, List.setIfInBounds_toArray, List.set_cons_zero, List.set_cons_succ])
  refine wpQuiet_nil ?_
  intro W2 hw2
  obtain ⟨r1_2, c1_2⟩ := keepB hw2 z1_1 r1_1 c1_1
  have z1_2 := isRow_lt r1_2
  have hb2 := hb1.trans (hw2.mono hb1.size)
  have q2 := hb2.size
  clear hw2 r1_1 c1_1 z1_1 hb1
  go_wp2_with fail
  go_ret
  exact ⟨ret_bool (by rw [H.out]), (by (repeat (first | exact hb2 | exact Below.refl _ _ | refine Below.alloc ?_ (by first | omega | (simp; try omega)) _ | refine below_setRow ?_ (by omega) _ | refine Below.drew ?_)))⟩

set_option maxRecDepth 100000 in
set_option maxHeartbeats 4000000 in
theorem counitKeepsProducts_any (p : Int) (n : Nat) (f : Nat → Int) (w : World) (hp : 0 < p) (hp' : p ≤ 255) (hn : n ≤ 8) (hF : Bytes 1104 f) :
    Calls Try.prog 65 #[.agg (hop p n f)] w fun e w' => e = .returned (.bool (ax5B p n f)) ∧ Below w.heap.size w w' := by
  have HF := Lib.hid hF; clear hF
  have HC : Hid (Bytes 8 (coF f)) := Lib.hid (unit_bytes (co_bytes HF.out))
  go_enter Try.func65, Try.ntmps65
  go_wp2
  refine atomW fun W1 e1 => ?_
  have hb1 : Below w.heap.size w W1 := by rw [e1]; (repeat (first | exact Below.refl _ _ | refine Below.alloc ?_ (by first | omega | (simp; try omega)) _ | refine below_setRow ?_ (by omega) _ | refine Below.drew ?_))
  have q1 := hb1.size
  have r1_1 : IsRow W1 (w.heap.size) := by rw [e1]; simp [go_sem]
  have c1_1 := congrArg (fun x => blk x (w.heap.size)) e1; simp [go_sem] at c1_1
  have z1_1 := isRow_lt r1_1
  clear e1
  go_loopw [8] (fun s8 wr => ∃ i : Nat, i ≤ n ∧ s8 = .int .i64 i ∧ Below w.heap.size w wr ∧ (IsRow wr (w.heap.size) ∧ blk wr (w.heap.size) = blk W1 (w.heap.size)) ∧ ∀ a, a < i → ax5R p n f a = true) (fun s8 _ => n - (intOf s8).toNat)
  case atStart => exact ⟨0, by omega, rfl, hb1, ⟨r1_1, rfl⟩, fun a ha => by omega⟩
  case round =>
    obtain ⟨i, hle2, rfl, hb2, ⟨r1_2, c1_2⟩, hx2⟩ := hrel
    obtain ⟨W2, rfl⟩ : ∃ W2 : World, W2 = wr := ⟨_, rfl⟩
    have q2 := hb2.size
    have HX2 := Lib.hid hx2; clear hx2
    have E1_2 := Lib.hid c1_1; replace c1_2 := c1_2.trans c1_1
    have z1_2 := isRow_lt r1_2
    clear r1_1 c1_1 z1_1 hb1
    by_cases hlt2 : i < n
    · skip
      have i0_2 : (0 : Int) ≤ (i : Int) := by omega
      have i8_2 : (i : Int) < 8 := by omega
      have k8_2 : i < 8 := by omega
      have m8_2 : i * 8 + 8 ≤ 64 := by omega
      have m64_2 : i * 64 + 64 ≤ 512 := by omega
      have l1_2 : 10 + i * 64 + 64 ≤ 522 := by omega
      go_wp2
      go_loopw [13] (fun s13 wr => ∃ j : Nat, j ≤ n ∧ s13 = .int .i64 j ∧ Below w.heap.size w wr ∧ (IsRow wr (w.heap.size) ∧ blk wr (w.heap.size) = blk W2 (w.heap.size)) ∧ (∀ a, a < i → ax5R p n f a = true) ∧ (∀ b, b < j → ax5At p f i b = true)) (fun s13 _ => n - (intOf s13).toNat)
      case atStart => exact ⟨0, by omega, rfl, hb2, ⟨r1_2, rfl⟩, ⟨HX2.out, fun b hb => by omega⟩⟩
      case round =>
        obtain ⟨j, hle3, rfl, hb3, ⟨r1_3, c1_3⟩, hx3⟩ := hrel
        obtain ⟨W3, rfl⟩ : ∃ W3 : World, W3 = wr := ⟨_, rfl⟩
        have q3 := hb3.size
        have HX3 := Lib.hid hx3; clear hx3
        have E1_3 := Lib.hid c1_2; replace c1_3 := c1_3.trans c1_2
        have z1_3 := isRow_lt r1_3
        clear r1_2 c1_2 z1_2 hb2
        by_cases hlt3 : j < n
        · skip
          have i0_3 : (0 : Int) ≤ (j : Int) := by omega
          have i8_3 : (j : Int) < 8 := by omega
          have k8_3 : j < 8 := by omega
          have m8_3 : j * 8 + 8 ≤ 64 := by omega
          have m64_3 : j * 64 + 64 ≤ 512 := by omega
          have l1_3 : 10 + j * 64 + 64 ≤ 522 := by omega
          have l2_3i : 10 + i * 64 + j * 8 + 8 ≤ 522 := by omega
          have l3_3i : 10 + j * 64 + i * 8 + 8 ≤ 522 := by omega
          have l4_3i : i * 64 + j * 8 + 8 ≤ 512 := by omega
          have l5_3i : j * 64 + i * 8 + 8 ≤ 512 := by omega
          have l6_3i : i * 8 + j < 64 := by omega
          have l7_3i : j * 8 + i < 64 := by omega
          cases h0 : ax5At p f i j
          · skip
            have HW : Hid (Bytes 8 (mtab f i j)) := Lib.hid (mtab_bytes (hop_bytes HF.out) i j (by omega) (by omega))
            have e8 := hop_mul8 p n f i j (by omega) (by omega)
            have e7 := hop_cq p n f i (by omega)
            have e6 := hop_cq p n f j (by omega)
            have l7 : 10 + i * 64 + j * 8 + 8 ≤ 1106 := by omega
            have b1 := (HC.out i (by omega)).1; have b2 := (HC.out i (by omega)).2; have b3 := (HC.out j (by omega)).1; have b4 := (HC.out j (by omega)).2
            have b5 := (mod_range (coF f i * coF f j) p hp).1; have b6 := (mod_range (coF f i * coF f j) p hp).2
            have q1 : IntKind.i64.wrap (coF f i * coF f j % p) = coF f i * coF f j % p := IntWalk.i64_in _ (by omega)
            have h1 : (dotF 8 (coF f) (mtab f i j) % p != coF f i * coF f j % p) = true := neq_of (q := false) h0
            have H : Hid (ax5B p n f = false) := Lib.hid (by unfold ax5B; rw [all_no (q := ax5R p n f) i n (by omega) (all_no (q := ax5At p f i) j n (by omega) h0)]; rfl)
            go_wp2
            refine wp_quiet_all (Below W3.heap.size W3) (by kernel_rfl) (by kernel_rfl) (Below.refl _ _).drew ?_
            iterate 10 (refine q_plain rfl ?_; apply Exists.intro; refine ⟨fun W hW => ?_, ?_⟩; (focus (obtain ⟨x1, y1⟩ := keepB hW z1_3 r1_3 c1_3; go_simp; first | done | rfl)); simp only [Act.put, List.setIfInBounds_toArray, List.set_cons_zero, List.set_cons_succ])
            (refine q_plain rfl ?_; apply Exists.intro; refine ⟨fun W hW => ?_, ?_⟩; (focus (obtain ⟨x1, y1⟩ := keepB hW z1_3 r1_3 c1_3; go_simp; (go_at_call 86; exact (timesNumber_any _ _ _ _ hp hp' b1 b2 b3 b4).mono fun e w2 ⟨he, hw2⟩ => ⟨he, hw2 ▸ hW⟩))); simp only [Act.put, List.setIfInBounds_toArray, List.set_cons_zero, List.set_cons_succ])
            iterate 1 (refine q_plain rfl ?_; apply Exists.intro; refine ⟨fun W hW => ?_, ?_⟩; (focus (obtain ⟨x1, y1⟩ := keepB hW z1_3 r1_3 c1_3; go_simp; first | done | rfl)); simp only [Act.put, List.setIfInBounds_toArray, List.set_cons_zero, List.set_cons_succ])
            refine wpQuiet_nil ?_
            intro W4 hw4
            obtain ⟨r1_4, c1_4⟩ := keepB hw4 z1_3 r1_3 c1_3
            have z1_4 := isRow_lt r1_4
            have hb4 := hb3.trans (hw4.mono hb3.size)
            have q4 := hb4.size
            clear hw4 r1_3 c1_3 z1_3 hb3
            go_wp2
            refine wp_quiet_all (Below W4.heap.size W4) (by kernel_rfl) (by kernel_rfl) (Below.refl _ _).drew ?_
            iterate 10 (refine q_plain rfl ?_; apply Exists.intro; refine ⟨fun W hW => ?_, ?_⟩; (focus (obtain ⟨x1, y1⟩ := keepB hW z1_4 r1_4 c1_4; go_simp; first | done | rfl)); simp only [Act.put, List.setIfInBounds_toArray, List.set_cons_zero, List.set_cons_succ])
            (refine q_plain rfl ?_; apply Exists.intro; refine ⟨fun W hW => ?_, ?_⟩; (focus (obtain ⟨x1, y1⟩ := keepB hW z1_4 r1_4 c1_4; go_simp; (go_at_call 50; exact (formValue_any p (coF f) _ _ hp hp' HC.out HW.out).mono fun e w2 ⟨he, hw2⟩ => ⟨he, hW.trans (hw2.mono hW.size)⟩))); simp only [Act.put, List.setIfInBounds_toArray, List.set_cons_zero, List.set_cons_succ])
            iterate 3 (refine q_plain rfl ?_; apply Exists.intro; refine ⟨fun W hW => ?_, ?_⟩; (focus (obtain ⟨x1, y1⟩ := keepB hW z1_4 r1_4 c1_4; go_simp; first | done | rfl)); simp only [Act.put, List.setIfInBounds_toArray, List.set_cons_zero, List.set_cons_succ])
            refine wpQuiet_nil ?_
            intro W5 hw5
            obtain ⟨r1_5, c1_5⟩ := keepB hw5 z1_4 r1_4 c1_4
            have z1_5 := isRow_lt r1_5
            have hb5 := hb4.trans (hw5.mono hb4.size)
            have q5 := hb5.size
            clear hw5 r1_4 c1_4 z1_4 hb4
            go_wp2_with fail
            go_ret
            exact ⟨ret_bool (by rw [H.out] <;> rfl), (by (repeat (first | exact hb5 | exact Below.refl _ _ | refine Below.alloc ?_ (by first | omega | (simp; try omega)) _ | refine below_setRow ?_ (by omega) _ | refine Below.drew ?_)))⟩
          · skip
            have HW : Hid (Bytes 8 (mtab f i j)) := Lib.hid (mtab_bytes (hop_bytes HF.out) i j (by omega) (by omega))
            have e8 := hop_mul8 p n f i j (by omega) (by omega)
            have e7 := hop_cq p n f i (by omega)
            have e6 := hop_cq p n f j (by omega)
            have l7 : 10 + i * 64 + j * 8 + 8 ≤ 1106 := by omega
            have b1 := (HC.out i (by omega)).1; have b2 := (HC.out i (by omega)).2; have b3 := (HC.out j (by omega)).1; have b4 := (HC.out j (by omega)).2
            have b5 := (mod_range (coF f i * coF f j) p hp).1; have b6 := (mod_range (coF f i * coF f j) p hp).2
            have q1 : IntKind.i64.wrap (coF f i * coF f j % p) = coF f i * coF f j % p := IntWalk.i64_in _ (by omega)
            have h1 : (dotF 8 (coF f) (mtab f i j) % p != coF f i * coF f j % p) = false := neq_of (q := true) h0
            have H := Lib.hid (upto_more (q := ax5At p f i) HX3.out.2 h0)
            have H2 := Lib.hid HX3.out.1
            go_wp2
            refine wp_quiet_all (Below W3.heap.size W3) (by kernel_rfl) (by kernel_rfl) (Below.refl _ _).drew ?_
            iterate 10 (refine q_plain rfl ?_; apply Exists.intro; refine ⟨fun W hW => ?_, ?_⟩; (focus (obtain ⟨x1, y1⟩ := keepB hW z1_3 r1_3 c1_3; go_simp; first | done | rfl)); simp only [Act.put, List.setIfInBounds_toArray, List.set_cons_zero, List.set_cons_succ])
            (refine q_plain rfl ?_; apply Exists.intro; refine ⟨fun W hW => ?_, ?_⟩; (focus (obtain ⟨x1, y1⟩ := keepB hW z1_3 r1_3 c1_3; go_simp; (go_at_call 86; exact (timesNumber_any _ _ _ _ hp hp' b1 b2 b3 b4).mono fun e w2 ⟨he, hw2⟩ => ⟨he, hw2 ▸ hW⟩))); simp only [Act.put, List.setIfInBounds_toArray, List.set_cons_zero, List.set_cons_succ])
            iterate 1 (refine q_plain rfl ?_; apply Exists.intro; refine ⟨fun W hW => ?_, ?_⟩; (focus (obtain ⟨x1, y1⟩ := keepB hW z1_3 r1_3 c1_3; go_simp; first | done | rfl)); simp only [Act.put, List.setIfInBounds_toArray, List.set_cons_zero, List.set_cons_succ])
            refine wpQuiet_nil ?_
            intro W6 hw6
            obtain ⟨r1_6, c1_6⟩ := keepB hw6 z1_3 r1_3 c1_3
            have z1_6 := isRow_lt r1_6
            have hb6 := hb3.trans (hw6.mono hb3.size)
            have q6 := hb6.size
            clear hw6 r1_3 c1_3 z1_3 hb3
            go_wp2
            refine wp_quiet_all (Below W6.heap.size W6) (by kernel_rfl) (by kernel_rfl) (Below.refl _ _).drew ?_
            iterate 10 (refine q_plain rfl ?_; apply Exists.intro; refine ⟨fun W hW => ?_, ?_⟩; (focus (obtain ⟨x1, y1⟩ := keepB hW z1_6 r1_6 c1_6; go_simp; first | done | rfl)); simp only [Act.put, List.setIfInBounds_toArray, List.set_cons_zero, List.set_cons_succ])
            (refine q_plain rfl ?_; apply Exists.intro; refine ⟨fun W hW => ?_, ?_⟩; (focus (obtain ⟨x1, y1⟩ := keepB hW z1_6 r1_6 c1_6; go_simp; (go_at_call 50; exact (formValue_any p (coF f) _ _ hp hp' HC.out HW.out).mono fun e w2 ⟨he, hw2⟩ => ⟨he, hW.trans (hw2.mono hW.size)⟩))); simp only [Act.put, List.setIfInBounds_toArray, List.set_cons_zero, List.set_cons_succ])
            iterate 3 (refine q_plain rfl ?_; apply Exists.intro; refine ⟨fun W hW => ?_, ?_⟩; (focus (obtain ⟨x1, y1⟩ := keepB hW z1_6 r1_6 c1_6; go_simp; first | done | rfl)); simp only [Act.put, List.setIfInBounds_toArray, List.set_cons_zero, List.set_cons_succ])
            refine wpQuiet_nil ?_
            intro W7 hw7
            obtain ⟨r1_7, c1_7⟩ := keepB hw7 z1_6 r1_6 c1_6
            have z1_7 := isRow_lt r1_7
            have hb7 := hb6.trans (hw7.mono hb6.size)
            have q7 := hb7.size
            clear hw7 r1_6 c1_6 z1_6 hb6
            go_wp2
            go_roundw
            case rel => exact ⟨j + 1, by omega, by go_num, (by (repeat (first | exact hb7 | exact Below.refl _ _ | refine Below.alloc ?_ (by first | omega | (simp; try omega)) _ | refine below_setRow ?_ (by omega) _ | refine Below.drew ?_))), ⟨by simp [go_sem, r1_7, c1_7], (by rw [E1_3.out]; first | exact c1_7 | (simp [go_sem, r1_7, c1_7]; done))⟩, ⟨H2.out, H.out⟩⟩
            case measure => simp [intOf]; omega
        · skip
          obtain rfl : n = j := by omega
          have H := Lib.hid (upto_more (q := ax5R p n f) HX3.out.1 (all_yes (q := ax5At p f i) n HX3.out.2))
          go_wp2
          go_roundw
          case rel => exact ⟨i + 1, by omega, by go_num, (by (repeat (first | exact hb3 | exact Below.refl _ _ | refine Below.alloc ?_ (by first | omega | (simp; try omega)) _ | refine below_setRow ?_ (by omega) _ | refine Below.drew ?_))), ⟨by simp [go_sem, r1_3, c1_3], (by rw [E1_2.out]; first | exact c1_3 | (simp [go_sem, r1_3, c1_3]; done))⟩, H.out⟩
          case measure => simp [intOf]; omega
    · skip
      obtain rfl : n = i := by omega
      have HW : Hid (Bytes 8 f) := Lib.hid (unit_bytes (hop_bytes HF.out))
      have H : Hid (ax5B p n f = (dotF 8 (coF f) f % p == 1)) := Lib.hid (by unfold ax5B; rw [all_yes (q := ax5R p n f) n fun a ha => HX2.out a ha]; rfl)
      go_wp2_with fail
      refine (formValue_any p (coF f) _ _ hp hp' HC.out HW.out).mono ?_; rintro _ W8 ⟨rfl, hw8⟩
      have hb8 := hb2.trans (hw8.mono hb2.size)
      have q8 := hb8.size
      clear hw8 hb2
      go_wp2_with fail
      go_ret
      exact ⟨ret_bool (by rw [H.out]), (by (repeat (first | exact hb8 | exact Below.refl _ _ | refine Below.alloc ?_ (by first | omega | (simp; try omega)) _ | refine below_setRow ?_ (by omega) _ | refine Below.drew ?_)))⟩

set_option maxRecDepth 100000 in
set_option maxHeartbeats 4000000 in
theorem antipodeInvertsOnLeft_any (p : Int) (n : Nat) (f : Nat → Int) (w : World) (hp : 0 < p) (hp' : p ≤ 255) (hn : n ≤ 8) (hF : Bytes 1104 f) :
    Calls Try.prog 66 #[.agg (hop p n f)] w fun e w' => e = .returned (.bool (ax6B p n f)) ∧ Below w.heap.size w w' := by
  have HF := Lib.hid hF; clear hF
  have H : Hid (ax6B p n f = segEq 0 64 (cvK p n n f (coF f) (anF f) (idK n) n 0) (outF p (coF f) f 8)) := Lib.hid rfl
  have HS : Hid (Bytes 64 (anF f)) := Lib.hid (an_bytes HF.out)
  have HI := Lib.hid (id_bytes n)
  go_enter Try.func66, Try.ntmps66
  go_wp2
  refine atomW fun W1 e1 => ?_
  have hb1 : Below w.heap.size w W1 := by rw [e1]; (repeat (first | exact Below.refl _ _ | refine Below.alloc ?_ (by first | omega | (simp; try omega)) _ | refine below_setRow ?_ (by omega) _ | refine Below.drew ?_))
  have q1 := hb1.size
  have r1_1 : IsRow W1 (w.heap.size) := by rw [e1]; simp [go_sem]
  have c1_1 := congrArg (fun x => blk x (w.heap.size)) e1; simp [go_sem] at c1_1
  have z1_1 := isRow_lt r1_1
  clear e1
  refine wp_quiet_made2 4 6 _ _ (alg 0 0 zf) (alg 0 0 zf) 40 45 (by kernel_rfl) rfl rfl rfl rfl (by omega) (by kernel_rfl) (fun a W => (xallocAlg _ _ _ _ _ _ _).trans (allocAlg W)) (fun a W => (xallocCoa _ _ _ _ _ _ _).trans (allocCoa W)) ?_
  simp only [List.take_succ_cons, List.take_zero, List.drop_succ_cons, List.drop_zero, List.eraseIdx_cons_succ, List.eraseIdx_cons_zero]
  iterate 1 (refine e_plain rfl ?_; apply Exists.intro; refine ⟨fun D hD hK W hW => ?_, ?_⟩; (focus (obtain ⟨x1, y1⟩ := keepB (hD W hW) z1_1 r1_1 c1_1; unfold Oper.quietAt; go_simp; first | done | rfl)); simp only [Act.put, List.setIfInBounds_toArray, List.set_cons_zero, List.set_cons_succ])
  (refine e_plain rfl ?_; apply Exists.intro; refine ⟨fun D hD hK W hW => ?_, ?_⟩; (focus (obtain ⟨x1, y1⟩ := keepB (hD W hW) z1_1 r1_1 c1_1; unfold Oper.quietAt; go_simp; (go_at_call 41; exact (algebraOf_any _ _ _ _).mono fun e w2 ⟨he, hw2⟩ => ⟨he, hK _ _ hW hw2⟩))); simp only [Act.put, List.setIfInBounds_toArray, List.set_cons_zero, List.set_cons_succ])
  iterate 1 (refine e_plain rfl ?_; apply Exists.intro; refine ⟨fun D hD hK W hW => ?_, ?_⟩; (focus (obtain ⟨x1, y1⟩ := keepB (hD W hW) z1_1 r1_1 c1_1; unfold Oper.quietAt; go_simp; first | done | rfl)); simp only [Act.put, List.setIfInBounds_toArray, List.set_cons_zero, List.set_cons_succ])
  (refine e_plain rfl ?_; apply Exists.intro; refine ⟨fun D hD hK W hW => ?_, ?_⟩; (focus (obtain ⟨x1, y1⟩ := keepB (hD W hW) z1_1 r1_1 c1_1; unfold Oper.quietAt; go_simp; (go_at_call 44; exact (coalgebraOf_any _ _ _ _).mono fun e w2 ⟨he, hw2⟩ => ⟨he, hK _ _ hW hw2⟩))); simp only [Act.put, List.setIfInBounds_toArray, List.set_cons_zero, List.set_cons_succ])
  refine e_nil ?_
  intro a2 b2 W2 hw2 mk1_2 mk2_2 hne2
  obtain ⟨hl1_2, m1_2, m2_2⟩ := mk1_2; obtain ⟨hl2_2, m3_2, m4_2⟩ := mk2_2
  have n1_3 : (w.heap.size) ≠ (a2) := by have := z1_1; omega
  have n3_1 : (a2) ≠ (w.heap.size) := by have := z1_1; omega
  have n1_4 : (w.heap.size) ≠ (b2) := by have := z1_1; omega
  have n4_1 : (b2) ≠ (w.heap.size) := by have := z1_1; omega
  obtain ⟨r1_2, c1_2⟩ := keepB hw2 z1_1 r1_1 c1_1
  have z1_2 := isRow_lt r1_2
  have hb2 := hb1.trans (hw2.mono hb1.size)
  have q2 := hb2.size
  clear hw2 r1_1 c1_1 z1_1 hb1
  have n3_4 : (a2) ≠ (b2) := hne2
  have n4_3 : (b2) ≠ (a2) := Ne.symm hne2
  have z3_2 := isRow_lt m1_2
  have z4_2 := isRow_lt m3_2
  simp only [Act.put, List.setIfInBounds_toArray, List.set_cons_zero, List.set_cons_succ]
  go_wp2
  refine atomW fun W3 e3 => ?_
  have hb3 : Below w.heap.size w W3 := by rw [e3]; (repeat (first | exact hb2 | exact Below.refl _ _ | refine Below.alloc ?_ (by first | omega | (simp; try omega)) _ | refine below_setRow ?_ (by omega) _ | refine Below.drew ?_))
  have q3 := hb3.size
  have r1_3 : IsRow W3 (w.heap.size) := by rw [e3]; simp [go_sem, r1_2, c1_2, n1_3, n1_4, m1_2, m2_2, n3_1, n3_4, m3_2, m4_2, n4_1, n4_3]
  have c1_3 := congrArg (fun x => blk x (w.heap.size)) e3; simp [go_sem, r1_2, c1_2, n1_3, n1_4, m1_2, m2_2, n3_1, n3_4, m3_2, m4_2, n4_1, n4_3] at c1_3
  have z1_3 := isRow_lt r1_3
  have r3_3 : IsRow W3 (a2) := by rw [e3]; simp [go_sem, r1_2, c1_2, n1_3, n1_4, m1_2, m2_2, n3_1, n3_4, m3_2, m4_2, n4_1, n4_3]
  have c3_3 := congrArg (fun x => blk x (a2)) e3; simp [go_sem, r1_2, c1_2, n1_3, n1_4, m1_2, m2_2, n3_1, n3_4, m3_2, m4_2, n4_1, n4_3] at c3_3
  have z3_3 := isRow_lt r3_3
  have r4_3 : IsRow W3 (b2) := by rw [e3]; simp [go_sem, r1_2, c1_2, n1_3, n1_4, m1_2, m2_2, n3_1, n3_4, m3_2, m4_2, n4_1, n4_3]
  have c4_3 := congrArg (fun x => blk x (b2)) e3; simp [go_sem, r1_2, c1_2, n1_3, n1_4, m1_2, m2_2, n3_1, n3_4, m3_2, m4_2, n4_1, n4_3] at c4_3
  have z4_3 := isRow_lt r4_3
  clear e3 r1_2 c1_2 z1_2 m1_2 m2_2 z3_2 m3_2 m4_2 z4_2 hb2
  refine wp_quiet_all (Below W3.heap.size W3) (by kernel_rfl) (by kernel_rfl) (Below.refl _ _).drew ?_
  iterate 6 (refine q_plain rfl ?_; apply Exists.intro; refine ⟨fun W hW => ?_, ?_⟩; (focus (obtain ⟨x1, y1⟩ := keepB hW z1_3 r1_3 c1_3; obtain ⟨x3, y3⟩ := keepB hW z3_3 r3_3 c3_3; obtain ⟨x4, y4⟩ := keepB hW z4_3 r4_3 c4_3; go_simp; first | done | rfl)); simp only [Act.put, List.setIfInBounds_toArray, List.set_cons_zero, List.set_cons_succ])
  (refine q_plain rfl ?_; apply Exists.intro; refine ⟨fun W hW => ?_, ?_⟩; (focus (obtain ⟨x1, y1⟩ := keepB hW z1_3 r1_3 c1_3; obtain ⟨x3, y3⟩ := keepB hW z3_3 r3_3 c3_3; obtain ⟨x4, y4⟩ := keepB hW z4_3 r4_3 c4_3; go_simp; (go_at_call 55; exact (identityLinear_any n _ hn).mono fun e w2 ⟨he, hw2⟩ => ⟨he, hW.trans (hw2.mono hW.size)⟩))); simp only [Act.put, List.setIfInBounds_toArray, List.set_cons_zero, List.set_cons_succ])
  (refine q_plain rfl ?_; apply Exists.intro; refine ⟨fun W hW => ?_, ?_⟩; (focus (obtain ⟨x1, y1⟩ := keepB hW z1_3 r1_3 c1_3; obtain ⟨x3, y3⟩ := keepB hW z3_3 r3_3 c3_3; obtain ⟨x4, y4⟩ := keepB hW z4_3 r4_3 c4_3; go_simp; (go_at_call 87; exact (convolve_any p p n n (coF f) f (anF f) (idK n) _ hp hp' hn hn (co_bytes HF.out) (hop_bytes HF.out) HS.out HI.out).mono fun e w2 ⟨he, hw2⟩ => ⟨he, hW.trans (hw2.mono hW.size)⟩))); simp only [Act.put, List.setIfInBounds_toArray, List.set_cons_zero, List.set_cons_succ])
  iterate 2 (refine q_plain rfl ?_; apply Exists.intro; refine ⟨fun W hW => ?_, ?_⟩; (focus (obtain ⟨x1, y1⟩ := keepB hW z1_3 r1_3 c1_3; obtain ⟨x3, y3⟩ := keepB hW z3_3 r3_3 c3_3; obtain ⟨x4, y4⟩ := keepB hW z4_3 r4_3 c4_3; go_simp; first | done | rfl)); simp only [Act.put, List.setIfInBounds_toArray, List.set_cons_zero, List.set_cons_succ])
  (refine q_plain rfl ?_; apply Exists.intro; refine ⟨fun W hW => ?_, ?_⟩; (focus (obtain ⟨x1, y1⟩ := keepB hW z1_3 r1_3 c1_3; obtain ⟨x3, y3⟩ := keepB hW z3_3 r3_3 c3_3; obtain ⟨x4, y4⟩ := keepB hW z4_3 r4_3 c4_3; go_simp; (go_at_call 88; exact (unitMap_any p n p n (coF f) f _ hp hp' (co_bytes HF.out) (hop_bytes HF.out)).mono fun e w2 ⟨he, hw2⟩ => ⟨he, hW.trans (hw2.mono hW.size)⟩))); simp only [Act.put, List.setIfInBounds_toArray, List.set_cons_zero, List.set_cons_succ])
  iterate 2 (refine q_plain rfl ?_; apply Exists.intro; refine ⟨fun W hW => ?_, ?_⟩; (focus (obtain ⟨x1, y1⟩ := keepB hW z1_3 r1_3 c1_3; obtain ⟨x3, y3⟩ := keepB hW z3_3 r3_3 c3_3; obtain ⟨x4, y4⟩ := keepB hW z4_3 r4_3 c4_3; go_simp; first | done | rfl)); simp only [Act.put, List.setIfInBounds_toArray, List.set_cons_zero, List.set_cons_succ])
  refine wpQuiet_nil ?_
  intro W4 hw4
  obtain ⟨r1_4, c1_4⟩ := keepB hw4 z1_3 r1_3 c1_3
  have z1_4 := isRow_lt r1_4
  obtain ⟨r3_4, c3_4⟩ := keepB hw4 z3_3 r3_3 c3_3
  have z3_4 := isRow_lt r3_4
  obtain ⟨r4_4, c4_4⟩ := keepB hw4 z4_3 r4_3 c4_3
  have z4_4 := isRow_lt r4_4
  have hb4 := hb3.trans (hw4.mono hb3.size)
  have q4 := hb4.size
  clear hw4 r1_3 c1_3 z1_3 r3_3 c3_3 z3_3 r4_3 c4_3 z4_3 hb3
  go_wp2_with fail
  go_ret
  exact ⟨ret_bool (by rw [H.out]), (by (repeat (first | exact hb4 | exact Below.refl _ _ | refine Below.alloc ?_ (by first | omega | (simp; try omega)) _ | refine below_setRow ?_ (by omega) _ | refine Below.drew ?_)))⟩

set_option maxRecDepth 100000 in
set_option maxHeartbeats 4000000 in
theorem antipodeInvertsOnRight_any (p : Int) (n : Nat) (f : Nat → Int) (w : World) (hp : 0 < p) (hp' : p ≤ 255) (hn : n ≤ 8) (hF : Bytes 1104 f) :
    Calls Try.prog 67 #[.agg (hop p n f)] w fun e w' => e = .returned (.bool (ax7B p n f)) ∧ Below w.heap.size w w' := by
  have HF := Lib.hid hF; clear hF
  have H : Hid (ax7B p n f = segEq 0 64 (cvK p n n f (coF f) (idK n) (anF f) n 0) (outF p (coF f) f 8)) := Lib.hid rfl
  have HS : Hid (Bytes 64 (anF f)) := Lib.hid (an_bytes HF.out)
  have HI := Lib.hid (id_bytes n)
  go_enter Try.func67, Try.ntmps67
  go_wp2
  refine atomW fun W1 e1 => ?_
  have hb1 : Below w.heap.size w W1 := by rw [e1]; (repeat (first | exact Below.refl _ _ | refine Below.alloc ?_ (by first | omega | (simp; try omega)) _ | refine below_setRow ?_ (by omega) _ | refine Below.drew ?_))
  have q1 := hb1.size
  have r1_1 : IsRow W1 (w.heap.size) := by rw [e1]; simp [go_sem]
  have c1_1 := congrArg (fun x => blk x (w.heap.size)) e1; simp [go_sem] at c1_1
  have z1_1 := isRow_lt r1_1
  clear e1
  refine wp_quiet_made2 4 6 _ _ (alg 0 0 zf) (alg 0 0 zf) 40 45 (by kernel_rfl) rfl rfl rfl rfl (by omega) (by kernel_rfl) (fun a W => (xallocAlg _ _ _ _ _ _ _).trans (allocAlg W)) (fun a W => (xallocCoa _ _ _ _ _ _ _).trans (allocCoa W)) ?_
  simp only [List.take_succ_cons, List.take_zero, List.drop_succ_cons, List.drop_zero, List.eraseIdx_cons_succ, List.eraseIdx_cons_zero]
  iterate 1 (refine e_plain rfl ?_; apply Exists.intro; refine ⟨fun D hD hK W hW => ?_, ?_⟩; (focus (obtain ⟨x1, y1⟩ := keepB (hD W hW) z1_1 r1_1 c1_1; unfold Oper.quietAt; go_simp; first | done | rfl)); simp only [Act.put, List.setIfInBounds_toArray, List.set_cons_zero, List.set_cons_succ])
  (refine e_plain rfl ?_; apply Exists.intro; refine ⟨fun D hD hK W hW => ?_, ?_⟩; (focus (obtain ⟨x1, y1⟩ := keepB (hD W hW) z1_1 r1_1 c1_1; unfold Oper.quietAt; go_simp; (go_at_call 41; exact (algebraOf_any _ _ _ _).mono fun e w2 ⟨he, hw2⟩ => ⟨he, hK _ _ hW hw2⟩))); simp only [Act.put, List.setIfInBounds_toArray, List.set_cons_zero, List.set_cons_succ])
  iterate 1 (refine e_plain rfl ?_; apply Exists.intro; refine ⟨fun D hD hK W hW => ?_, ?_⟩; (focus (obtain ⟨x1, y1⟩ := keepB (hD W hW) z1_1 r1_1 c1_1; unfold Oper.quietAt; go_simp; first | done | rfl)); simp only [Act.put, List.setIfInBounds_toArray, List.set_cons_zero, List.set_cons_succ])
  (refine e_plain rfl ?_; apply Exists.intro; refine ⟨fun D hD hK W hW => ?_, ?_⟩; (focus (obtain ⟨x1, y1⟩ := keepB (hD W hW) z1_1 r1_1 c1_1; unfold Oper.quietAt; go_simp; (go_at_call 44; exact (coalgebraOf_any _ _ _ _).mono fun e w2 ⟨he, hw2⟩ => ⟨he, hK _ _ hW hw2⟩))); simp only [Act.put, List.setIfInBounds_toArray, List.set_cons_zero, List.set_cons_succ])
  refine e_nil ?_
  intro a2 b2 W2 hw2 mk1_2 mk2_2 hne2
  obtain ⟨hl1_2, m1_2, m2_2⟩ := mk1_2; obtain ⟨hl2_2, m3_2, m4_2⟩ := mk2_2
  have n1_3 : (w.heap.size) ≠ (a2) := by have := z1_1; omega
  have n3_1 : (a2) ≠ (w.heap.size) := by have := z1_1; omega
  have n1_4 : (w.heap.size) ≠ (b2) := by have := z1_1; omega
  have n4_1 : (b2) ≠ (w.heap.size) := by have := z1_1; omega
  obtain ⟨r1_2, c1_2⟩ := keepB hw2 z1_1 r1_1 c1_1
  have z1_2 := isRow_lt r1_2
  have hb2 := hb1.trans (hw2.mono hb1.size)
  have q2 := hb2.size
  clear hw2 r1_1 c1_1 z1_1 hb1
  have n3_4 : (a2) ≠ (b2) := hne2
  have n4_3 : (b2) ≠ (a2) := Ne.symm hne2
  have z3_2 := isRow_lt m1_2
  have z4_2 := isRow_lt m3_2
  simp only [Act.put, List.setIfInBounds_toArray, List.set_cons_zero, List.set_cons_succ]
  go_wp2
  refine atomW fun W3 e3 => ?_
  have hb3 : Below w.heap.size w W3 := by rw [e3]; (repeat (first | exact hb2 | exact Below.refl _ _ | refine Below.alloc ?_ (by first | omega | (simp; try omega)) _ | refine below_setRow ?_ (by omega) _ | refine Below.drew ?_))
  have q3 := hb3.size
  have r1_3 : IsRow W3 (w.heap.size) := by rw [e3]; simp [go_sem, r1_2, c1_2, n1_3, n1_4, m1_2, m2_2, n3_1, n3_4, m3_2, m4_2, n4_1, n4_3]
  have c1_3 := congrArg (fun x => blk x (w.heap.size)) e3; simp [go_sem, r1_2, c1_2, n1_3, n1_4, m1_2, m2_2, n3_1, n3_4, m3_2, m4_2, n4_1, n4_3] at c1_3
  have z1_3 := isRow_lt r1_3
  have r3_3 : IsRow W3 (a2) := by rw [e3]; simp [go_sem, r1_2, c1_2, n1_3, n1_4, m1_2, m2_2, n3_1, n3_4, m3_2, m4_2, n4_1, n4_3]
  have c3_3 := congrArg (fun x => blk x (a2)) e3; simp [go_sem, r1_2, c1_2, n1_3, n1_4, m1_2, m2_2, n3_1, n3_4, m3_2, m4_2, n4_1, n4_3] at c3_3
  have z3_3 := isRow_lt r3_3
  have r4_3 : IsRow W3 (b2) := by rw [e3]; simp [go_sem, r1_2, c1_2, n1_3, n1_4, m1_2, m2_2, n3_1, n3_4, m3_2, m4_2, n4_1, n4_3]
  have c4_3 := congrArg (fun x => blk x (b2)) e3; simp [go_sem, r1_2, c1_2, n1_3, n1_4, m1_2, m2_2, n3_1, n3_4, m3_2, m4_2, n4_1, n4_3] at c4_3
  have z4_3 := isRow_lt r4_3
  clear e3 r1_2 c1_2 z1_2 m1_2 m2_2 z3_2 m3_2 m4_2 z4_2 hb2
  refine wp_quiet_all (Below W3.heap.size W3) (by kernel_rfl) (by kernel_rfl) (Below.refl _ _).drew ?_
  iterate 4 (refine q_plain rfl ?_; apply Exists.intro; refine ⟨fun W hW => ?_, ?_⟩; (focus (obtain ⟨x1, y1⟩ := keepB hW z1_3 r1_3 c1_3; obtain ⟨x3, y3⟩ := keepB hW z3_3 r3_3 c3_3; obtain ⟨x4, y4⟩ := keepB hW z4_3 r4_3 c4_3; go_simp; first | done | rfl)); simp only [Act.put, List.setIfInBounds_toArray, List.set_cons_zero, List.set_cons_succ])
  (refine q_plain rfl ?_; apply Exists.intro; refine ⟨fun W hW => ?_, ?_⟩; (focus (obtain ⟨x1, y1⟩ := keepB hW z1_3 r1_3 c1_3; obtain ⟨x3, y3⟩ := keepB hW z3_3 r3_3 c3_3; obtain ⟨x4, y4⟩ := keepB hW z4_3 r4_3 c4_3; go_simp; (go_at_call 55; exact (identityLinear_any n _ hn).mono fun e w2 ⟨he, hw2⟩ => ⟨he, hW.trans (hw2.mono hW.size)⟩))); simp only [Act.put, List.setIfInBounds_toArray, List.set_cons_zero, List.set_cons_succ])
  iterate 2 (refine q_plain rfl ?_; apply Exists.intro; refine ⟨fun W hW => ?_, ?_⟩; (focus (obtain ⟨x1, y1⟩ := keepB hW z1_3 r1_3 c1_3; obtain ⟨x3, y3⟩ := keepB hW z3_3 r3_3 c3_3; obtain ⟨x4, y4⟩ := keepB hW z4_3 r4_3 c4_3; go_simp; first | done | rfl)); simp only [Act.put, List.setIfInBounds_toArray, List.set_cons_zero, List.set_cons_succ])
  (refine q_plain rfl ?_; apply Exists.intro; refine ⟨fun W hW => ?_, ?_⟩; (focus (obtain ⟨x1, y1⟩ := keepB hW z1_3 r1_3 c1_3; obtain ⟨x3, y3⟩ := keepB hW z3_3 r3_3 c3_3; obtain ⟨x4, y4⟩ := keepB hW z4_3 r4_3 c4_3; go_simp; (go_at_call 87; exact (convolve_any p p n n (coF f) f (idK n) (anF f) _ hp hp' hn hn (co_bytes HF.out) (hop_bytes HF.out) HI.out HS.out).mono fun e w2 ⟨he, hw2⟩ => ⟨he, hW.trans (hw2.mono hW.size)⟩))); simp only [Act.put, List.setIfInBounds_toArray, List.set_cons_zero, List.set_cons_succ])
  iterate 2 (refine q_plain rfl ?_; apply Exists.intro; refine ⟨fun W hW => ?_, ?_⟩; (focus (obtain ⟨x1, y1⟩ := keepB hW z1_3 r1_3 c1_3; obtain ⟨x3, y3⟩ := keepB hW z3_3 r3_3 c3_3; obtain ⟨x4, y4⟩ := keepB hW z4_3 r4_3 c4_3; go_simp; first | done | rfl)); simp only [Act.put, List.setIfInBounds_toArray, List.set_cons_zero, List.set_cons_succ])
  (refine q_plain rfl ?_; apply Exists.intro; refine ⟨fun W hW => ?_, ?_⟩; (focus (obtain ⟨x1, y1⟩ := keepB hW z1_3 r1_3 c1_3; obtain ⟨x3, y3⟩ := keepB hW z3_3 r3_3 c3_3; obtain ⟨x4, y4⟩ := keepB hW z4_3 r4_3 c4_3; go_simp; (go_at_call 88; exact (unitMap_any p n p n (coF f) f _ hp hp' (co_bytes HF.out) (hop_bytes HF.out)).mono fun e w2 ⟨he, hw2⟩ => ⟨he, hW.trans (hw2.mono hW.size)⟩))); simp only [Act.put, List.setIfInBounds_toArray, List.set_cons_zero, List.set_cons_succ])
  iterate 2 (refine q_plain rfl ?_; apply Exists.intro; refine ⟨fun W hW => ?_, ?_⟩; (focus (obtain ⟨x1, y1⟩ := keepB hW z1_3 r1_3 c1_3; obtain ⟨x3, y3⟩ := keepB hW z3_3 r3_3 c3_3; obtain ⟨x4, y4⟩ := keepB hW z4_3 r4_3 c4_3; go_simp; first | done | rfl)); simp only [Act.put, List.setIfInBounds_toArray, List.set_cons_zero, List.set_cons_succ])
  refine wpQuiet_nil ?_
  intro W4 hw4
  obtain ⟨r1_4, c1_4⟩ := keepB hw4 z1_3 r1_3 c1_3
  have z1_4 := isRow_lt r1_4
  obtain ⟨r3_4, c3_4⟩ := keepB hw4 z3_3 r3_3 c3_3
  have z3_4 := isRow_lt r3_4
  obtain ⟨r4_4, c4_4⟩ := keepB hw4 z4_3 r4_3 c4_3
  have z4_4 := isRow_lt r4_4
  have hb4 := hb3.trans (hw4.mono hb3.size)
  have q4 := hb4.size
  clear hw4 r1_3 c1_3 z1_3 r3_3 c3_3 z3_3 r4_3 c4_3 z4_3 hb3
  go_wp2_with fail
  go_ret
  exact ⟨ret_bool (by rw [H.out]), (by (repeat (first | exact hb4 | exact Below.refl _ _ | refine Below.alloc ?_ (by first | omega | (simp; try omega)) _ | refine below_setRow ?_ (by omega) _ | refine Below.drew ?_)))⟩

end Go.Proofs.Ytnjjcimpcnennaa
