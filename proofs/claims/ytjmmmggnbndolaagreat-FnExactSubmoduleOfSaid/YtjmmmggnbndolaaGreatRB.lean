/- The seven axioms, by the program. The first axiom that fails, by the program; Hopf algebras by the program. The axioms by the reference model: they say the same. The first axiom that fails, and Hopf algebras, by the reference model. -/
import Derived.Test.YtjmmmggnbndolaaGreatRA
namespace Go.Proofs.YtjmmmggnbndolaaGreat
section
open Go.RowKit
set_option linter.unusedSimpArgs false
set_option linter.unusedVariables false
attribute [local irreducible] wpQuiet wpQE

/-- the coproduct of e(i) as a table of two vectors -/
def comF (f : Nat → Int) (i : Nat) : Nat → Int := fun t => tab (coF f) (i * 64 + t)
def ax3At (p : Int) (n : Nat) (f : Nat → Int) (i j : Nat) : Bool := segEq 0 64 (copF p (coF f) (mtab f i j) 8) (ppK p n f (comF f i) (comF f j) n 0)
def ax3R (p : Int) (n : Nat) (f : Nat → Int) (i : Nat) : Bool := (List.range n).all (ax3At p n f i)
def ax3B (p : Int) (n : Nat) (f : Nat → Int) : Bool := (List.range n).all (ax3R p n f)
def ax4B (p : Int) (f : Nat → Int) : Bool := segEq 0 64 (copF p (coF f) f 8) (outF p f f 8)
def ax5At (p : Int) (f : Nat → Int) (i j : Nat) : Bool := dotF 8 (coF f) (mtab f i j) % p == coF f i * coF f j % p
def ax5R (p : Int) (n : Nat) (f : Nat → Int) (i : Nat) : Bool := (List.range n).all (ax5At p f i)
def ax5U (p : Int) (f : Nat → Int) : Bool := dotF 8 (coF f) f % p == 1
def ax5B (p : Int) (n : Nat) (f : Nat → Int) : Bool := (List.range n).all (ax5R p n f) && ax5U p f
def ax6B (p : Int) (n : Nat) (f : Nat → Int) : Bool := segEq 0 64 (cvK p n n f (coF f) (anF f) (idK n) n 0) (outF p (coF f) f 8)
def ax7B (p : Int) (n : Nat) (f : Nat → Int) : Bool := segEq 0 64 (cvK p n n f (coF f) (idK n) (anF f) n 0) (outF p (coF f) f 8)
theorem comF_bytes {f : Nat → Int} (h : Bytes 1104 f) (i : Nat) (hi : i < 8) : Bytes 64 (comF f i) := com_bytes (co_bytes h) i hi
theorem hop_comF (p n : Int) (f : Nat → Int) (i : Nat) (hi : i < 8) : (hop p n f).extract (530 + i * 64) (530 + i * 64 + 64) = row 64 (comF f i) := hop_com64 p n f i hi
theorem neq_of {a b : Int} {q : Bool} (h : (a == b) = q) : (a != b) = !q := by unfold bne; rw [h]

set_option maxRecDepth 100000 in
set_option maxHeartbeats 1000000 in
theorem isAlgebraOfHopf_any (p n : Int) (f : Nat → Int) (w : World) (hF : Bytes 1104 f) :
    Calls Tryz.prog 138 #[.agg (hop p n f)] w fun e w' => e = .returned (.bool (algB p n f)) ∧ Below w.heap.size w w' := by
 have HF := Lib.hid hF; clear hF
 go_enter Tryz.func138, Tryz.ntmps138
 go_wp2_with fail
 refine atomC fun W1 e1 => ?_
 have hb1 : Below w.heap.size w W1 := by rw [e1]; exact bt
 have q1 := hb1.size
 clear e1
 refine (algebraOf_any _ _ _ _).mono ?_; rintro _ W2 ⟨rfl, hw2⟩
 obtain ⟨hb2, q2⟩ := bN hb1 hw2
 clear hw2 hb1
 go_wp2_with fail
 refine (isAlgebra_any _ _ _ _ (hop_bytes HF.out)).mono ?_; rintro _ W3 ⟨rfl, hw3⟩
 obtain ⟨hb3, q3⟩ := bN hb2 hw3
 clear hw3 hb2
 go_wp2_with fail
 go_ret
 exact ⟨rfl, bt⟩

set_option maxRecDepth 100000 in
set_option maxHeartbeats 1000000 in
theorem isCoalgebraOfHopf_any (p n : Int) (f : Nat → Int) (w : World) (hF : Bytes 1104 f) :
    Calls Tryz.prog 139 #[.agg (hop p n f)] w fun e w' => e = .returned (.bool (coB p n (coF f))) ∧ Below w.heap.size w w' := by
 have HF := Lib.hid hF; clear hF
 go_enter Tryz.func139, Tryz.ntmps139
 go_wp2_with fail
 refine atomC fun W1 e1 => ?_
 have hb1 : Below w.heap.size w W1 := by rw [e1]; exact bt
 have q1 := hb1.size
 clear e1
 refine (coalgebraOf_any _ _ _ _).mono ?_; rintro _ W2 ⟨rfl, hw2⟩
 obtain ⟨hb2, q2⟩ := bN hb1 hw2
 clear hw2 hb1
 go_wp2_with fail
 refine (isCo_any _ _ _ _ (co_bytes HF.out)).mono ?_; rintro _ W3 ⟨rfl, hw3⟩
 obtain ⟨hb3, q3⟩ := bN hb2 hw3
 clear hw3 hb2
 go_wp2_with fail
 go_ret
 exact ⟨rfl, bt⟩

set_option maxRecDepth 100000 in
set_option maxHeartbeats 4000000 in
theorem coproductKeepsProducts_any (p : Int) (n : Nat) (f : Nat → Int) (w : World) (hp : 0 < p) (hp' : p ≤ 255) (hn : n ≤ 8) (hF : Bytes 1104 f) :
    Calls Tryz.prog 140 #[.agg (hop p n f)] w fun e w' => e = .returned (.bool (ax3B p n f)) ∧ Below w.heap.size w w' := by
 have HF := Lib.hid hF; clear hF
 go_enter Tryz.func140, Tryz.ntmps140
 go_wp2
 refine atomW fun W1 e1 => ?_
 have hb1 : Below w.heap.size w W1 := by rw [e1]; exact bt
 have q1 := hb1.size
 have r1_1 : IsRow W1 (w.heap.size) := by rw [e1]; simp [go_sem]
 have c1_1 := congrArg (fun x => blk x (w.heap.size)) e1; simp [go_sem] at c1_1
 have z1_1 := isRow_lt r1_1
 clear e1
 refine wp_quiet_made2 4 6 _ _ (alg 0 0 zf) (alg 0 0 zf) 131 92 (by kernel_rfl) rfl rfl rfl rfl (by omega) (by kernel_rfl) (fun a W => (xallocAlg _ _ _ _ _ _ _).trans (allocAlg W)) (fun a W => (xallocCoa _ _ _ _ _ _ _).trans (allocCoa W)) ?_
 simp only [List.take_succ_cons, List.take_zero, List.drop_succ_cons, List.drop_zero, List.eraseIdx_cons_succ, List.eraseIdx_cons_zero]
 iterate 1 (refine e_plain rfl ?_; apply Exists.intro; refine ⟨fun D hD hK W hW => ?_, ?_⟩; (focus (obtain ⟨x1, y1⟩ := keepB (hD W hW) z1_1 r1_1 c1_1; unfold Oper.quietAt; go_simp; first | done | rfl)); simp only [Act.put, List.setIfInBounds_toArray, List.set_cons_zero, List.set_cons_succ])
 (refine e_plain rfl ?_; apply Exists.intro; refine ⟨fun D hD hK W hW => ?_, ?_⟩; (focus (obtain ⟨x1, y1⟩ := keepB (hD W hW) z1_1 r1_1 c1_1; unfold Oper.quietAt; go_simp; (go_at_call 135; exact (algebraOf_any _ _ _ _).mono fun e w2 ⟨he, hw2⟩ => ⟨he, hK _ _ hW hw2⟩))); simp only [Act.put, List.setIfInBounds_toArray, List.set_cons_zero, List.set_cons_succ])
 iterate 1 (refine e_plain rfl ?_; apply Exists.intro; refine ⟨fun D hD hK W hW => ?_, ?_⟩; (focus (obtain ⟨x1, y1⟩ := keepB (hD W hW) z1_1 r1_1 c1_1; unfold Oper.quietAt; go_simp; first | done | rfl)); simp only [Act.put, List.setIfInBounds_toArray, List.set_cons_zero, List.set_cons_succ])
 (refine e_plain rfl ?_; apply Exists.intro; refine ⟨fun D hD hK W hW => ?_, ?_⟩; (focus (obtain ⟨x1, y1⟩ := keepB (hD W hW) z1_1 r1_1 c1_1; unfold Oper.quietAt; go_simp; (go_at_call 55; exact (coalgebraOf_any _ _ _ _).mono fun e w2 ⟨he, hw2⟩ => ⟨he, hK _ _ hW hw2⟩))); simp only [Act.put, List.setIfInBounds_toArray, List.set_cons_zero, List.set_cons_succ])
 refine e_nil ?_
 intro a2 b2 W2 hw2 mk1_2 mk2_2 hne2
 obtain ⟨hl1_2, m1_2, m2_2⟩ := mk1_2; obtain ⟨hl2_2, m3_2, m4_2⟩ := mk2_2
 have n1_3 : (w.heap.size) ≠ (a2) := by have := z1_1; omega
 have n3_1 : (a2) ≠ (w.heap.size) := by have := z1_1; omega
 have n1_4 : (w.heap.size) ≠ (b2) := by have := z1_1; omega
 have n4_1 : (b2) ≠ (w.heap.size) := by have := z1_1; omega
 obtain ⟨r1_2, c1_2, z1_2⟩ := keepZ hw2 z1_1 r1_1 c1_1
 obtain ⟨hb2, q2⟩ := bN hb1 hw2
 clear hw2 r1_1 c1_1 z1_1 hb1
 have n3_4 : (a2) ≠ (b2) := hne2
 have n4_3 : (b2) ≠ (a2) := Ne.symm hne2
 have z3_2 := isRow_lt m1_2
 have z4_2 := isRow_lt m3_2
 simp only [Act.put, List.setIfInBounds_toArray, List.set_cons_zero, List.set_cons_succ]
 go_wp2
 refine atomW fun W3 e3 => ?_
 have hb3 : Below w.heap.size w W3 := by rw [e3]; exact bt
 have q3 := hb3.size
 have R3 : IsRow W3 (w.heap.size) ∧ IsRow W3 (a2) ∧ IsRow W3 (b2) := by rw [e3]; simp [go_sem, r1_2, c1_2, n1_3, n1_4, m1_2, m2_2, n3_1, n3_4, m3_2, m4_2, n4_1, n4_3]
 obtain ⟨r1_3, r3_3, r4_3⟩ := R3
 have C3 := (⟨congrArg (blk · (w.heap.size)) e3, congrArg (blk · (a2)) e3, congrArg (blk · (b2)) e3⟩ : _ ∧ _ ∧ _); simp [go_sem, r1_2, c1_2, n1_3, n1_4, m1_2, m2_2, n3_1, n3_4, m3_2, m4_2, n4_1, n4_3] at C3
 obtain ⟨c1_3, c3_3, c4_3⟩ := C3
 have z1_3 := isRow_lt r1_3; have z3_3 := isRow_lt r3_3; have z4_3 := isRow_lt r4_3
 clear e3 r1_2 c1_2 z1_2 m1_2 m2_2 z3_2 m3_2 m4_2 z4_2 hb2
 go_loopw [13] (fun s13 wr => ∃ i : Nat, i ≤ n ∧ s13 = .int .i64 i ∧ Below w.heap.size w wr ∧ (IsRow wr (w.heap.size) ∧ blk wr (w.heap.size) = blk W3 (w.heap.size)) ∧ (IsRow wr (a2) ∧ blk wr (a2) = blk W3 (a2)) ∧ (IsRow wr (b2) ∧ blk wr (b2) = blk W3 (b2)) ∧ ∀ a, a < i → ax3R p n f a = true) (fun s13 _ => n - (intOf s13).toNat)
 case atStart => exact ⟨0, by omega, rfl, hb3, ⟨r1_3, rfl⟩, ⟨r3_3, rfl⟩, ⟨r4_3, rfl⟩, fun a ha => by omega⟩
 case round =>
  obtain ⟨i, hle4, rfl, hb4, ⟨r1_4, c1_4⟩, ⟨r3_4, c3_4⟩, ⟨r4_4, c4_4⟩, hx4⟩ := hrel
  obtain ⟨W4, rfl⟩ : ∃ W4 : World, W4 = wr := ⟨_, rfl⟩
  have q4 := hb4.size
  have HX4 := Lib.hid hx4; clear hx4
  have E1_4 := Lib.hid c1_3; replace c1_4 := c1_4.trans c1_3
  have z1_4 := isRow_lt r1_4
  have E3_4 := Lib.hid c3_3; replace c3_4 := c3_4.trans c3_3
  have z3_4 := isRow_lt r3_4
  have E4_4 := Lib.hid c4_3; replace c4_4 := c4_4.trans c4_3
  have z4_4 := isRow_lt r4_4
  clear r1_3 c1_3 z1_3 r3_3 c3_3 z3_3 r4_3 c4_3 z4_3 hb3
  by_cases hlt4 : i < n
  ·
   have i0_4 : (0 : Int) ≤ (i : Int) := by omega
   have i8_4 : (i : Int) < 8 := by omega
   have k8_4 : i < 8 := by omega
   have m8_4 : i * 8 + 8 ≤ 64 := by omega
   have m64_4 : i * 64 + 64 ≤ 512 := by omega
   have l1_4 : 10 + i * 64 + 64 ≤ 522 := by omega
   go_wp2
   go_loopw [18] (fun s18 wr => ∃ j : Nat, j ≤ n ∧ s18 = .int .i64 j ∧ Below w.heap.size w wr ∧ (IsRow wr (w.heap.size) ∧ blk wr (w.heap.size) = blk W4 (w.heap.size)) ∧ (IsRow wr (a2) ∧ blk wr (a2) = blk W4 (a2)) ∧ (IsRow wr (b2) ∧ blk wr (b2) = blk W4 (b2)) ∧ (∀ a, a < i → ax3R p n f a = true) ∧ (∀ b, b < j → ax3At p n f i b = true)) (fun s18 _ => n - (intOf s18).toNat)
   case atStart => exact ⟨0, by omega, rfl, hb4, ⟨r1_4, rfl⟩, ⟨r3_4, rfl⟩, ⟨r4_4, rfl⟩, ⟨HX4.out, fun b hb => by omega⟩⟩
   case round =>
    obtain ⟨j, hle5, rfl, hb5, ⟨r1_5, c1_5⟩, ⟨r3_5, c3_5⟩, ⟨r4_5, c4_5⟩, hx5⟩ := hrel
    obtain ⟨W5, rfl⟩ : ∃ W5 : World, W5 = wr := ⟨_, rfl⟩
    have q5 := hb5.size
    have HX5 := Lib.hid hx5; clear hx5
    have E1_5 := Lib.hid c1_4; replace c1_5 := c1_5.trans c1_4
    have z1_5 := isRow_lt r1_5
    have E3_5 := Lib.hid c3_4; replace c3_5 := c3_5.trans c3_4
    have z3_5 := isRow_lt r3_5
    have E4_5 := Lib.hid c4_4; replace c4_5 := c4_5.trans c4_4
    have z4_5 := isRow_lt r4_5
    clear r1_4 c1_4 z1_4 r3_4 c3_4 z3_4 r4_4 c4_4 z4_4 hb4
    by_cases hlt5 : j < n
    ·
     have i0_5 : (0 : Int) ≤ (j : Int) := by omega
     have i8_5 : (j : Int) < 8 := by omega
     have k8_5 : j < 8 := by omega
     have m8_5 : j * 8 + 8 ≤ 64 := by omega
     have m64_5 : j * 64 + 64 ≤ 512 := by omega
     have l1_5 : 10 + j * 64 + 64 ≤ 522 := by omega
     have l2_5i : 10 + i * 64 + j * 8 + 8 ≤ 522 := by omega
     have l3_5i : 10 + j * 64 + i * 8 + 8 ≤ 522 := by omega
     have l4_5i : i * 64 + j * 8 + 8 ≤ 512 := by omega
     have l5_5i : j * 64 + i * 8 + 8 ≤ 512 := by omega
     have l6_5i : i * 8 + j < 64 := by omega
     have l7_5i : j * 8 + i < 64 := by omega
     cases h0 : ax3At p n f i j
     ·
      have e8 := hop_mul8 p n f i j (by omega) (by omega)
      have e7 := hop_comF p n f i (by omega)
      have e6 := hop_comF p n f j (by omega)
      have HI := Lib.hid (comF_bytes HF.out i (by omega)); have HJ := Lib.hid (comF_bytes HF.out j (by omega))
      have l8 : 530 + i * 64 + 64 ≤ 1106 := by omega
      have l9 : 530 + j * 64 + 64 ≤ 1106 := by omega
      have l7 : 10 + i * 64 + j * 8 + 8 ≤ 1106 := by omega
      have h1 : segEq 0 64 (copF p (coF f) (mtab f i j) 8) (ppK p n f (comF f i) (comF f j) n 0) = false := h0
      have H : Hid (ax3B p n f = false) := Lib.hid (all_no (q := ax3R p n f) i n (by omega) (all_no (q := ax3At p n f i) j n (by omega) h0))
      go_wp2
      refine wp_quiet_all (Below W5.heap.size W5) (by kernel_rfl) (by kernel_rfl) (Below.refl _ _).drew ?_
      iterate 7 (refine q_plain rfl ?_; apply Exists.intro; refine ⟨fun W hW => ?_, ?_⟩; (focus (obtain ⟨x1, y1⟩ := keepB hW z1_5 r1_5 c1_5; obtain ⟨x3, y3⟩ := keepB hW z3_5 r3_5 c3_5; obtain ⟨x4, y4⟩ := keepB hW z4_5 r4_5 c4_5; go_simp; first | done | rfl)); simp only [Act.put, List.setIfInBounds_toArray, List.set_cons_zero, List.set_cons_succ])
      (refine q_plain rfl ?_; apply Exists.intro; refine ⟨fun W hW => ?_, ?_⟩; (focus (obtain ⟨x1, y1⟩ := keepB hW z1_5 r1_5 c1_5; obtain ⟨x3, y3⟩ := keepB hW z3_5 r3_5 c3_5; obtain ⟨x4, y4⟩ := keepB hW z4_5 r4_5 c4_5; go_simp; (go_at_call 79; exact (coproduct_any p n (coF f) (mtab f i j) _ hp hp' (co_bytes HF.out) (mtab_bytes (hop_bytes HF.out) i j (by omega) (by omega))).mono fun e w2 ⟨he, hw2⟩ => ⟨he, hW.trans (hw2.mono hW.size)⟩))); simp only [Act.put, List.setIfInBounds_toArray, List.set_cons_zero, List.set_cons_succ])
      iterate 9 (refine q_plain rfl ?_; apply Exists.intro; refine ⟨fun W hW => ?_, ?_⟩; (focus (obtain ⟨x1, y1⟩ := keepB hW z1_5 r1_5 c1_5; obtain ⟨x3, y3⟩ := keepB hW z3_5 r3_5 c3_5; obtain ⟨x4, y4⟩ := keepB hW z4_5 r4_5 c4_5; go_simp; first | done | rfl)); simp only [Act.put, List.setIfInBounds_toArray, List.set_cons_zero, List.set_cons_succ])
      (refine q_plain rfl ?_; apply Exists.intro; refine ⟨fun W hW => ?_, ?_⟩; (focus (obtain ⟨x1, y1⟩ := keepB hW z1_5 r1_5 c1_5; obtain ⟨x3, y3⟩ := keepB hW z3_5 r3_5 c3_5; obtain ⟨x4, y4⟩ := keepB hW z4_5 r4_5 c4_5; go_simp; (go_at_call 161; exact (multiplyPairs_any p n f (comF f i) (comF f j) _ hp hp' hn (hop_bytes HF.out) HI.out HJ.out).mono fun e w2 ⟨he, hw2⟩ => ⟨he, hW.trans (hw2.mono hW.size)⟩))); simp only [Act.put, List.setIfInBounds_toArray, List.set_cons_zero, List.set_cons_succ])
      iterate 1 (refine q_plain rfl ?_; apply Exists.intro; refine ⟨fun W hW => ?_, ?_⟩; (focus (obtain ⟨x1, y1⟩ := keepB hW z1_5 r1_5 c1_5; obtain ⟨x3, y3⟩ := keepB hW z3_5 r3_5 c3_5; obtain ⟨x4, y4⟩ := keepB hW z4_5 r4_5 c4_5; go_simp; first | done | rfl)); simp only [Act.put, List.setIfInBounds_toArray, List.set_cons_zero, List.set_cons_succ])
      refine wpQuiet_nil ?_
      intro W6 hw6
      obtain ⟨r1_6, c1_6, z1_6⟩ := keepZ hw6 z1_5 r1_5 c1_5
      obtain ⟨r3_6, c3_6, z3_6⟩ := keepZ hw6 z3_5 r3_5 c3_5
      obtain ⟨r4_6, c4_6, z4_6⟩ := keepZ hw6 z4_5 r4_5 c4_5
      obtain ⟨hb6, q6⟩ := bN hb5 hw6
      clear hw6 r1_5 c1_5 z1_5 r3_5 c3_5 z3_5 r4_5 c4_5 z4_5 hb5
      go_wp2_with fail
      go_ret
      exact ⟨ret_bool (by rw [H.out] <;> rfl), bt⟩
     ·
      have e8 := hop_mul8 p n f i j (by omega) (by omega)
      have e7 := hop_comF p n f i (by omega)
      have e6 := hop_comF p n f j (by omega)
      have HI := Lib.hid (comF_bytes HF.out i (by omega)); have HJ := Lib.hid (comF_bytes HF.out j (by omega))
      have l8 : 530 + i * 64 + 64 ≤ 1106 := by omega
      have l9 : 530 + j * 64 + 64 ≤ 1106 := by omega
      have l7 : 10 + i * 64 + j * 8 + 8 ≤ 1106 := by omega
      have h1 : segEq 0 64 (copF p (coF f) (mtab f i j) 8) (ppK p n f (comF f i) (comF f j) n 0) = true := h0
      have H := Lib.hid (upto_more (q := ax3At p n f i) HX5.out.2 h0)
      have H2 := Lib.hid HX5.out.1
      go_wp2
      refine wp_quiet_all (Below W5.heap.size W5) (by kernel_rfl) (by kernel_rfl) (Below.refl _ _).drew ?_
      iterate 7 (refine q_plain rfl ?_; apply Exists.intro; refine ⟨fun W hW => ?_, ?_⟩; (focus (obtain ⟨x1, y1⟩ := keepB hW z1_5 r1_5 c1_5; obtain ⟨x3, y3⟩ := keepB hW z3_5 r3_5 c3_5; obtain ⟨x4, y4⟩ := keepB hW z4_5 r4_5 c4_5; go_simp; first | done | rfl)); simp only [Act.put, List.setIfInBounds_toArray, List.set_cons_zero, List.set_cons_succ])
      (refine q_plain rfl ?_; apply Exists.intro; refine ⟨fun W hW => ?_, ?_⟩; (focus (obtain ⟨x1, y1⟩ := keepB hW z1_5 r1_5 c1_5; obtain ⟨x3, y3⟩ := keepB hW z3_5 r3_5 c3_5; obtain ⟨x4, y4⟩ := keepB hW z4_5 r4_5 c4_5; go_simp; (go_at_call 79; exact (coproduct_any p n (coF f) (mtab f i j) _ hp hp' (co_bytes HF.out) (mtab_bytes (hop_bytes HF.out) i j (by omega) (by omega))).mono fun e w2 ⟨he, hw2⟩ => ⟨he, hW.trans (hw2.mono hW.size)⟩))); simp only [Act.put, List.setIfInBounds_toArray, List.set_cons_zero, List.set_cons_succ])
      iterate 9 (refine q_plain rfl ?_; apply Exists.intro; refine ⟨fun W hW => ?_, ?_⟩; (focus (obtain ⟨x1, y1⟩ := keepB hW z1_5 r1_5 c1_5; obtain ⟨x3, y3⟩ := keepB hW z3_5 r3_5 c3_5; obtain ⟨x4, y4⟩ := keepB hW z4_5 r4_5 c4_5; go_simp; first | done | rfl)); simp only [Act.put, List.setIfInBounds_toArray, List.set_cons_zero, List.set_cons_succ])
      (refine q_plain rfl ?_; apply Exists.intro; refine ⟨fun W hW => ?_, ?_⟩; (focus (obtain ⟨x1, y1⟩ := keepB hW z1_5 r1_5 c1_5; obtain ⟨x3, y3⟩ := keepB hW z3_5 r3_5 c3_5; obtain ⟨x4, y4⟩ := keepB hW z4_5 r4_5 c4_5; go_simp; (go_at_call 161; exact (multiplyPairs_any p n f (comF f i) (comF f j) _ hp hp' hn (hop_bytes HF.out) HI.out HJ.out).mono fun e w2 ⟨he, hw2⟩ => ⟨he, hW.trans (hw2.mono hW.size)⟩))); simp only [Act.put, List.setIfInBounds_toArray, List.set_cons_zero, List.set_cons_succ])
      iterate 1 (refine q_plain rfl ?_; apply Exists.intro; refine ⟨fun W hW => ?_, ?_⟩; (focus (obtain ⟨x1, y1⟩ := keepB hW z1_5 r1_5 c1_5; obtain ⟨x3, y3⟩ := keepB hW z3_5 r3_5 c3_5; obtain ⟨x4, y4⟩ := keepB hW z4_5 r4_5 c4_5; go_simp; first | done | rfl)); simp only [Act.put, List.setIfInBounds_toArray, List.set_cons_zero, List.set_cons_succ])
      refine wpQuiet_nil ?_
      intro W7 hw7
      obtain ⟨r1_7, c1_7, z1_7⟩ := keepZ hw7 z1_5 r1_5 c1_5
      obtain ⟨r3_7, c3_7, z3_7⟩ := keepZ hw7 z3_5 r3_5 c3_5
      obtain ⟨r4_7, c4_7, z4_7⟩ := keepZ hw7 z4_5 r4_5 c4_5
      obtain ⟨hb7, q7⟩ := bN hb5 hw7
      clear hw7 r1_5 c1_5 z1_5 r3_5 c3_5 z3_5 r4_5 c4_5 z4_5 hb5
      go_wp2
      go_roundw
      case rel => exact ⟨j + 1, by omega, by go_num, bt, ⟨by simp [go_sem, r1_7, c1_7, n1_3, n1_4, r3_7, c3_7, n3_1, n3_4, r4_7, c4_7, n4_1, n4_3], (by rw [E1_5.out]; first | exact c1_7 | (simp [go_sem, r1_7, c1_7, n1_3, n1_4, r3_7, c3_7, n3_1, n3_4, r4_7, c4_7, n4_1, n4_3]; done))⟩, ⟨by simp [go_sem, r1_7, c1_7, n1_3, n1_4, r3_7, c3_7, n3_1, n3_4, r4_7, c4_7, n4_1, n4_3], (by rw [E3_5.out]; first | exact c3_7 | (simp [go_sem, r1_7, c1_7, n1_3, n1_4, r3_7, c3_7, n3_1, n3_4, r4_7, c4_7, n4_1, n4_3]; done))⟩, ⟨by simp [go_sem, r1_7, c1_7, n1_3, n1_4, r3_7, c3_7, n3_1, n3_4, r4_7, c4_7, n4_1, n4_3], (by rw [E4_5.out]; first | exact c4_7 | (simp [go_sem, r1_7, c1_7, n1_3, n1_4, r3_7, c3_7, n3_1, n3_4, r4_7, c4_7, n4_1, n4_3]; done))⟩, ⟨H2.out, H.out⟩⟩
      case measure => simp [intOf]; try omega
    ·
     obtain rfl : n = j := by omega
     have H := Lib.hid (upto_more (q := ax3R p n f) HX5.out.1 (all_yes (q := ax3At p n f i) n HX5.out.2))
     go_wp2
     go_roundw
     case rel => exact ⟨i + 1, by omega, by go_num, bt, ⟨by simp [go_sem, r1_5, c1_5, n1_3, n1_4, r3_5, c3_5, n3_1, n3_4, r4_5, c4_5, n4_1, n4_3], (by rw [E1_4.out]; first | exact c1_5 | (simp [go_sem, r1_5, c1_5, n1_3, n1_4, r3_5, c3_5, n3_1, n3_4, r4_5, c4_5, n4_1, n4_3]; done))⟩, ⟨by simp [go_sem, r1_5, c1_5, n1_3, n1_4, r3_5, c3_5, n3_1, n3_4, r4_5, c4_5, n4_1, n4_3], (by rw [E3_4.out]; first | exact c3_5 | (simp [go_sem, r1_5, c1_5, n1_3, n1_4, r3_5, c3_5, n3_1, n3_4, r4_5, c4_5, n4_1, n4_3]; done))⟩, ⟨by simp [go_sem, r1_5, c1_5, n1_3, n1_4, r3_5, c3_5, n3_1, n3_4, r4_5, c4_5, n4_1, n4_3], (by rw [E4_4.out]; first | exact c4_5 | (simp [go_sem, r1_5, c1_5, n1_3, n1_4, r3_5, c3_5, n3_1, n3_4, r4_5, c4_5, n4_1, n4_3]; done))⟩, H.out⟩
     case measure => simp [intOf]; try omega
  ·
   obtain rfl : n = i := by omega
   have H : Hid (ax3B p n f = true) := Lib.hid (all_yes (q := ax3R p n f) n fun a ha => HX4.out a ha)
   go_wp2_with fail
   go_ret
   exact ⟨ret_bool (by rw [H.out] <;> rfl), bt⟩

set_option maxRecDepth 100000 in
set_option maxHeartbeats 1000000 in
theorem coproductKeepsUnit_any (p : Int) (n : Nat) (f : Nat → Int) (w : World) (hp : 0 < p) (hp' : p ≤ 255) (hn : n ≤ 8) (hF : Bytes 1104 f) :
    Calls Tryz.prog 141 #[.agg (hop p n f)] w fun e w' => e = .returned (.bool (ax4B p f)) ∧ Below w.heap.size w w' := by
 have HF := Lib.hid hF; clear hF
 have H : Hid (ax4B p f = segEq 0 64 (copF p (coF f) f 8) (outF p f f 8)) := Lib.hid rfl
 go_enter Tryz.func141, Tryz.ntmps141
 go_wp2
 refine atomW fun W1 e1 => ?_
 have hb1 : Below w.heap.size w W1 := by rw [e1]; exact bt
 have q1 := hb1.size
 have r1_1 : IsRow W1 (w.heap.size) := by rw [e1]; simp [go_sem]
 have c1_1 := congrArg (fun x => blk x (w.heap.size)) e1; simp [go_sem] at c1_1
 have z1_1 := isRow_lt r1_1
 clear e1
 refine wp_quiet_all (Below W1.heap.size W1) (by kernel_rfl) (by kernel_rfl) (Below.refl _ _).drew ?_
 iterate 1 (refine q_plain rfl ?_; apply Exists.intro; refine ⟨fun W hW => ?_, ?_⟩; (focus (obtain ⟨x1, y1⟩ := keepB hW z1_1 r1_1 c1_1; go_simp; first | done | rfl)); simp only [Act.put, List.setIfInBounds_toArray, List.set_cons_zero, List.set_cons_succ])
 (refine q_plain rfl ?_; apply Exists.intro; refine ⟨fun W hW => ?_, ?_⟩; (focus (obtain ⟨x1, y1⟩ := keepB hW z1_1 r1_1 c1_1; go_simp; (go_at_call 55; exact (coalgebraOf_any _ _ _ _).mono fun e w2 ⟨he, hw2⟩ => ⟨he, hW.trans (hw2.mono hW.size)⟩))); simp only [Act.put, List.setIfInBounds_toArray, List.set_cons_zero, List.set_cons_succ])
 iterate 2 (refine q_plain rfl ?_; apply Exists.intro; refine ⟨fun W hW => ?_, ?_⟩; (focus (obtain ⟨x1, y1⟩ := keepB hW z1_1 r1_1 c1_1; go_simp; first | done | rfl)); simp only [Act.put, List.setIfInBounds_toArray, List.set_cons_zero, List.set_cons_succ])
 (refine q_plain rfl ?_; apply Exists.intro; refine ⟨fun W hW => ?_, ?_⟩; (focus (obtain ⟨x1, y1⟩ := keepB hW z1_1 r1_1 c1_1; go_simp; (go_at_call 79; exact (coproduct_any p n (coF f) f _ hp hp' (co_bytes HF.out) (unit_bytes (hop_bytes HF.out))).mono fun e w2 ⟨he, hw2⟩ => ⟨he, hW.trans (hw2.mono hW.size)⟩))); simp only [Act.put, List.setIfInBounds_toArray, List.set_cons_zero, List.set_cons_succ])
 iterate 6 (refine q_plain rfl ?_; apply Exists.intro; refine ⟨fun W hW => ?_, ?_⟩; (focus (obtain ⟨x1, y1⟩ := keepB hW z1_1 r1_1 c1_1; go_simp; first | done | rfl)); simp only [Act.put, List.setIfInBounds_toArray, List.set_cons_zero, List.set_cons_succ])
 (refine q_plain rfl ?_; apply Exists.intro; refine ⟨fun W hW => ?_, ?_⟩; (focus (obtain ⟨x1, y1⟩ := keepB hW z1_1 r1_1 c1_1; go_simp; (go_at_call 162; exact (pairOf_any p f f _ hp hp' (unit_bytes (hop_bytes HF.out)) (unit_bytes (hop_bytes HF.out))).mono fun e w2 ⟨he, hw2⟩ => ⟨he, hW.trans (hw2.mono hW.size)⟩))); simp only [Act.put, List.setIfInBounds_toArray, List.set_cons_zero, List.set_cons_succ])
 iterate 2 (refine q_plain rfl ?_; apply Exists.intro; refine ⟨fun W hW => ?_, ?_⟩; (focus (obtain ⟨x1, y1⟩ := keepB hW z1_1 r1_1 c1_1; go_simp; first | done | rfl)); simp only [Act.put, List.setIfInBounds_toArray, List.set_cons_zero, List.set_cons_succ])
 refine wpQuiet_nil ?_
 intro W2 hw2
 obtain ⟨r1_2, c1_2, z1_2⟩ := keepZ hw2 z1_1 r1_1 c1_1
 obtain ⟨hb2, q2⟩ := bN hb1 hw2
 clear hw2 r1_1 c1_1 z1_1 hb1
 go_wp2_with fail
 go_ret
 exact ⟨ret_bool (by rw [H.out]), bt⟩

set_option maxRecDepth 100000 in
set_option maxHeartbeats 4000000 in
theorem counitKeepsProducts_any (p : Int) (n : Nat) (f : Nat → Int) (w : World) (hp : 0 < p) (hp' : p ≤ 255) (hn : n ≤ 8) (hF : Bytes 1104 f) :
    Calls Tryz.prog 142 #[.agg (hop p n f)] w fun e w' => e = .returned (.bool (ax5B p n f)) ∧ Below w.heap.size w w' := by
 have HF := Lib.hid hF; clear hF
 have HC : Hid (Bytes 8 (coF f)) := Lib.hid (unit_bytes (co_bytes HF.out))
 go_enter Tryz.func142, Tryz.ntmps142
 go_wp2
 refine atomW fun W1 e1 => ?_
 have hb1 : Below w.heap.size w W1 := by rw [e1]; exact bt
 have q1 := hb1.size
 have r1_1 : IsRow W1 (w.heap.size) := by rw [e1]; simp [go_sem]
 have c1_1 := congrArg (fun x => blk x (w.heap.size)) e1; simp [go_sem] at c1_1
 have z1_1 := isRow_lt r1_1
 clear e1
 go_loopw [8] (fun s8 wr => ∃ i : Nat, i ≤ n ∧ s8 = .int .i64 i ∧ Below w.heap.size w wr ∧ (IsRow wr (w.heap.size) ∧ blk wr (w.heap.size) = blk W1 (w.heap.size)) ∧ ∀ a, a < i → ax5R p n f a = true) (fun s8 _ => n - (intOf s8).toNat)
 case atStart => exact ⟨0, by omega, rfl, hb1, ⟨r1_1, rfl⟩, fun a ha => by omega⟩
 case round =>
  obtain ⟨i, hle2, rfl, hb2, ⟨r1_2, c1_2⟩, hx2⟩ := hrel
  obtain ⟨W2, rfl⟩ : ∃ W2 : World, W2 = wr := ⟨_, rfl⟩
  have q2 := hb2.size
  have HX2 := Lib.hid hx2; clear hx2
  have E1_2 := Lib.hid c1_1; replace c1_2 := c1_2.trans c1_1
  have z1_2 := isRow_lt r1_2
  clear r1_1 c1_1 z1_1 hb1
  by_cases hlt2 : i < n
  ·
   have i0_2 : (0 : Int) ≤ (i : Int) := by omega
   have i8_2 : (i : Int) < 8 := by omega
   have k8_2 : i < 8 := by omega
   have m8_2 : i * 8 + 8 ≤ 64 := by omega
   have m64_2 : i * 64 + 64 ≤ 512 := by omega
   have l1_2 : 10 + i * 64 + 64 ≤ 522 := by omega
   go_wp2
   go_loopw [13] (fun s13 wr => ∃ j : Nat, j ≤ n ∧ s13 = .int .i64 j ∧ Below w.heap.size w wr ∧ (IsRow wr (w.heap.size) ∧ blk wr (w.heap.size) = blk W2 (w.heap.size)) ∧ (∀ a, a < i → ax5R p n f a = true) ∧ (∀ b, b < j → ax5At p f i b = true)) (fun s13 _ => n - (intOf s13).toNat)
   case atStart => exact ⟨0, by omega, rfl, hb2, ⟨r1_2, rfl⟩, ⟨HX2.out, fun b hb => by omega⟩⟩
   case round =>
    obtain ⟨j, hle3, rfl, hb3, ⟨r1_3, c1_3⟩, hx3⟩ := hrel
    obtain ⟨W3, rfl⟩ : ∃ W3 : World, W3 = wr := ⟨_, rfl⟩
    have q3 := hb3.size
    have HX3 := Lib.hid hx3; clear hx3
    have E1_3 := Lib.hid c1_2; replace c1_3 := c1_3.trans c1_2
    have z1_3 := isRow_lt r1_3
    clear r1_2 c1_2 z1_2 hb2
    by_cases hlt3 : j < n
    ·
     have i0_3 : (0 : Int) ≤ (j : Int) := by omega
     have i8_3 : (j : Int) < 8 := by omega
     have k8_3 : j < 8 := by omega
     have m8_3 : j * 8 + 8 ≤ 64 := by omega
     have m64_3 : j * 64 + 64 ≤ 512 := by omega
     have l1_3 : 10 + j * 64 + 64 ≤ 522 := by omega
     have l2_3i : 10 + i * 64 + j * 8 + 8 ≤ 522 := by omega
     have l3_3i : 10 + j * 64 + i * 8 + 8 ≤ 522 := by omega
     have l4_3i : i * 64 + j * 8 + 8 ≤ 512 := by omega
     have l5_3i : j * 64 + i * 8 + 8 ≤ 512 := by omega
     have l6_3i : i * 8 + j < 64 := by omega
     have l7_3i : j * 8 + i < 64 := by omega
     cases h0 : ax5At p f i j
     ·
      have HW : Hid (Bytes 8 (mtab f i j)) := Lib.hid (mtab_bytes (hop_bytes HF.out) i j (by omega) (by omega))
      have e8 := hop_mul8 p n f i j (by omega) (by omega)
      have e7 := hop_cq p n f i (by omega)
      have e6 := hop_cq p n f j (by omega)
      have l7 : 10 + i * 64 + j * 8 + 8 ≤ 1106 := by omega
      have b1 := (HC.out i (by omega)).1; have b2 := (HC.out i (by omega)).2; have b3 := (HC.out j (by omega)).1; have b4 := (HC.out j (by omega)).2
      have b5 := (mod_range (coF f i * coF f j) p hp).1; have b6 := (mod_range (coF f i * coF f j) p hp).2
      have q1 : IntKind.i64.wrap (coF f i * coF f j % p) = coF f i * coF f j % p := IntWalk.i64_in _ (by omega)
      have h1 : (dotF 8 (coF f) (mtab f i j) % p != coF f i * coF f j % p) = true := neq_of (q := false) h0
      have H : Hid (ax5B p n f = false) := Lib.hid (by unfold ax5B; rw [all_no (q := ax5R p n f) i n (by omega) (all_no (q := ax5At p f i) j n (by omega) h0)]; rfl)
      go_wp2
      refine wp_quiet_all (Below W3.heap.size W3) (by kernel_rfl) (by kernel_rfl) (Below.refl _ _).drew ?_
      iterate 10 (refine q_plain rfl ?_; apply Exists.intro; refine ⟨fun W hW => ?_, ?_⟩; (focus (obtain ⟨x1, y1⟩ := keepB hW z1_3 r1_3 c1_3; go_simp; first | done | rfl)); simp only [Act.put, List.setIfInBounds_toArray, List.set_cons_zero, List.set_cons_succ])
      (refine q_plain rfl ?_; apply Exists.intro; refine ⟨fun W hW => ?_, ?_⟩; (focus (obtain ⟨x1, y1⟩ := keepB hW z1_3 r1_3 c1_3; go_simp; (go_at_call 156; exact (timesNumber_any _ _ _ _ hp hp' b1 b2 b3 b4).mono fun e w2 ⟨he, hw2⟩ => ⟨he, hw2 ▸ hW⟩))); simp only [Act.put, List.setIfInBounds_toArray, List.set_cons_zero, List.set_cons_succ])
      iterate 1 (refine q_plain rfl ?_; apply Exists.intro; refine ⟨fun W hW => ?_, ?_⟩; (focus (obtain ⟨x1, y1⟩ := keepB hW z1_3 r1_3 c1_3; go_simp; first | done | rfl)); simp only [Act.put, List.setIfInBounds_toArray, List.set_cons_zero, List.set_cons_succ])
      refine wpQuiet_nil ?_
      intro W4 hw4
      obtain ⟨r1_4, c1_4, z1_4⟩ := keepZ hw4 z1_3 r1_3 c1_3
      obtain ⟨hb4, q4⟩ := bN hb3 hw4
      clear hw4 r1_3 c1_3 z1_3 hb3
      go_wp2
      refine wp_quiet_all (Below W4.heap.size W4) (by kernel_rfl) (by kernel_rfl) (Below.refl _ _).drew ?_
      iterate 10 (refine q_plain rfl ?_; apply Exists.intro; refine ⟨fun W hW => ?_, ?_⟩; (focus (obtain ⟨x1, y1⟩ := keepB hW z1_4 r1_4 c1_4; go_simp; first | done | rfl)); simp only [Act.put, List.setIfInBounds_toArray, List.set_cons_zero, List.set_cons_succ])
      (refine q_plain rfl ?_; apply Exists.intro; refine ⟨fun W hW => ?_, ?_⟩; (focus (obtain ⟨x1, y1⟩ := keepB hW z1_4 r1_4 c1_4; go_simp; (go_at_call 163; exact (formValue_any p (coF f) _ _ hp hp' HC.out HW.out).mono fun e w2 ⟨he, hw2⟩ => ⟨he, hW.trans (hw2.mono hW.size)⟩))); simp only [Act.put, List.setIfInBounds_toArray, List.set_cons_zero, List.set_cons_succ])
      iterate 3 (refine q_plain rfl ?_; apply Exists.intro; refine ⟨fun W hW => ?_, ?_⟩; (focus (obtain ⟨x1, y1⟩ := keepB hW z1_4 r1_4 c1_4; go_simp; first | done | rfl)); simp only [Act.put, List.setIfInBounds_toArray, List.set_cons_zero, List.set_cons_succ])
      refine wpQuiet_nil ?_
      intro W5 hw5
      obtain ⟨r1_5, c1_5, z1_5⟩ := keepZ hw5 z1_4 r1_4 c1_4
      obtain ⟨hb5, q5⟩ := bN hb4 hw5
      clear hw5 r1_4 c1_4 z1_4 hb4
      go_wp2_with fail
      go_ret
      exact ⟨ret_bool (by rw [H.out] <;> rfl), bt⟩
     ·
      have HW : Hid (Bytes 8 (mtab f i j)) := Lib.hid (mtab_bytes (hop_bytes HF.out) i j (by omega) (by omega))
      have e8 := hop_mul8 p n f i j (by omega) (by omega)
      have e7 := hop_cq p n f i (by omega)
      have e6 := hop_cq p n f j (by omega)
      have l7 : 10 + i * 64 + j * 8 + 8 ≤ 1106 := by omega
      have b1 := (HC.out i (by omega)).1; have b2 := (HC.out i (by omega)).2; have b3 := (HC.out j (by omega)).1; have b4 := (HC.out j (by omega)).2
      have b5 := (mod_range (coF f i * coF f j) p hp).1; have b6 := (mod_range (coF f i * coF f j) p hp).2
      have q1 : IntKind.i64.wrap (coF f i * coF f j % p) = coF f i * coF f j % p := IntWalk.i64_in _ (by omega)
      have h1 : (dotF 8 (coF f) (mtab f i j) % p != coF f i * coF f j % p) = false := neq_of (q := true) h0
      have H := Lib.hid (upto_more (q := ax5At p f i) HX3.out.2 h0)
      have H2 := Lib.hid HX3.out.1
      go_wp2
      refine wp_quiet_all (Below W3.heap.size W3) (by kernel_rfl) (by kernel_rfl) (Below.refl _ _).drew ?_
      iterate 10 (refine q_plain rfl ?_; apply Exists.intro; refine ⟨fun W hW => ?_, ?_⟩; (focus (obtain ⟨x1, y1⟩ := keepB hW z1_3 r1_3 c1_3; go_simp; first | done | rfl)); simp only [Act.put, List.setIfInBounds_toArray, List.set_cons_zero, List.set_cons_succ])
      (refine q_plain rfl ?_; apply Exists.intro; refine ⟨fun W hW => ?_, ?_⟩; (focus (obtain ⟨x1, y1⟩ := keepB hW z1_3 r1_3 c1_3; go_simp; (go_at_call 156; exact (timesNumber_any _ _ _ _ hp hp' b1 b2 b3 b4).mono fun e w2 ⟨he, hw2⟩ => ⟨he, hw2 ▸ hW⟩))); simp only [Act.put, List.setIfInBounds_toArray, List.set_cons_zero, List.set_cons_succ])
      iterate 1 (refine q_plain rfl ?_; apply Exists.intro; refine ⟨fun W hW => ?_, ?_⟩; (focus (obtain ⟨x1, y1⟩ := keepB hW z1_3 r1_3 c1_3; go_simp; first | done | rfl)); simp only [Act.put, List.setIfInBounds_toArray, List.set_cons_zero, List.set_cons_succ])
      refine wpQuiet_nil ?_
      intro W6 hw6
      obtain ⟨r1_6, c1_6, z1_6⟩ := keepZ hw6 z1_3 r1_3 c1_3
      obtain ⟨hb6, q6⟩ := bN hb3 hw6
      clear hw6 r1_3 c1_3 z1_3 hb3
      go_wp2
      refine wp_quiet_all (Below W6.heap.size W6) (by kernel_rfl) (by kernel_rfl) (Below.refl _ _).drew ?_
      iterate 10 (refine q_plain rfl ?_; apply Exists.intro; refine ⟨fun W hW => ?_, ?_⟩; (focus (obtain ⟨x1, y1⟩ := keepB hW z1_6 r1_6 c1_6; go_simp; first | done | rfl)); simp only [Act.put, List.setIfInBounds_toArray, List.set_cons_zero, List.set_cons_succ])
      (refine q_plain rfl ?_; apply Exists.intro; refine ⟨fun W hW => ?_, ?_⟩; (focus (obtain ⟨x1, y1⟩ := keepB hW z1_6 r1_6 c1_6; go_simp; (go_at_call 163; exact (formValue_any p (coF f) _ _ hp hp' HC.out HW.out).mono fun e w2 ⟨he, hw2⟩ => ⟨he, hW.trans (hw2.mono hW.size)⟩))); simp only [Act.put, List.setIfInBounds_toArray, List.set_cons_zero, List.set_cons_succ])
      iterate 3 (refine q_plain rfl ?_; apply Exists.intro; refine ⟨fun W hW => ?_, ?_⟩; (focus (obtain ⟨x1, y1⟩ := keepB hW z1_6 r1_6 c1_6; go_simp; first | done | rfl)); simp only [Act.put, List.setIfInBounds_toArray, List.set_cons_zero, List.set_cons_succ])
      refine wpQuiet_nil ?_
      intro W7 hw7
      obtain ⟨r1_7, c1_7, z1_7⟩ := keepZ hw7 z1_6 r1_6 c1_6
      obtain ⟨hb7, q7⟩ := bN hb6 hw7
      clear hw7 r1_6 c1_6 z1_6 hb6
      go_wp2
      go_roundw
      case rel => exact ⟨j + 1, by omega, by go_num, bt, ⟨by simp [go_sem, r1_7, c1_7], (by rw [E1_3.out]; first | exact c1_7 | (simp [go_sem, r1_7, c1_7]; done))⟩, ⟨H2.out, H.out⟩⟩
      case measure => simp [intOf]; try omega
    ·
     obtain rfl : n = j := by omega
     have H := Lib.hid (upto_more (q := ax5R p n f) HX3.out.1 (all_yes (q := ax5At p f i) n HX3.out.2))
     go_wp2
     go_roundw
     case rel => exact ⟨i + 1, by omega, by go_num, bt, ⟨by simp [go_sem, r1_3, c1_3], (by rw [E1_2.out]; first | exact c1_3 | (simp [go_sem, r1_3, c1_3]; done))⟩, H.out⟩
     case measure => simp [intOf]; try omega
  ·
   obtain rfl : n = i := by omega
   have HW : Hid (Bytes 8 f) := Lib.hid (unit_bytes (hop_bytes HF.out))
   have H : Hid (ax5B p n f = (dotF 8 (coF f) f % p == 1)) := Lib.hid (by unfold ax5B; rw [all_yes (q := ax5R p n f) n fun a ha => HX2.out a ha]; rfl)
   go_wp2_with fail
   refine (formValue_any p (coF f) _ _ hp hp' HC.out HW.out).mono ?_; rintro _ W8 ⟨rfl, hw8⟩
   obtain ⟨hb8, q8⟩ := bN hb2 hw8
   clear hw8 hb2
   go_wp2_with fail
   go_ret
   exact ⟨ret_bool (by rw [H.out]), bt⟩

set_option maxRecDepth 100000 in
set_option maxHeartbeats 4000000 in
theorem antipodeInvertsOnLeft_any (p : Int) (n : Nat) (f : Nat → Int) (w : World) (hp : 0 < p) (hp' : p ≤ 255) (hn : n ≤ 8) (hF : Bytes 1104 f) :
    Calls Tryz.prog 143 #[.agg (hop p n f)] w fun e w' => e = .returned (.bool (ax6B p n f)) ∧ Below w.heap.size w w' := by
 have HF := Lib.hid hF; clear hF
 have H : Hid (ax6B p n f = segEq 0 64 (cvK p n n f (coF f) (anF f) (idK n) n 0) (outF p (coF f) f 8)) := Lib.hid rfl
 have HS : Hid (Bytes 64 (anF f)) := Lib.hid (an_bytes HF.out)
 have HI := Lib.hid (id_bytes n)
 go_enter Tryz.func143, Tryz.ntmps143
 go_wp2
 refine atomW fun W1 e1 => ?_
 have hb1 : Below w.heap.size w W1 := by rw [e1]; exact bt
 have q1 := hb1.size
 have r1_1 : IsRow W1 (w.heap.size) := by rw [e1]; simp [go_sem]
 have c1_1 := congrArg (fun x => blk x (w.heap.size)) e1; simp [go_sem] at c1_1
 have z1_1 := isRow_lt r1_1
 clear e1
 refine wp_quiet_made2 4 6 _ _ (alg 0 0 zf) (alg 0 0 zf) 131 92 (by kernel_rfl) rfl rfl rfl rfl (by omega) (by kernel_rfl) (fun a W => (xallocAlg _ _ _ _ _ _ _).trans (allocAlg W)) (fun a W => (xallocCoa _ _ _ _ _ _ _).trans (allocCoa W)) ?_
 simp only [List.take_succ_cons, List.take_zero, List.drop_succ_cons, List.drop_zero, List.eraseIdx_cons_succ, List.eraseIdx_cons_zero]
 iterate 1 (refine e_plain rfl ?_; apply Exists.intro; refine ⟨fun D hD hK W hW => ?_, ?_⟩; (focus (obtain ⟨x1, y1⟩ := keepB (hD W hW) z1_1 r1_1 c1_1; unfold Oper.quietAt; go_simp; first | done | rfl)); simp only [Act.put, List.setIfInBounds_toArray, List.set_cons_zero, List.set_cons_succ])
 (refine e_plain rfl ?_; apply Exists.intro; refine ⟨fun D hD hK W hW => ?_, ?_⟩; (focus (obtain ⟨x1, y1⟩ := keepB (hD W hW) z1_1 r1_1 c1_1; unfold Oper.quietAt; go_simp; (go_at_call 135; exact (algebraOf_any _ _ _ _).mono fun e w2 ⟨he, hw2⟩ => ⟨he, hK _ _ hW hw2⟩))); simp only [Act.put, List.setIfInBounds_toArray, List.set_cons_zero, List.set_cons_succ])
 iterate 1 (refine e_plain rfl ?_; apply Exists.intro; refine ⟨fun D hD hK W hW => ?_, ?_⟩; (focus (obtain ⟨x1, y1⟩ := keepB (hD W hW) z1_1 r1_1 c1_1; unfold Oper.quietAt; go_simp; first | done | rfl)); simp only [Act.put, List.setIfInBounds_toArray, List.set_cons_zero, List.set_cons_succ])
 (refine e_plain rfl ?_; apply Exists.intro; refine ⟨fun D hD hK W hW => ?_, ?_⟩; (focus (obtain ⟨x1, y1⟩ := keepB (hD W hW) z1_1 r1_1 c1_1; unfold Oper.quietAt; go_simp; (go_at_call 55; exact (coalgebraOf_any _ _ _ _).mono fun e w2 ⟨he, hw2⟩ => ⟨he, hK _ _ hW hw2⟩))); simp only [Act.put, List.setIfInBounds_toArray, List.set_cons_zero, List.set_cons_succ])
 refine e_nil ?_
 intro a2 b2 W2 hw2 mk1_2 mk2_2 hne2
 obtain ⟨hl1_2, m1_2, m2_2⟩ := mk1_2; obtain ⟨hl2_2, m3_2, m4_2⟩ := mk2_2
 have n1_3 : (w.heap.size) ≠ (a2) := by have := z1_1; omega
 have n3_1 : (a2) ≠ (w.heap.size) := by have := z1_1; omega
 have n1_4 : (w.heap.size) ≠ (b2) := by have := z1_1; omega
 have n4_1 : (b2) ≠ (w.heap.size) := by have := z1_1; omega
 obtain ⟨r1_2, c1_2, z1_2⟩ := keepZ hw2 z1_1 r1_1 c1_1
 obtain ⟨hb2, q2⟩ := bN hb1 hw2
 clear hw2 r1_1 c1_1 z1_1 hb1
 have n3_4 : (a2) ≠ (b2) := hne2
 have n4_3 : (b2) ≠ (a2) := Ne.symm hne2
 have z3_2 := isRow_lt m1_2
 have z4_2 := isRow_lt m3_2
 simp only [Act.put, List.setIfInBounds_toArray, List.set_cons_zero, List.set_cons_succ]
 go_wp2
 refine atomW fun W3 e3 => ?_
 have hb3 : Below w.heap.size w W3 := by rw [e3]; exact bt
 have q3 := hb3.size
 have R3 : IsRow W3 (w.heap.size) ∧ IsRow W3 (a2) ∧ IsRow W3 (b2) := by rw [e3]; simp [go_sem, r1_2, c1_2, n1_3, n1_4, m1_2, m2_2, n3_1, n3_4, m3_2, m4_2, n4_1, n4_3]
 obtain ⟨r1_3, r3_3, r4_3⟩ := R3
 have C3 := (⟨congrArg (blk · (w.heap.size)) e3, congrArg (blk · (a2)) e3, congrArg (blk · (b2)) e3⟩ : _ ∧ _ ∧ _); simp [go_sem, r1_2, c1_2, n1_3, n1_4, m1_2, m2_2, n3_1, n3_4, m3_2, m4_2, n4_1, n4_3] at C3
 obtain ⟨c1_3, c3_3, c4_3⟩ := C3
 have z1_3 := isRow_lt r1_3; have z3_3 := isRow_lt r3_3; have z4_3 := isRow_lt r4_3
 clear e3 r1_2 c1_2 z1_2 m1_2 m2_2 z3_2 m3_2 m4_2 z4_2 hb2
 refine wp_quiet_all (Below W3.heap.size W3) (by kernel_rfl) (by kernel_rfl) (Below.refl _ _).drew ?_
 iterate 6 (refine q_plain rfl ?_; apply Exists.intro; refine ⟨fun W hW => ?_, ?_⟩; (focus (obtain ⟨x1, y1⟩ := keepB hW z1_3 r1_3 c1_3; obtain ⟨x3, y3⟩ := keepB hW z3_3 r3_3 c3_3; obtain ⟨x4, y4⟩ := keepB hW z4_3 r4_3 c4_3; go_simp; first | done | rfl)); simp only [Act.put, List.setIfInBounds_toArray, List.set_cons_zero, List.set_cons_succ])
 (refine q_plain rfl ?_; apply Exists.intro; refine ⟨fun W hW => ?_, ?_⟩; (focus (obtain ⟨x1, y1⟩ := keepB hW z1_3 r1_3 c1_3; obtain ⟨x3, y3⟩ := keepB hW z3_3 r3_3 c3_3; obtain ⟨x4, y4⟩ := keepB hW z4_3 r4_3 c4_3; go_simp; (go_at_call 155; exact (identityLinear_any n _ hn).mono fun e w2 ⟨he, hw2⟩ => ⟨he, hW.trans (hw2.mono hW.size)⟩))); simp only [Act.put, List.setIfInBounds_toArray, List.set_cons_zero, List.set_cons_succ])
 (refine q_plain rfl ?_; apply Exists.intro; refine ⟨fun W hW => ?_, ?_⟩; (focus (obtain ⟨x1, y1⟩ := keepB hW z1_3 r1_3 c1_3; obtain ⟨x3, y3⟩ := keepB hW z3_3 r3_3 c3_3; obtain ⟨x4, y4⟩ := keepB hW z4_3 r4_3 c4_3; go_simp; (go_at_call 164; exact (convolve_any p p n n (coF f) f (anF f) (idK n) _ hp hp' hn hn (co_bytes HF.out) (hop_bytes HF.out) HS.out HI.out).mono fun e w2 ⟨he, hw2⟩ => ⟨he, hW.trans (hw2.mono hW.size)⟩))); simp only [Act.put, List.setIfInBounds_toArray, List.set_cons_zero, List.set_cons_succ])
 iterate 2 (refine q_plain rfl ?_; apply Exists.intro; refine ⟨fun W hW => ?_, ?_⟩; (focus (obtain ⟨x1, y1⟩ := keepB hW z1_3 r1_3 c1_3; obtain ⟨x3, y3⟩ := keepB hW z3_3 r3_3 c3_3; obtain ⟨x4, y4⟩ := keepB hW z4_3 r4_3 c4_3; go_simp; first | done | rfl)); simp only [Act.put, List.setIfInBounds_toArray, List.set_cons_zero, List.set_cons_succ])
 (refine q_plain rfl ?_; apply Exists.intro; refine ⟨fun W hW => ?_, ?_⟩; (focus (obtain ⟨x1, y1⟩ := keepB hW z1_3 r1_3 c1_3; obtain ⟨x3, y3⟩ := keepB hW z3_3 r3_3 c3_3; obtain ⟨x4, y4⟩ := keepB hW z4_3 r4_3 c4_3; go_simp; (go_at_call 165; exact (unitMap_any p n p n (coF f) f _ hp hp' (co_bytes HF.out) (hop_bytes HF.out)).mono fun e w2 ⟨he, hw2⟩ => ⟨he, hW.trans (hw2.mono hW.size)⟩))); simp only [Act.put, List.setIfInBounds_toArray, List.set_cons_zero, List.set_cons_succ])
 iterate 2 (refine q_plain rfl ?_; apply Exists.intro; refine ⟨fun W hW => ?_, ?_⟩; (focus (obtain ⟨x1, y1⟩ := keepB hW z1_3 r1_3 c1_3; obtain ⟨x3, y3⟩ := keepB hW z3_3 r3_3 c3_3; obtain ⟨x4, y4⟩ := keepB hW z4_3 r4_3 c4_3; go_simp; first | done | rfl)); simp only [Act.put, List.setIfInBounds_toArray, List.set_cons_zero, List.set_cons_succ])
 refine wpQuiet_nil ?_
 intro W4 hw4
 obtain ⟨r1_4, c1_4, z1_4⟩ := keepZ hw4 z1_3 r1_3 c1_3
 obtain ⟨r3_4, c3_4, z3_4⟩ := keepZ hw4 z3_3 r3_3 c3_3
 obtain ⟨r4_4, c4_4, z4_4⟩ := keepZ hw4 z4_3 r4_3 c4_3
 obtain ⟨hb4, q4⟩ := bN hb3 hw4
 clear hw4 r1_3 c1_3 z1_3 r3_3 c3_3 z3_3 r4_3 c4_3 z4_3 hb3
 go_wp2_with fail
 go_ret
 exact ⟨ret_bool (by rw [H.out]), bt⟩

set_option maxRecDepth 100000 in
set_option maxHeartbeats 4000000 in
theorem antipodeInvertsOnRight_any (p : Int) (n : Nat) (f : Nat → Int) (w : World) (hp : 0 < p) (hp' : p ≤ 255) (hn : n ≤ 8) (hF : Bytes 1104 f) :
    Calls Tryz.prog 144 #[.agg (hop p n f)] w fun e w' => e = .returned (.bool (ax7B p n f)) ∧ Below w.heap.size w w' := by
 have HF := Lib.hid hF; clear hF
 have H : Hid (ax7B p n f = segEq 0 64 (cvK p n n f (coF f) (idK n) (anF f) n 0) (outF p (coF f) f 8)) := Lib.hid rfl
 have HS : Hid (Bytes 64 (anF f)) := Lib.hid (an_bytes HF.out)
 have HI := Lib.hid (id_bytes n)
 go_enter Tryz.func144, Tryz.ntmps144
 go_wp2
 refine atomW fun W1 e1 => ?_
 have hb1 : Below w.heap.size w W1 := by rw [e1]; exact bt
 have q1 := hb1.size
 have r1_1 : IsRow W1 (w.heap.size) := by rw [e1]; simp [go_sem]
 have c1_1 := congrArg (fun x => blk x (w.heap.size)) e1; simp [go_sem] at c1_1
 have z1_1 := isRow_lt r1_1
 clear e1
 refine wp_quiet_made2 4 6 _ _ (alg 0 0 zf) (alg 0 0 zf) 131 92 (by kernel_rfl) rfl rfl rfl rfl (by omega) (by kernel_rfl) (fun a W => (xallocAlg _ _ _ _ _ _ _).trans (allocAlg W)) (fun a W => (xallocCoa _ _ _ _ _ _ _).trans (allocCoa W)) ?_
 simp only [List.take_succ_cons, List.take_zero, List.drop_succ_cons, List.drop_zero, List.eraseIdx_cons_succ, List.eraseIdx_cons_zero]
 iterate 1 (refine e_plain rfl ?_; apply Exists.intro; refine ⟨fun D hD hK W hW => ?_, ?_⟩; (focus (obtain ⟨x1, y1⟩ := keepB (hD W hW) z1_1 r1_1 c1_1; unfold Oper.quietAt; go_simp; first | done | rfl)); simp only [Act.put, List.setIfInBounds_toArray, List.set_cons_zero, List.set_cons_succ])
 (refine e_plain rfl ?_; apply Exists.intro; refine ⟨fun D hD hK W hW => ?_, ?_⟩; (focus (obtain ⟨x1, y1⟩ := keepB (hD W hW) z1_1 r1_1 c1_1; unfold Oper.quietAt; go_simp; (go_at_call 135; exact (algebraOf_any _ _ _ _).mono fun e w2 ⟨he, hw2⟩ => ⟨he, hK _ _ hW hw2⟩))); simp only [Act.put, List.setIfInBounds_toArray, List.set_cons_zero, List.set_cons_succ])
 iterate 1 (refine e_plain rfl ?_; apply Exists.intro; refine ⟨fun D hD hK W hW => ?_, ?_⟩; (focus (obtain ⟨x1, y1⟩ := keepB (hD W hW) z1_1 r1_1 c1_1; unfold Oper.quietAt; go_simp; first | done | rfl)); simp only [Act.put, List.setIfInBounds_toArray, List.set_cons_zero, List.set_cons_succ])
 (refine e_plain rfl ?_; apply Exists.intro; refine ⟨fun D hD hK W hW => ?_, ?_⟩; (focus (obtain ⟨x1, y1⟩ := keepB (hD W hW) z1_1 r1_1 c1_1; unfold Oper.quietAt; go_simp; (go_at_call 55; exact (coalgebraOf_any _ _ _ _).mono fun e w2 ⟨he, hw2⟩ => ⟨he, hK _ _ hW hw2⟩))); simp only [Act.put, List.setIfInBounds_toArray, List.set_cons_zero, List.set_cons_succ])
 refine e_nil ?_
 intro a2 b2 W2 hw2 mk1_2 mk2_2 hne2
 obtain ⟨hl1_2, m1_2, m2_2⟩ := mk1_2; obtain ⟨hl2_2, m3_2, m4_2⟩ := mk2_2
 have n1_3 : (w.heap.size) ≠ (a2) := by have := z1_1; omega
 have n3_1 : (a2) ≠ (w.heap.size) := by have := z1_1; omega
 have n1_4 : (w.heap.size) ≠ (b2) := by have := z1_1; omega
 have n4_1 : (b2) ≠ (w.heap.size) := by have := z1_1; omega
 obtain ⟨r1_2, c1_2, z1_2⟩ := keepZ hw2 z1_1 r1_1 c1_1
 obtain ⟨hb2, q2⟩ := bN hb1 hw2
 clear hw2 r1_1 c1_1 z1_1 hb1
 have n3_4 : (a2) ≠ (b2) := hne2
 have n4_3 : (b2) ≠ (a2) := Ne.symm hne2
 have z3_2 := isRow_lt m1_2
 have z4_2 := isRow_lt m3_2
 simp only [Act.put, List.setIfInBounds_toArray, List.set_cons_zero, List.set_cons_succ]
 go_wp2
 refine atomW fun W3 e3 => ?_
 have hb3 : Below w.heap.size w W3 := by rw [e3]; exact bt
 have q3 := hb3.size
 have R3 : IsRow W3 (w.heap.size) ∧ IsRow W3 (a2) ∧ IsRow W3 (b2) := by rw [e3]; simp [go_sem, r1_2, c1_2, n1_3, n1_4, m1_2, m2_2, n3_1, n3_4, m3_2, m4_2, n4_1, n4_3]
 obtain ⟨r1_3, r3_3, r4_3⟩ := R3
 have C3 := (⟨congrArg (blk · (w.heap.size)) e3, congrArg (blk · (a2)) e3, congrArg (blk · (b2)) e3⟩ : _ ∧ _ ∧ _); simp [go_sem, r1_2, c1_2, n1_3, n1_4, m1_2, m2_2, n3_1, n3_4, m3_2, m4_2, n4_1, n4_3] at C3
 obtain ⟨c1_3, c3_3, c4_3⟩ := C3
 have z1_3 := isRow_lt r1_3; have z3_3 := isRow_lt r3_3; have z4_3 := isRow_lt r4_3
 clear e3 r1_2 c1_2 z1_2 m1_2 m2_2 z3_2 m3_2 m4_2 z4_2 hb2
 refine wp_quiet_all (Below W3.heap.size W3) (by kernel_rfl) (by kernel_rfl) (Below.refl _ _).drew ?_
 iterate 4 (refine q_plain rfl ?_; apply Exists.intro; refine ⟨fun W hW => ?_, ?_⟩; (focus (obtain ⟨x1, y1⟩ := keepB hW z1_3 r1_3 c1_3; obtain ⟨x3, y3⟩ := keepB hW z3_3 r3_3 c3_3; obtain ⟨x4, y4⟩ := keepB hW z4_3 r4_3 c4_3; go_simp; first | done | rfl)); simp only [Act.put, List.setIfInBounds_toArray, List.set_cons_zero, List.set_cons_succ])
 (refine q_plain rfl ?_; apply Exists.intro; refine ⟨fun W hW => ?_, ?_⟩; (focus (obtain ⟨x1, y1⟩ := keepB hW z1_3 r1_3 c1_3; obtain ⟨x3, y3⟩ := keepB hW z3_3 r3_3 c3_3; obtain ⟨x4, y4⟩ := keepB hW z4_3 r4_3 c4_3; go_simp; (go_at_call 155; exact (identityLinear_any n _ hn).mono fun e w2 ⟨he, hw2⟩ => ⟨he, hW.trans (hw2.mono hW.size)⟩))); simp only [Act.put, List.setIfInBounds_toArray, List.set_cons_zero, List.set_cons_succ])
 iterate 2 (refine q_plain rfl ?_; apply Exists.intro; refine ⟨fun W hW => ?_, ?_⟩; (focus (obtain ⟨x1, y1⟩ := keepB hW z1_3 r1_3 c1_3; obtain ⟨x3, y3⟩ := keepB hW z3_3 r3_3 c3_3; obtain ⟨x4, y4⟩ := keepB hW z4_3 r4_3 c4_3; go_simp; first | done | rfl)); simp only [Act.put, List.setIfInBounds_toArray, List.set_cons_zero, List.set_cons_succ])
 (refine q_plain rfl ?_; apply Exists.intro; refine ⟨fun W hW => ?_, ?_⟩; (focus (obtain ⟨x1, y1⟩ := keepB hW z1_3 r1_3 c1_3; obtain ⟨x3, y3⟩ := keepB hW z3_3 r3_3 c3_3; obtain ⟨x4, y4⟩ := keepB hW z4_3 r4_3 c4_3; go_simp; (go_at_call 164; exact (convolve_any p p n n (coF f) f (idK n) (anF f) _ hp hp' hn hn (co_bytes HF.out) (hop_bytes HF.out) HI.out HS.out).mono fun e w2 ⟨he, hw2⟩ => ⟨he, hW.trans (hw2.mono hW.size)⟩))); simp only [Act.put, List.setIfInBounds_toArray, List.set_cons_zero, List.set_cons_succ])
 iterate 2 (refine q_plain rfl ?_; apply Exists.intro; refine ⟨fun W hW => ?_, ?_⟩; (focus (obtain ⟨x1, y1⟩ := keepB hW z1_3 r1_3 c1_3; obtain ⟨x3, y3⟩ := keepB hW z3_3 r3_3 c3_3; obtain ⟨x4, y4⟩ := keepB hW z4_3 r4_3 c4_3; go_simp; first | done | rfl)); simp only [Act.put, List.setIfInBounds_toArray, List.set_cons_zero, List.set_cons_succ])
 (refine q_plain rfl ?_; apply Exists.intro; refine ⟨fun W hW => ?_, ?_⟩; (focus (obtain ⟨x1, y1⟩ := keepB hW z1_3 r1_3 c1_3; obtain ⟨x3, y3⟩ := keepB hW z3_3 r3_3 c3_3; obtain ⟨x4, y4⟩ := keepB hW z4_3 r4_3 c4_3; go_simp; (go_at_call 165; exact (unitMap_any p n p n (coF f) f _ hp hp' (co_bytes HF.out) (hop_bytes HF.out)).mono fun e w2 ⟨he, hw2⟩ => ⟨he, hW.trans (hw2.mono hW.size)⟩))); simp only [Act.put, List.setIfInBounds_toArray, List.set_cons_zero, List.set_cons_succ])
 iterate 2 (refine q_plain rfl ?_; apply Exists.intro; refine ⟨fun W hW => ?_, ?_⟩; (focus (obtain ⟨x1, y1⟩ := keepB hW z1_3 r1_3 c1_3; obtain ⟨x3, y3⟩ := keepB hW z3_3 r3_3 c3_3; obtain ⟨x4, y4⟩ := keepB hW z4_3 r4_3 c4_3; go_simp; first | done | rfl)); simp only [Act.put, List.setIfInBounds_toArray, List.set_cons_zero, List.set_cons_succ])
 refine wpQuiet_nil ?_
 intro W4 hw4
 obtain ⟨r1_4, c1_4, z1_4⟩ := keepZ hw4 z1_3 r1_3 c1_3
 obtain ⟨r3_4, c3_4, z3_4⟩ := keepZ hw4 z3_3 r3_3 c3_3
 obtain ⟨r4_4, c4_4, z4_4⟩ := keepZ hw4 z4_3 r4_3 c4_3
 obtain ⟨hb4, q4⟩ := bN hb3 hw4
 clear hw4 r1_3 c1_3 z1_3 r3_3 c3_3 z3_3 r4_3 c4_3 z4_3 hb3
 go_wp2_with fail
 go_ret
 exact ⟨ret_bool (by rw [H.out]), bt⟩
end
section
open Go.RowKit
set_option linter.unusedSimpArgs false
set_option linter.unusedVariables false
attribute [local irreducible] wpQuiet wpQE

/-- the number, from k on, of the first that is false, or 0 -/
def axN : List Bool → Int → Int
  | [], _ => 0
  | false :: _, k => k
  | true :: l, k => axN l (k + 1)
def axL (p : Int) (n : Nat) (f : Nat → Int) : List Bool := [algB p n f, coB p n (coF f), ax3B p n f, ax4B p f, ax5B p n f, ax6B p n f, ax7B p n f]
def axAt (p : Int) (n : Nat) (f : Nat → Int) (k : Nat) : Bool := (axL p n f).getD k true
def failN (p : Int) (n : Nat) (f : Nat → Int) : Int := axN (axL p n f) 1
theorem axN_at : ∀ (l : List Bool) (k : Int) (i : Nat), (∀ a, a < i → l.getD a true = true) → l.getD i true = false → axN l k = k + i
  | [], _, i, _, h => by simp at h
  | false :: l, k, 0, _, _ => by simp [axN]
  | true :: l, k, 0, _, h => by simp at h
  | b :: l, k, i + 1, ha, h => by
    have h0 : b = true := by simpa using ha 0 (by omega)
    subst h0
    rw [axN, axN_at l (k + 1) i (fun a hi => by simpa using ha (a + 1) (by omega)) (by simpa using h)]
    omega
theorem axN_none : ∀ (l : List Bool) (k : Int), (∀ a, a < l.length → l.getD a true = true) → axN l k = 0
  | [], _, _ => rfl
  | b :: l, k, h => by
    have h0 : b = true := by simpa using h 0 (by simp)
    subst h0
    rw [axN, axN_none l (k + 1) fun a ha => by simpa using h (a + 1) (by simpa using ha)]
theorem fail_at {p : Int} {n : Nat} {f : Nat → Int} {i : Nat} (ha : ∀ a, a < i → axAt p n f a = true) (h : axAt p n f i = false) : failN p n f = 1 + (i : Int) := axN_at _ 1 i ha h
theorem fail_none {p : Int} {n : Nat} {f : Nat → Int} (ha : ∀ a, a < 7 → axAt p n f a = true) : failN p n f = 0 := axN_none _ 1 ha

/-! ### the array of axioms -/
theorem aggAx : AggT Tryz.prog 175 7 := ⟨by kernel_rfl, by kernel_rfl⟩
@[go_sem ↓] theorem xstoreAx (ρ : Operand → Value) (dst : Option Tmp) (a x : Operand) (ty : TypeId) (pos : String) (after : Array Edge) (guard : Option (Nat × Bool)) (w : World) :
    (execOp ρ ⟨dst, .store 175 a x, ty, pos, after, guard⟩).run Tryz.prog w = storeN Tryz.prog 175 (ρ a) (ρ x) w := rfl
@[go_sem] theorem storeAx (w : World) (b : Nat) (f1 f2 f3 f4 f5 f6 f7 : Fn) (h : Has w b (0 + 7)) :
    storeN Tryz.prog 175 (.pointer (some ⟨b, 0, none⟩)) (.agg #[.func f1 #[] #[], .func f2 #[] #[], .func f3 #[] #[], .func f4 #[] #[], .func f5 #[] #[], .func f6 #[] #[], .func f7 #[] #[]]) w =
      .ok .skip (w.setRow b (lay (blk w b) 0 #[.func f1 #[] #[], .func f2 #[] #[], .func f3 #[] #[], .func f4 #[] #[], .func f5 #[] #[], .func f6 #[] #[], .func f7 #[] #[]])) := storeN_at aggAx w b 0 _ h rfl (by simp [Value.oneCell'])
@[go_sem ↓] theorem xloadAx (ρ : Operand → Value) (dst : Option Tmp) (a : Operand) (ty : TypeId) (pos : String) (after : Array Edge) (guard : Option (Nat × Bool)) (w : World) :
    (execOp ρ ⟨dst, .load 175 a, ty, pos, after, guard⟩).run Tryz.prog w = loadN Tryz.prog 175 (ρ a) w := rfl
@[go_sem] theorem loadAx (w : World) (b off : Nat) (h : Has w b (off + 7)) :
    loadN Tryz.prog 175 (.pointer (some ⟨b, off, none⟩)) w = .ok (.value (.agg ((blk w b).extract off (off + 7)))) w := loadN_at aggAx w b off h
@[go_sem ↓] theorem xindexAx (ρ : Operand → Value) (dst : Option Tmp) (a x : Operand) (ty : TypeId) (pos : String) (after : Array Edge) (guard : Option (Nat × Bool)) (w : World) :
    (execOp ρ ⟨dst, .index 175 a x, ty, pos, after, guard⟩).run Tryz.prog w = indexN Tryz.prog 175 (ρ a) (ρ x) w := rfl
@[go_sem] theorem indexAx0 (f0 f1 f2 f3 f4 f5 f6 : Value) (w : World) : indexN Tryz.prog 175 (.agg #[f0, f1, f2, f3, f4, f5, f6]) (.int .i64 0) w = .ok (.value f0) w := indexN_one (n := 7) (e := 174) (by kernel_rfl) (by kernel_rfl) (by kernel_rfl) _ _ _ _ (by omega) (by omega) rfl w
@[go_sem] theorem indexAx1 (f0 f1 f2 f3 f4 f5 f6 : Value) (w : World) : indexN Tryz.prog 175 (.agg #[f0, f1, f2, f3, f4, f5, f6]) (.int .i64 1) w = .ok (.value f1) w := indexN_one (n := 7) (e := 174) (by kernel_rfl) (by kernel_rfl) (by kernel_rfl) _ _ _ _ (by omega) (by omega) rfl w
@[go_sem] theorem indexAx2 (f0 f1 f2 f3 f4 f5 f6 : Value) (w : World) : indexN Tryz.prog 175 (.agg #[f0, f1, f2, f3, f4, f5, f6]) (.int .i64 2) w = .ok (.value f2) w := indexN_one (n := 7) (e := 174) (by kernel_rfl) (by kernel_rfl) (by kernel_rfl) _ _ _ _ (by omega) (by omega) rfl w
@[go_sem] theorem indexAx3 (f0 f1 f2 f3 f4 f5 f6 : Value) (w : World) : indexN Tryz.prog 175 (.agg #[f0, f1, f2, f3, f4, f5, f6]) (.int .i64 3) w = .ok (.value f3) w := indexN_one (n := 7) (e := 174) (by kernel_rfl) (by kernel_rfl) (by kernel_rfl) _ _ _ _ (by omega) (by omega) rfl w
@[go_sem] theorem indexAx4 (f0 f1 f2 f3 f4 f5 f6 : Value) (w : World) : indexN Tryz.prog 175 (.agg #[f0, f1, f2, f3, f4, f5, f6]) (.int .i64 4) w = .ok (.value f4) w := indexN_one (n := 7) (e := 174) (by kernel_rfl) (by kernel_rfl) (by kernel_rfl) _ _ _ _ (by omega) (by omega) rfl w
@[go_sem] theorem indexAx5 (f0 f1 f2 f3 f4 f5 f6 : Value) (w : World) : indexN Tryz.prog 175 (.agg #[f0, f1, f2, f3, f4, f5, f6]) (.int .i64 5) w = .ok (.value f5) w := indexN_one (n := 7) (e := 174) (by kernel_rfl) (by kernel_rfl) (by kernel_rfl) _ _ _ _ (by omega) (by omega) rfl w
@[go_sem] theorem indexAx6 (f0 f1 f2 f3 f4 f5 f6 : Value) (w : World) : indexN Tryz.prog 175 (.agg #[f0, f1, f2, f3, f4, f5, f6]) (.int .i64 6) w = .ok (.value f6) w := indexN_one (n := 7) (e := 174) (by kernel_rfl) (by kernel_rfl) (by kernel_rfl) _ _ _ _ (by omega) (by omega) rfl w
theorem lay7 (c cs : Array Value) (hc : c.size = 7) (h : cs.size = 7) : lay c 0 cs = cs := by
  apply Array.ext_getElem?
  intro i
  rw [lay_get _ _ _ _ (by omega)]
  split
  · rfl
  · rw [Array.getElem?_eq_none (by omega), Array.getElem?_eq_none (by omega)]
@[go_sem] theorem lay7_fn (n1 n2 n3 n4 n5 n6 n7 f1 f2 f3 f4 f5 f6 f7 : Value) : lay #[n1, n2, n3, n4, n5, n6, n7] 0 #[f1, f2, f3, f4, f5, f6, f7] = #[f1, f2, f3, f4, f5, f6, f7] := lay7 _ _ rfl rfl

set_option maxRecDepth 100000 in
set_option maxHeartbeats 4000000 in
theorem failingAxiom_any (p : Int) (n : Nat) (f : Nat → Int) (w : World) (hp : 0 < p) (hp' : p ≤ 255) (hn : n ≤ 8) (hF : Bytes 1104 f) :
    Calls Tryz.prog 107 #[.agg (hop p n f)] w fun e w' => e = .returned (.int .i64 (failN p n f)) ∧ Below w.heap.size w w' := by
 have HF := Lib.hid hF; clear hF
 go_enter Tryz.func107, Tryz.ntmps107
 go_wp2
 refine atomW fun W1 e1 => ?_
 have hb1 : Below w.heap.size w W1 := by rw [e1]; exact bt
 have q1 := hb1.size
 have r1_1 : IsRow W1 (w.heap.size) := by rw [e1]; simp [go_sem]
 have c1_1 := congrArg (fun x => blk x (w.heap.size)) e1; simp [go_sem] at c1_1
 have z1_1 := isRow_lt r1_1
 clear e1
 go_loopw [8] (fun s8 wr => ∃ i : Nat, i ≤ 7 ∧ s8 = .int .i64 i ∧ Below w.heap.size w wr ∧ (IsRow wr (w.heap.size) ∧ blk wr (w.heap.size) = blk W1 (w.heap.size)) ∧ ∀ a, a < i → axAt p n f a = true) (fun s8 _ => 7 - (intOf s8).toNat)
 case atStart => exact ⟨0, by omega, rfl, hb1, ⟨r1_1, rfl⟩, fun a ha => by omega⟩
 case round =>
  obtain ⟨i, hle2, rfl, hb2, ⟨r1_2, c1_2⟩, hx2⟩ := hrel
  obtain ⟨W2, rfl⟩ : ∃ W2 : World, W2 = wr := ⟨_, rfl⟩
  have q2 := hb2.size
  have HX2 := Lib.hid hx2; clear hx2
  have E1_2 := Lib.hid c1_1; replace c1_2 := c1_2.trans c1_1
  have z1_2 := isRow_lt r1_2
  clear r1_1 c1_1 z1_1 hb1
  by_cases hlt2 : i < 7
  ·
   have i0_2 : (0 : Int) ≤ (i : Int) := by omega
   have i8_2 : (i : Int) < 7 := by omega
   have k8_2 : i < 7 := by omega
   by_cases hi0 : i = 0
   ·
    subst hi0
    cases h0 : axAt p n f 0
    ·
     have h1 : algB p n f = false := h0
     have H := Lib.hid (fail_at HX2.out h0)
     go_wp2_with fail
     refine (isAlgebraOfHopf_any _ _ _ _ HF.out).mono ?_; rintro _ W3 ⟨rfl, hw3⟩
     obtain ⟨r1_3, c1_3, z1_3⟩ := keepZ hw3 z1_2 r1_2 c1_2
     obtain ⟨hb3, q3⟩ := bN hb2 hw3
     clear hw3 r1_2 c1_2 z1_2 hb2
     go_wp2_with fail
     go_ret
     exact ⟨ret_int (by rw [H.out]; rfl), bt⟩
    ·
     have h1 : algB p n f = true := h0
     have H := Lib.hid (upto_more (q := axAt p n f) HX2.out h0)
     go_wp2_with fail
     refine (isAlgebraOfHopf_any _ _ _ _ HF.out).mono ?_; rintro _ W4 ⟨rfl, hw4⟩
     obtain ⟨r1_4, c1_4, z1_4⟩ := keepZ hw4 z1_2 r1_2 c1_2
     obtain ⟨hb4, q4⟩ := bN hb2 hw4
     clear hw4 r1_2 c1_2 z1_2 hb2
     go_wp2
     go_roundw
     case rel => exact ⟨0 + 1, by omega, by go_num, bt, ⟨by simp [go_sem, r1_4, c1_4], (by rw [E1_2.out]; first | exact c1_4 | (simp [go_sem, r1_4, c1_4]; done))⟩, H.out⟩
     case measure => simp [intOf]; try omega
   ·
    by_cases hi1 : i = 1
    ·
     subst hi1
     cases h0 : axAt p n f 1
     ·
      have h1 : coB p n (coF f) = false := h0
      have H := Lib.hid (fail_at HX2.out h0)
      go_wp2_with fail
      refine (isCoalgebraOfHopf_any _ _ _ _ HF.out).mono ?_; rintro _ W5 ⟨rfl, hw5⟩
      obtain ⟨r1_5, c1_5, z1_5⟩ := keepZ hw5 z1_2 r1_2 c1_2
      obtain ⟨hb5, q5⟩ := bN hb2 hw5
      clear hw5 r1_2 c1_2 z1_2 hb2
      go_wp2_with fail
      go_ret
      exact ⟨ret_int (by rw [H.out]; rfl), bt⟩
     ·
      have h1 : coB p n (coF f) = true := h0
      have H := Lib.hid (upto_more (q := axAt p n f) HX2.out h0)
      go_wp2_with fail
      refine (isCoalgebraOfHopf_any _ _ _ _ HF.out).mono ?_; rintro _ W6 ⟨rfl, hw6⟩
      obtain ⟨r1_6, c1_6, z1_6⟩ := keepZ hw6 z1_2 r1_2 c1_2
      obtain ⟨hb6, q6⟩ := bN hb2 hw6
      clear hw6 r1_2 c1_2 z1_2 hb2
      go_wp2
      go_roundw
      case rel => exact ⟨1 + 1, by omega, by go_num, bt, ⟨by simp [go_sem, r1_6, c1_6], (by rw [E1_2.out]; first | exact c1_6 | (simp [go_sem, r1_6, c1_6]; done))⟩, H.out⟩
      case measure => simp [intOf]; try omega
    ·
     by_cases hi2 : i = 2
     ·
      subst hi2
      cases h0 : axAt p n f 2
      ·
       have h1 : ax3B p n f = false := h0
       have H := Lib.hid (fail_at HX2.out h0)
       go_wp2_with fail
       refine (coproductKeepsProducts_any p n f _ hp hp' hn HF.out).mono ?_; rintro _ W7 ⟨rfl, hw7⟩
       obtain ⟨r1_7, c1_7, z1_7⟩ := keepZ hw7 z1_2 r1_2 c1_2
       obtain ⟨hb7, q7⟩ := bN hb2 hw7
       clear hw7 r1_2 c1_2 z1_2 hb2
       go_wp2_with fail
       go_ret
       exact ⟨ret_int (by rw [H.out]; rfl), bt⟩
      ·
       have h1 : ax3B p n f = true := h0
       have H := Lib.hid (upto_more (q := axAt p n f) HX2.out h0)
       go_wp2_with fail
       refine (coproductKeepsProducts_any p n f _ hp hp' hn HF.out).mono ?_; rintro _ W8 ⟨rfl, hw8⟩
       obtain ⟨r1_8, c1_8, z1_8⟩ := keepZ hw8 z1_2 r1_2 c1_2
       obtain ⟨hb8, q8⟩ := bN hb2 hw8
       clear hw8 r1_2 c1_2 z1_2 hb2
       go_wp2
       go_roundw
       case rel => exact ⟨2 + 1, by omega, by go_num, bt, ⟨by simp [go_sem, r1_8, c1_8], (by rw [E1_2.out]; first | exact c1_8 | (simp [go_sem, r1_8, c1_8]; done))⟩, H.out⟩
       case measure => simp [intOf]; try omega
     ·
      by_cases hi3 : i = 3
      ·
       subst hi3
       cases h0 : axAt p n f 3
       ·
        have h1 : ax4B p f = false := h0
        have H := Lib.hid (fail_at HX2.out h0)
        go_wp2_with fail
        refine (coproductKeepsUnit_any p n f _ hp hp' hn HF.out).mono ?_; rintro _ W9 ⟨rfl, hw9⟩
        obtain ⟨r1_9, c1_9, z1_9⟩ := keepZ hw9 z1_2 r1_2 c1_2
        obtain ⟨hb9, q9⟩ := bN hb2 hw9
        clear hw9 r1_2 c1_2 z1_2 hb2
        go_wp2_with fail
        go_ret
        exact ⟨ret_int (by rw [H.out]; rfl), bt⟩
       ·
        have h1 : ax4B p f = true := h0
        have H := Lib.hid (upto_more (q := axAt p n f) HX2.out h0)
        go_wp2_with fail
        refine (coproductKeepsUnit_any p n f _ hp hp' hn HF.out).mono ?_; rintro _ W10 ⟨rfl, hw10⟩
        obtain ⟨r1_10, c1_10, z1_10⟩ := keepZ hw10 z1_2 r1_2 c1_2
        obtain ⟨hb10, q10⟩ := bN hb2 hw10
        clear hw10 r1_2 c1_2 z1_2 hb2
        go_wp2
        go_roundw
        case rel => exact ⟨3 + 1, by omega, by go_num, bt, ⟨by simp [go_sem, r1_10, c1_10], (by rw [E1_2.out]; first | exact c1_10 | (simp [go_sem, r1_10, c1_10]; done))⟩, H.out⟩
        case measure => simp [intOf]; try omega
      ·
       by_cases hi4 : i = 4
       ·
        subst hi4
        cases h0 : axAt p n f 4
        ·
         have h1 : ax5B p n f = false := h0
         have H := Lib.hid (fail_at HX2.out h0)
         go_wp2_with fail
         refine (counitKeepsProducts_any p n f _ hp hp' hn HF.out).mono ?_; rintro _ W11 ⟨rfl, hw11⟩
         obtain ⟨r1_11, c1_11, z1_11⟩ := keepZ hw11 z1_2 r1_2 c1_2
         obtain ⟨hb11, q11⟩ := bN hb2 hw11
         clear hw11 r1_2 c1_2 z1_2 hb2
         go_wp2_with fail
         go_ret
         exact ⟨ret_int (by rw [H.out]; rfl), bt⟩
        ·
         have h1 : ax5B p n f = true := h0
         have H := Lib.hid (upto_more (q := axAt p n f) HX2.out h0)
         go_wp2_with fail
         refine (counitKeepsProducts_any p n f _ hp hp' hn HF.out).mono ?_; rintro _ W12 ⟨rfl, hw12⟩
         obtain ⟨r1_12, c1_12, z1_12⟩ := keepZ hw12 z1_2 r1_2 c1_2
         obtain ⟨hb12, q12⟩ := bN hb2 hw12
         clear hw12 r1_2 c1_2 z1_2 hb2
         go_wp2
         go_roundw
         case rel => exact ⟨4 + 1, by omega, by go_num, bt, ⟨by simp [go_sem, r1_12, c1_12], (by rw [E1_2.out]; first | exact c1_12 | (simp [go_sem, r1_12, c1_12]; done))⟩, H.out⟩
         case measure => simp [intOf]; try omega
       ·
        by_cases hi5 : i = 5
        ·
         subst hi5
         cases h0 : axAt p n f 5
         ·
          have h1 : ax6B p n f = false := h0
          have H := Lib.hid (fail_at HX2.out h0)
          go_wp2_with fail
          refine (antipodeInvertsOnLeft_any p n f _ hp hp' hn HF.out).mono ?_; rintro _ W13 ⟨rfl, hw13⟩
          obtain ⟨r1_13, c1_13, z1_13⟩ := keepZ hw13 z1_2 r1_2 c1_2
          obtain ⟨hb13, q13⟩ := bN hb2 hw13
          clear hw13 r1_2 c1_2 z1_2 hb2
          go_wp2_with fail
          go_ret
          exact ⟨ret_int (by rw [H.out]; rfl), bt⟩
         ·
          have h1 : ax6B p n f = true := h0
          have H := Lib.hid (upto_more (q := axAt p n f) HX2.out h0)
          go_wp2_with fail
          refine (antipodeInvertsOnLeft_any p n f _ hp hp' hn HF.out).mono ?_; rintro _ W14 ⟨rfl, hw14⟩
          obtain ⟨r1_14, c1_14, z1_14⟩ := keepZ hw14 z1_2 r1_2 c1_2
          obtain ⟨hb14, q14⟩ := bN hb2 hw14
          clear hw14 r1_2 c1_2 z1_2 hb2
          go_wp2
          go_roundw
          case rel => exact ⟨5 + 1, by omega, by go_num, bt, ⟨by simp [go_sem, r1_14, c1_14], (by rw [E1_2.out]; first | exact c1_14 | (simp [go_sem, r1_14, c1_14]; done))⟩, H.out⟩
          case measure => simp [intOf]; try omega
        ·
         by_cases hi6 : i = 6
         ·
          subst hi6
          cases h0 : axAt p n f 6
          ·
           have h1 : ax7B p n f = false := h0
           have H := Lib.hid (fail_at HX2.out h0)
           go_wp2_with fail
           refine (antipodeInvertsOnRight_any p n f _ hp hp' hn HF.out).mono ?_; rintro _ W15 ⟨rfl, hw15⟩
           obtain ⟨r1_15, c1_15, z1_15⟩ := keepZ hw15 z1_2 r1_2 c1_2
           obtain ⟨hb15, q15⟩ := bN hb2 hw15
           clear hw15 r1_2 c1_2 z1_2 hb2
           go_wp2_with fail
           go_ret
           exact ⟨ret_int (by rw [H.out]; rfl), bt⟩
          ·
           have h1 : ax7B p n f = true := h0
           have H := Lib.hid (upto_more (q := axAt p n f) HX2.out h0)
           go_wp2_with fail
           refine (antipodeInvertsOnRight_any p n f _ hp hp' hn HF.out).mono ?_; rintro _ W16 ⟨rfl, hw16⟩
           obtain ⟨r1_16, c1_16, z1_16⟩ := keepZ hw16 z1_2 r1_2 c1_2
           obtain ⟨hb16, q16⟩ := bN hb2 hw16
           clear hw16 r1_2 c1_2 z1_2 hb2
           go_wp2
           go_roundw
           case rel => exact ⟨6 + 1, by omega, by go_num, bt, ⟨by simp [go_sem, r1_16, c1_16], (by rw [E1_2.out]; first | exact c1_16 | (simp [go_sem, r1_16, c1_16]; done))⟩, H.out⟩
           case measure => simp [intOf]; try omega
         ·
          omega
  ·
   obtain rfl : i = 7 := by omega
   have H := Lib.hid (fail_none (p := p) (n := n) (f := f) HX2.out)
   go_wp2_with fail
   go_ret
   exact ⟨ret_int (by rw [H.out]), bt⟩

/-- p, n, f is a Hopf algebra -/
def hopfB (p n : Int) (f : Nat → Int) : Bool := shapeH p n f && (failN p n.toNat f == 0)
theorem hopfB_no {p n : Int} {f : Nat → Int} (h : shapeH p n f = false) : hopfB p n f = false := by unfold hopfB; rw [h]; rfl
theorem hopfB_yes {p : Int} {n : Nat} {f : Nat → Int} (h : shapeH p n f = true) : hopfB p n f = (failN p n f == 0) := by unfold hopfB; rw [h]; rfl
theorem shapeH_sizes {p n : Int} {f : Nat → Int} (h : shapeH p n f = true) : sizesB p n = true := (shape_parts (shapeH_parts h).1).1
theorem hopf_shape {p n : Int} {f : Nat → Int} (h : hopfB p n f = true) : shapeH p n f = true := by
  unfold hopfB at h
  simp only [Bool.and_eq_true] at h
  exact h.1

set_option maxRecDepth 100000 in
set_option maxHeartbeats 1000000 in
theorem isHopf_any (p n : Int) (f : Nat → Int) (w : World) (hF : Bytes 1104 f) :
    Calls Tryz.prog 78 #[.agg (hop p n f)] w fun e w' => e = .returned (.bool (hopfB p n f)) ∧ Below w.heap.size w w' := by
 have HF := Lib.hid hF; clear hF
 cases hs : shapeH p n f
 ·
  have H := Lib.hid (hopfB_no hs)
  go_enter Tryz.func78, Tryz.ntmps78
  go_wp2_with fail
  refine atomC fun W1 e1 => ?_
  have hb1 : Below w.heap.size w W1 := by rw [e1]; exact bt
  have q1 := hb1.size
  have r1_1 : IsRow W1 (w.heap.size) := by rw [e1]; simp [go_sem]
  have c1_1 := congrArg (fun x => blk x (w.heap.size)) e1; simp [go_sem] at c1_1
  have z1_1 := isRow_lt r1_1
  clear e1
  refine (isShapedHopf_any _ _ _ _ HF.out).mono ?_; rintro _ W2 ⟨rfl, hw2⟩
  obtain ⟨r1_2, c1_2, z1_2⟩ := keepZ hw2 z1_1 r1_1 c1_1
  obtain ⟨hb2, q2⟩ := bN hb1 hw2
  clear hw2 r1_1 c1_1 z1_1 hb1
  go_wp2_with fail
  go_ret
  exact ⟨ret_bool (by rw [H.out]), bt⟩
 ·
  obtain ⟨hp2, hp31, hn1, hn8⟩ := sizes_range (shapeH_sizes hs)
  obtain ⟨n, rfl⟩ := Int.eq_ofNat_of_zero_le (show 0 ≤ n by omega)
  have hn : n ≤ 8 := by omega
  have hp : 0 < p := by omega
  have hp' : p ≤ 255 := by omega
  have H := Lib.hid (hopfB_yes hs)
  go_enter Tryz.func78, Tryz.ntmps78
  go_wp2_with fail
  refine atomC fun W3 e3 => ?_
  have hb3 : Below w.heap.size w W3 := by rw [e3]; exact bt
  have q3 := hb3.size
  have r1_3 : IsRow W3 (w.heap.size) := by rw [e3]; simp [go_sem]
  have c1_3 := congrArg (fun x => blk x (w.heap.size)) e3; simp [go_sem] at c1_3
  have z1_3 := isRow_lt r1_3
  clear e3
  refine (isShapedHopf_any _ _ _ _ HF.out).mono ?_; rintro _ W4 ⟨rfl, hw4⟩
  obtain ⟨r1_4, c1_4, z1_4⟩ := keepZ hw4 z1_3 r1_3 c1_3
  obtain ⟨hb4, q4⟩ := bN hb3 hw4
  clear hw4 r1_3 c1_3 z1_3 hb3
  go_wp2_with fail
  refine (failingAxiom_any p n f _ hp hp' hn HF.out).mono ?_; rintro _ W5 ⟨rfl, hw5⟩
  obtain ⟨hb5, q5⟩ := bN hb4 hw5
  clear hw5 hb4
  go_wp2_with fail
  go_ret
  exact ⟨ret_bool (by rw [H.out]), bt⟩
end
section
open Go.RowKit
set_option linter.unusedSimpArgs false
set_option linter.unusedVariables false
attribute [local irreducible] wpQuiet wpQE

theorem ebas_eq (b : Nat) : ebas b b = 1 := by unfold ebas upd; rw [if_pos rfl]
theorem ebas_ne {b j : Nat} (h : j ≠ b) : ebas b j = 0 := by unfold ebas upd zf; rw [if_neg h]
theorem mulF_right {p : Int} {n b t : Nat} {m : Nat → Nat → Nat → Int} {V : Nat → Int} (hb : b < n) : mulF p n m V (ebas b) t = sumTo (fun x => V x * m x b t) n % p := by
  unfold mulF
  congr 1
  refine sumTo_congr n fun x _ => ?_
  rw [sumTo_one n hb (fun j _ hne => by rw [ebas_ne hne, Int.mul_zero, Int.zero_mul]), ebas_eq, Int.mul_one]
theorem mulF_left {p : Int} {n a t : Nat} {m : Nat → Nat → Nat → Int} {E W : Nat → Int} (ha : a < n) (hE : ∀ x, x < n → E x = ebas a x) : mulF p n m E W t = sumTo (fun y => W y * m a y t) n % p := by
  unfold mulF
  congr 1
  rw [sumTo_one n ha (fun x hx hne => sumTo_zero n fun j _ => by rw [hE x hx, ebas_ne hne, Int.zero_mul, Int.zero_mul])]
  exact sumTo_congr n fun j _ => by rw [hE a ha, ebas_eq, Int.one_mul]
theorem left_sum {p : Int} {n t : Nat} {m : Nat → Nat → Nat → Int} {V w v : Nat → Int} (hw : ∀ y, y < n → w y = v y) : mulF p n m V w t % p = sumTo (fun b => v b * mulF p n m V (ebas b) t) n % p := by
  have h1 : sumTo (fun b => v b * mulF p n m V (ebas b) t) n % p = sumTo (fun b => sumTo (fun x => V x * w b * m x b t) n) n % p := by
    refine sum_mod p _ _ n fun b hb => ?_
    rw [mulF_right hb, Int.mul_emod, Int.emod_emod, ← Int.mul_emod, ← sumTo_mul]
    congr 1
    refine sumTo_congr n fun x _ => ?_
    rw [hw b hb, ← Int.mul_assoc, Int.mul_comm (v b)]
  rw [h1, ← sumTo_swap]
  unfold mulF
  rw [Int.emod_emod]
theorem right_sum {p : Int} {n a t : Nat} {m : Nat → Nat → Nat → Int} {E w v : Nat → Int} {S : Nat → Nat → Int} (ha : a < n) (hE : ∀ x, x < n → E x = ebas a x) (hw : ∀ y, y < n → w y % p = sumTo (fun b => v b * S b y) n % p) :
    mulF p n m E w t % p = sumTo (fun b => v b * mulF p n m (ebas a) (S b) t) n % p := by
  have h1 : sumTo (fun b => v b * mulF p n m (ebas a) (S b) t) n % p = sumTo (fun b => sumTo (fun y => v b * S b y * m a y t) n) n % p := by
    refine sum_mod p _ _ n fun b hb => ?_
    rw [mulF_left ha (fun _ _ => rfl), Int.mul_emod, Int.emod_emod, ← Int.mul_emod, ← sumTo_mul]
    congr 1
    exact sumTo_congr n fun y _ => (Int.mul_assoc _ _ _).symm
  rw [h1, ← sumTo_swap, mulF_left ha hE, Int.emod_emod]
  refine sum_mod p _ _ n fun y hy => ?_
  rw [Int.mul_emod, hw y hy, ← Int.mul_emod]
  congr 1
  rw [Int.mul_comm, ← sumTo_mul]
  exact sumTo_congr n fun b _ => Int.mul_comm _ _

/-! ### what is 0 in a shaped table -/
theorem co_entry {p : Int} {n : Nat} {f : Nat → Int} (h : shapeH p n f = true) (i j k : Nat) (hi : i < 8) (hj : j < 8) (hk : k < 8) : mtab (coF f) i j k < p ∧ ((i < n ∧ j < n ∧ k < n) ∨ mtab (coF f) i j k = 0) := by
  have := shape_entry (shapeH_parts h).2.1 i j k hi hj hk
  omega
theorem al_entry {p : Int} {n : Nat} {f : Nat → Int} (h : shapeH p n f = true) (i j k : Nat) (hi : i < 8) (hj : j < 8) (hk : k < 8) : mtab f i j k < p ∧ ((i < n ∧ j < n ∧ k < n) ∨ mtab f i j k = 0) := by
  have := shape_entry (shapeH_parts h).1 i j k hi hj hk
  omega
theorem al_unit {p : Int} {n : Nat} {f : Nat → Int} (h : shapeH p n f = true) (i : Nat) (hi : i < 8) : f i < p ∧ (i < n ∨ f i = 0) := by
  have := shape_unit (shapeH_parts h).1 i hi
  omega
theorem co_unit0 {p : Int} {n : Nat} {f : Nat → Int} (h : shapeH p n f = true) (i : Nat) (hi : i < 8) : coF f i < p ∧ (i < n ∨ coF f i = 0) := by
  have := shape_unit (shapeH_parts h).2.1 i hi
  omega
theorem copS_full {p : Int} {n : Nat} {f v : Nat → Int} (hn : n ≤ 8) (h : shapeH p n f = true) (t : Nat) (ht : t < 64) : copS p (coF f) v n n 0 t = copF p (coF f) v 8 t := by
  unfold copS copK copF
  split
  · rw [if_neg (by omega), sumTo_more (n := n) (fun i h1 h2 => by have := (co_entry h i (t / 8) (t % 8) h2 (by omega) (by omega)).2; rw [show mtab (coF f) i (t / 8) (t % 8) = 0 by omega, Int.mul_zero]) hn]
  · rw [sumTo_zero 8 fun i hi => by have := (co_entry h i (t / 8) (t % 8) hi (by omega) (by omega)).2; rw [show mtab (coF f) i (t / 8) (t % 8) = 0 by omega, Int.mul_zero]]
    rfl
theorem ppS_full {p : Int} {n : Nat} {f m q : Nat → Int} (hn : n ≤ 8) (h : shapeH p n f = true) (t : Nat) (ht : t < 64) : ppS p n f m q n 0 t = ppK p n f m q n 0 t := by
  unfold ppS
  split
  · rfl
  · rename_i hlt
    unfold ppK
    rw [dsum_all, sumTo_zero n fun a ha => sumTo_zero n fun b hb => by
      have := (al_entry h a b (t / 8) (by omega) (by omega) (by omega)).2
      unfold ppT
      rw [show mtab f a b (t / 8) = 0 by omega, Int.zero_mul]]
    rfl
theorem seg_same {m : Nat} {f f' g g' : Nat → Int} (h : ∀ t, t < m → f t = f' t) (h' : ∀ t, t < m → g t = g' t) : segEq 0 m f g = segEq 0 m f' g' := by
  rw [Bool.eq_iff_iff, segEq_iff, segEq_iff]
  constructor <;> intro k i hi <;> have := k i hi <;> rw [Nat.zero_add] at * <;> rw [h i hi, h' i hi] at * <;> exact this
theorem ax3_spec {p : Int} {n : Nat} {f : Nat → Int} (hn : n ≤ 8) (h : shapeH p n f = true) (i j : Nat) : segEq 0 64 (copS p (coF f) (mtab f i j) n n 0) (ppS p n f (comF f i) (comF f j) n 0) = ax3At p n f i j :=
  seg_same (fun t ht => copS_full hn h t ht) (fun t ht => ppS_full hn h t ht)
/-- a table of 8 rows, row by row; rows from n on are the same -/
theorem seg_rows {n : Nat} {X Y : Nat → Int} {x y : Nat → Nat → Int} (hn : n ≤ 8) (hx : ∀ i t, i < n → t < 8 → X (i * 8 + t) = x i t) (hy : ∀ i t, i < n → t < 8 → Y (i * 8 + t) = y i t) (h0 : ∀ i t, n ≤ i → i < 8 → t < 8 → X (i * 8 + t) = Y (i * 8 + t)) :
    segEq 0 64 X Y = (List.range n).all fun i => segEq 0 8 (x i) (y i) := by
  rw [Bool.eq_iff_iff, segEq_iff, List.all_eq_true]
  constructor
  · intro k i hi
    have hi' : i < n := by simpa using hi
    rw [segEq_iff]
    intro t ht
    have := k (i * 8 + t) (by omega)
    rw [Nat.zero_add, hx i t hi' ht, hy i t hi' ht] at this
    rw [Nat.zero_add]; exact this
  · intro k u hu
    rw [Nat.zero_add]
    by_cases hlt : u / 8 < n
    · have h1 := (segEq_iff 0 8 _ _).1 (k (u / 8) (by simpa using hlt)) (u % 8) (by omega)
      rw [Nat.zero_add, ← hx _ _ hlt (by omega), ← hy _ _ hlt (by omega), show u / 8 * 8 + u % 8 = u by omega] at h1
      exact h1
    · have h1 := h0 (u / 8) (u % 8) (by omega) (by omega) (by omega)
      rw [show u / 8 * 8 + u % 8 = u by omega] at h1
      exact h1
def ax4S (p : Int) (n : Nat) (f : Nat → Int) (j : Nat) : Bool := segEq 0 8 (fun t => copS p (coF f) f n n 0 (j * 8 + t)) (addm p 0 8 (f j) zf f)
theorem addm_unit (p c : Int) (f : Nat → Int) (t : Nat) (ht : t < 8) : addm p 0 8 c zf f t = c * f t % p := by unfold addm zf; rw [if_pos (by omega), Int.zero_add, Nat.sub_zero]
theorem ax4_spec {p : Int} {n : Nat} {f : Nat → Int} (hn : n ≤ 8) (h : shapeH p n f = true) : ax4B p f = (List.range n).all (ax4S p n f) := by
  refine seg_rows hn (fun i t hi ht => (copS_full hn h _ (by omega)).symm) (fun i t hi ht => ?_) (fun i t h1 h2 ht => ?_)
  · rw [addm_unit _ _ _ _ ht]
    unfold outF
    rw [if_pos (by omega), show (i * 8 + t) / 8 = i by omega, show (i * 8 + t) % 8 = t by omega]
  · rw [← copS_full hn h _ (by omega)]
    unfold copS outF
    rw [if_neg (by omega), if_pos (by omega), show (i * 8 + t) / 8 = i by omega, show f i = 0 by have := (al_unit h i h2).2; omega, Int.zero_mul]
    rfl
theorem dot_full {n : Nat} {u v : Nat → Int} (hn : n ≤ 8) (hv : ∀ i, n ≤ i → i < 8 → v i = 0) : dotF n v u = dotF 8 u v := by
  unfold dotF
  rw [sumTo_more (g := fun i => u i * v i) (n := n) (fun i h1 h2 => by rw [hv i h1 h2, Int.mul_zero]) hn]
  exact sumTo_congr n fun i _ => Int.mul_comm _ _
theorem ax5_spec {p : Int} {n : Nat} {f : Nat → Int} (hn : n ≤ 8) (h : shapeH p n f = true) (i j : Nat) (hi : i < 8) (hj : j < 8) : dotF n (mtab f i j) (coF f) = dotF 8 (coF f) (mtab f i j) :=
  dot_full hn fun k h1 h2 => by have := (al_entry h i j k hi hj h2).2; omega
theorem ax5u_spec {p : Int} {n : Nat} {f : Nat → Int} (hn : n ≤ 8) (h : shapeH p n f = true) : dotF n f (coF f) = dotF 8 (coF f) f :=
  dot_full hn fun k h1 h2 => by have := (al_unit h k h2).2; omega
/-! ### axioms 6 and 7 -/
def apS (p : Int) (n : Nat) (f S : Nat → Int) (beh : Bool) (i : Nat) : Bool := segEq 0 8 (fdK p n f S beh i n 0) (addm p 0 8 (coF f i) zf f)
def apB (p : Int) (n : Nat) (f S : Nat → Int) (beh : Bool) : Bool := (List.range n).all (apS p n f S beh)
theorem cvK_at (p : Int) (n : Nat) (A C F G : Nat → Int) (i t : Nat) (hi : i < n) (ht : t < 8) : cvK p n n A C F G n 0 (i * 8 + t) = cvR p n A C F G i n t := by
  unfold cvK
  rw [if_pos (by omega), show (i * 8 + t) / 8 = i by omega, show (i * 8 + t) % 8 = t by omega]
theorem cvK_past (p : Int) (n : Nat) (A C F G : Nat → Int) (i t : Nat) (hi : n ≤ i) (ht : t < 8) : cvK p n n A C F G n 0 (i * 8 + t) = 0 := by
  unfold cvK
  rw [if_neg (by omega)]
  split
  · simp [cvR, sumTo]
  · rfl
theorem app_id {p : Int} {n : Nat} {v : Nat → Int} {y : Nat} (hn : n ≤ 8) (hy : y < n) (h0 : 0 ≤ v y) (h1 : v y < p) : appF p 8 (fun x y => idK n (x * 8 + y)) v y = v y := by
  unfold appF
  rw [sumTo_one 8 (show y < 8 by omega) (fun j hj hne => by
    show v j * idK n (j * 8 + y) = 0
    unfold idK
    split
    · rw [show (j * 8 + y) / 8 = j by omega, show (j * 8 + y) % 8 = y by omega, ebas_ne (Ne.symm hne), Int.mul_zero]
    · rw [Int.mul_zero])]
  show v y * idK n (y * 8 + y) % p = v y
  unfold idK
  rw [if_pos (by omega), show (y * 8 + y) / 8 = y by omega, show (y * 8 + y) % 8 = y by omega, ebas_eq, Int.mul_one]
  exact Int.emod_eq_of_lt h0 h1
theorem fd_all (p : Int) (n : Nat) (f S : Nat → Int) (beh : Bool) (i t : Nat) : fdK p n f S beh i n 0 t = sumTo (fun a => sumTo (fun b => mtab (coF f) i a b * ownF p n f S beh a b t) n) n % p := by unfold fdK; rw [dsum_all]
theorem ax6_spec {p : Int} {n : Nat} {f : Nat → Int} (hn : n ≤ 8) (h : shapeH p n f = true) (hF : Bytes 1104 f) : ax6B p n f = apB p n f (anF f) false := by
  refine seg_rows hn (x := fun i => fdK p n f (anF f) false i n 0) (fun i t hi ht => ?_) (fun i t hi ht => ?_) (fun i t h1 h2 ht => ?_)
  · rw [cvK_at _ _ _ _ _ _ _ _ hi ht, fd_all]
    unfold cvR
    refine sum_mod p _ _ n fun a ha => ?_
    exact left_sum (v := mtab (coF f) i a) fun y hy => app_id hn hy (mtab_bytes (co_bytes hF) i a (by omega) (by omega) y (by omega)).1 (co_entry h i a y (by omega) (by omega) (by omega)).1
  · rw [addm_unit _ _ _ _ ht]
    unfold outF
    rw [if_pos (by omega), show (i * 8 + t) / 8 = i by omega, show (i * 8 + t) % 8 = t by omega]
  · rw [cvK_past _ _ _ _ _ _ _ _ h1 ht]
    unfold outF
    rw [if_pos (by omega), show (i * 8 + t) / 8 = i by omega, show coF f i = 0 by have := (co_unit0 h i h2).2; omega, Int.zero_mul]
    rfl
theorem ax7_spec {p : Int} {n : Nat} {f : Nat → Int} (hn : n ≤ 8) (h : shapeH p n f = true) : ax7B p n f = apB p n f (anF f) true := by
  refine seg_rows hn (x := fun i => fdK p n f (anF f) true i n 0) (fun i t hi ht => ?_) (fun i t hi ht => ?_) (fun i t h1 h2 ht => ?_)
  · rw [cvK_at _ _ _ _ _ _ _ _ hi ht, fd_all]
    unfold cvR
    refine sum_mod p _ _ n fun a ha => ?_
    refine right_sum (v := mtab (coF f) i a) (S := fun b y => anF f (b * 8 + y)) ha (fun x hx => ?_) (fun y hy => ?_)
    · unfold idK
      rw [if_pos (by omega), show (a * 8 + x) / 8 = a by omega, show (a * 8 + x) % 8 = x by omega]
    · unfold appF
      rw [Int.emod_emod, sumTo_more (n := n) (fun k h1 h2 => by have := (co_entry h i a k (by omega) (by omega) h2).2; rw [show mtab (coF f) i a k = 0 by omega, Int.zero_mul]) hn]
  · rw [addm_unit _ _ _ _ ht]
    unfold outF
    rw [if_pos (by omega), show (i * 8 + t) / 8 = i by omega, show (i * 8 + t) % 8 = t by omega]
  · rw [cvK_past _ _ _ _ _ _ _ _ h1 ht]
    unfold outF
    rw [if_pos (by omega), show (i * 8 + t) / 8 = i by omega, show coF f i = 0 by have := (co_unit0 h i h2).2; omega, Int.zero_mul]
    rfl

set_option maxRecDepth 100000 in
set_option maxHeartbeats 1000000 in
theorem l03Antipode_false (p : Int) (n : Nat) (f S : Nat → Int) (w : World) (hp : 0 < p) (hp' : p ≤ 255) (hn : n ≤ 8) (hF : Bytes 1104 f) (hS : Bytes 64 S) :
    Calls Tryz.prog 118 #[.agg (hop p n f), .agg (row 64 S), .bool false] w fun e w' => e = .returned (.bool (apB p n f S false)) ∧ Below w.heap.size w w' := by
 have HF := Lib.hid hF; clear hF
 have HS := Lib.hid hS; clear hS
 have HC : Hid (Bytes 8 (coF f)) := Lib.hid (unit_bytes (co_bytes HF.out))
 have HU : Hid (Bytes 8 f) := Lib.hid (unit_bytes (hop_bytes HF.out))
 have HZ : Hid (Bytes 8 zf) := Lib.hid fun t _ => by unfold zf; omega
 go_enter Tryz.func118, Tryz.ntmps118
 go_wp2
 refine atomW fun W1 e1 => ?_
 have hb1 : Below w.heap.size w W1 := by rw [e1]; exact bt
 have q1 := hb1.size
 have R1 : IsRow W1 (w.heap.size) ∧ IsRow W1 (w.heap.size + 1) := by rw [e1]; simp [go_sem]
 obtain ⟨r3_1, r4_1⟩ := R1
 have C1 := (⟨congrArg (blk · (w.heap.size)) e1, congrArg (blk · (w.heap.size + 1)) e1⟩ : _ ∧ _); simp [go_sem] at C1
 obtain ⟨c3_1, c4_1⟩ := C1
 have z3_1 := isRow_lt r3_1; have z4_1 := isRow_lt r4_1
 clear e1
 go_loopw [7] (fun s7 wr => ∃ i : Nat, i ≤ n ∧ s7 = .int .i64 i ∧ Below w.heap.size w wr ∧ (IsRow wr (w.heap.size) ∧ blk wr (w.heap.size) = blk W1 (w.heap.size)) ∧ (IsRow wr (w.heap.size + 1) ∧ blk wr (w.heap.size + 1) = blk W1 (w.heap.size + 1)) ∧ ∀ a, a < i → apS p n f S false a = true) (fun s7 _ => n - (intOf s7).toNat)
 case atStart => exact ⟨0, by omega, rfl, hb1, ⟨r3_1, rfl⟩, ⟨r4_1, rfl⟩, fun a ha => by omega⟩
 case round =>
  obtain ⟨i, hle2, rfl, hb2, ⟨r3_2, c3_2⟩, ⟨r4_2, c4_2⟩, hx2⟩ := hrel
  obtain ⟨W2, rfl⟩ : ∃ W2 : World, W2 = wr := ⟨_, rfl⟩
  have q2 := hb2.size
  have HX2 := Lib.hid hx2; clear hx2
  have E3_2 := Lib.hid c3_1; replace c3_2 := c3_2.trans c3_1
  have z3_2 := isRow_lt r3_2
  have E4_2 := Lib.hid c4_1; replace c4_2 := c4_2.trans c4_1
  have z4_2 := isRow_lt r4_2
  clear r3_1 c3_1 z3_1 r4_1 c4_1 z4_1 hb1
  by_cases hlt2 : i < n
  ·
   have i0_2 : (0 : Int) ≤ (i : Int) := by omega
   have i8_2 : (i : Int) < 8 := by omega
   have k8_2 : i < 8 := by omega
   have m8_2 : i * 8 + 8 ≤ 64 := by omega
   have m64_2 : i * 64 + 64 ≤ 512 := by omega
   have l1_2 : 10 + i * 64 + 64 ≤ 522 := by omega
   cases h0 : apS p n f S false i
   ·
    have e7 := hop_cq p n f i (by omega)
    have b1 := (HC.out i (by omega)).1; have b2 := (HC.out i (by omega)).2
    have q1 : IntKind.i64.wrap (coF f i) = coF f i := IntWalk.i64_in _ (by omega)
    have h1 : segEq 0 8 (fdK p n f S false i n 0) (addm p 0 8 (coF f i) zf f) = false := h0
    have H : Hid (apB p n f S false = false) := Lib.hid (all_no (q := apS p n f S false) i n (by omega) h0)
    go_wp2
    refine wp_quiet_all (Below W2.heap.size W2) (by kernel_rfl) (by kernel_rfl) (Below.refl _ _).drew ?_
    iterate 4 (refine q_plain rfl ?_; apply Exists.intro; refine ⟨fun W hW => ?_, ?_⟩; (focus (obtain ⟨x3, y3⟩ := keepB hW z3_2 r3_2 c3_2; obtain ⟨x4, y4⟩ := keepB hW z4_2 r4_2 c4_2; go_simp; first | done | rfl)); simp only [Act.put, List.setIfInBounds_toArray, List.set_cons_zero, List.set_cons_succ])
    (refine q_plain rfl ?_; apply Exists.intro; refine ⟨fun W hW => ?_, ?_⟩; (focus (obtain ⟨x3, y3⟩ := keepB hW z3_2 r3_2 c3_2; obtain ⟨x4, y4⟩ := keepB hW z4_2 r4_2 c4_2; go_simp; (go_at_call 153; exact (l03Folded_false p n f S i _ hp hp' hn (by omega) HF.out HS.out).mono fun e w2 ⟨he, hw2⟩ => ⟨he, hW.trans (hw2.mono hW.size)⟩))); simp only [Act.put, List.setIfInBounds_toArray, List.set_cons_zero, List.set_cons_succ])
    iterate 10 (refine q_plain rfl ?_; apply Exists.intro; refine ⟨fun W hW => ?_, ?_⟩; (focus (obtain ⟨x3, y3⟩ := keepB hW z3_2 r3_2 c3_2; obtain ⟨x4, y4⟩ := keepB hW z4_2 r4_2 c4_2; go_simp; first | done | rfl)); simp only [Act.put, List.setIfInBounds_toArray, List.set_cons_zero, List.set_cons_succ])
    (refine q_plain rfl ?_; apply Exists.intro; refine ⟨fun W hW => ?_, ?_⟩; (focus (obtain ⟨x3, y3⟩ := keepB hW z3_2 r3_2 c3_2; obtain ⟨x4, y4⟩ := keepB hW z4_2 r4_2 c4_2; go_simp; (go_at_call 66; exact (l01Add_any _ _ _ _ _ hp hp' (by omega) (by omega) HZ.out HU.out).mono fun e w2 ⟨he, hw2⟩ => ⟨he, hW.trans (hw2.mono hW.size)⟩))); simp only [Act.put, List.setIfInBounds_toArray, List.set_cons_zero, List.set_cons_succ])
    iterate 1 (refine q_plain rfl ?_; apply Exists.intro; refine ⟨fun W hW => ?_, ?_⟩; (focus (obtain ⟨x3, y3⟩ := keepB hW z3_2 r3_2 c3_2; obtain ⟨x4, y4⟩ := keepB hW z4_2 r4_2 c4_2; go_simp; first | done | rfl)); simp only [Act.put, List.setIfInBounds_toArray, List.set_cons_zero, List.set_cons_succ])
    refine wpQuiet_nil ?_
    intro W3 hw3
    obtain ⟨r3_3, c3_3, z3_3⟩ := keepZ hw3 z3_2 r3_2 c3_2
    obtain ⟨r4_3, c4_3, z4_3⟩ := keepZ hw3 z4_2 r4_2 c4_2
    obtain ⟨hb3, q3⟩ := bN hb2 hw3
    clear hw3 r3_2 c3_2 z3_2 r4_2 c4_2 z4_2 hb2
    go_wp2_with fail
    go_ret
    exact ⟨ret_bool (by rw [H.out] <;> rfl), bt⟩
   ·
    have e7 := hop_cq p n f i (by omega)
    have b1 := (HC.out i (by omega)).1; have b2 := (HC.out i (by omega)).2
    have q1 : IntKind.i64.wrap (coF f i) = coF f i := IntWalk.i64_in _ (by omega)
    have h1 : segEq 0 8 (fdK p n f S false i n 0) (addm p 0 8 (coF f i) zf f) = true := h0
    have H := Lib.hid (upto_more (q := apS p n f S false) HX2.out h0)
    go_wp2
    refine wp_quiet_all (Below W2.heap.size W2) (by kernel_rfl) (by kernel_rfl) (Below.refl _ _).drew ?_
    iterate 4 (refine q_plain rfl ?_; apply Exists.intro; refine ⟨fun W hW => ?_, ?_⟩; (focus (obtain ⟨x3, y3⟩ := keepB hW z3_2 r3_2 c3_2; obtain ⟨x4, y4⟩ := keepB hW z4_2 r4_2 c4_2; go_simp; first | done | rfl)); simp only [Act.put, List.setIfInBounds_toArray, List.set_cons_zero, List.set_cons_succ])
    (refine q_plain rfl ?_; apply Exists.intro; refine ⟨fun W hW => ?_, ?_⟩; (focus (obtain ⟨x3, y3⟩ := keepB hW z3_2 r3_2 c3_2; obtain ⟨x4, y4⟩ := keepB hW z4_2 r4_2 c4_2; go_simp; (go_at_call 153; exact (l03Folded_false p n f S i _ hp hp' hn (by omega) HF.out HS.out).mono fun e w2 ⟨he, hw2⟩ => ⟨he, hW.trans (hw2.mono hW.size)⟩))); simp only [Act.put, List.setIfInBounds_toArray, List.set_cons_zero, List.set_cons_succ])
    iterate 10 (refine q_plain rfl ?_; apply Exists.intro; refine ⟨fun W hW => ?_, ?_⟩; (focus (obtain ⟨x3, y3⟩ := keepB hW z3_2 r3_2 c3_2; obtain ⟨x4, y4⟩ := keepB hW z4_2 r4_2 c4_2; go_simp; first | done | rfl)); simp only [Act.put, List.setIfInBounds_toArray, List.set_cons_zero, List.set_cons_succ])
    (refine q_plain rfl ?_; apply Exists.intro; refine ⟨fun W hW => ?_, ?_⟩; (focus (obtain ⟨x3, y3⟩ := keepB hW z3_2 r3_2 c3_2; obtain ⟨x4, y4⟩ := keepB hW z4_2 r4_2 c4_2; go_simp; (go_at_call 66; exact (l01Add_any _ _ _ _ _ hp hp' (by omega) (by omega) HZ.out HU.out).mono fun e w2 ⟨he, hw2⟩ => ⟨he, hW.trans (hw2.mono hW.size)⟩))); simp only [Act.put, List.setIfInBounds_toArray, List.set_cons_zero, List.set_cons_succ])
    iterate 1 (refine q_plain rfl ?_; apply Exists.intro; refine ⟨fun W hW => ?_, ?_⟩; (focus (obtain ⟨x3, y3⟩ := keepB hW z3_2 r3_2 c3_2; obtain ⟨x4, y4⟩ := keepB hW z4_2 r4_2 c4_2; go_simp; first | done | rfl)); simp only [Act.put, List.setIfInBounds_toArray, List.set_cons_zero, List.set_cons_succ])
    refine wpQuiet_nil ?_
    intro W4 hw4
    obtain ⟨r3_4, c3_4, z3_4⟩ := keepZ hw4 z3_2 r3_2 c3_2
    obtain ⟨r4_4, c4_4, z4_4⟩ := keepZ hw4 z4_2 r4_2 c4_2
    obtain ⟨hb4, q4⟩ := bN hb2 hw4
    clear hw4 r3_2 c3_2 z3_2 r4_2 c4_2 z4_2 hb2
    go_wp2
    go_roundw
    case rel => exact ⟨i + 1, by omega, by go_num, bt, ⟨by simp [go_sem, r3_4, c3_4, r4_4, c4_4], (by rw [E3_2.out]; first | exact c3_4 | (simp [go_sem, r3_4, c3_4, r4_4, c4_4]; done))⟩, ⟨by simp [go_sem, r3_4, c3_4, r4_4, c4_4], (by rw [E4_2.out]; first | exact c4_4 | (simp [go_sem, r3_4, c3_4, r4_4, c4_4]; done))⟩, H.out⟩
    case measure => simp [intOf]; try omega
  ·
   obtain rfl : n = i := by omega
   have H : Hid (apB p n f S false = true) := Lib.hid (all_yes (q := apS p n f S false) n fun a ha => HX2.out a ha)
   go_wp2_with fail
   go_ret
   exact ⟨ret_bool (by rw [H.out] <;> rfl), bt⟩

set_option maxRecDepth 100000 in
set_option maxHeartbeats 1000000 in
theorem l03Antipode_true (p : Int) (n : Nat) (f S : Nat → Int) (w : World) (hp : 0 < p) (hp' : p ≤ 255) (hn : n ≤ 8) (hF : Bytes 1104 f) (hS : Bytes 64 S) :
    Calls Tryz.prog 118 #[.agg (hop p n f), .agg (row 64 S), .bool true] w fun e w' => e = .returned (.bool (apB p n f S true)) ∧ Below w.heap.size w w' := by
 have HF := Lib.hid hF; clear hF
 have HS := Lib.hid hS; clear hS
 have HC : Hid (Bytes 8 (coF f)) := Lib.hid (unit_bytes (co_bytes HF.out))
 have HU : Hid (Bytes 8 f) := Lib.hid (unit_bytes (hop_bytes HF.out))
 have HZ : Hid (Bytes 8 zf) := Lib.hid fun t _ => by unfold zf; omega
 go_enter Tryz.func118, Tryz.ntmps118
 go_wp2
 refine atomW fun W1 e1 => ?_
 have hb1 : Below w.heap.size w W1 := by rw [e1]; exact bt
 have q1 := hb1.size
 have R1 : IsRow W1 (w.heap.size) ∧ IsRow W1 (w.heap.size + 1) := by rw [e1]; simp [go_sem]
 obtain ⟨r3_1, r4_1⟩ := R1
 have C1 := (⟨congrArg (blk · (w.heap.size)) e1, congrArg (blk · (w.heap.size + 1)) e1⟩ : _ ∧ _); simp [go_sem] at C1
 obtain ⟨c3_1, c4_1⟩ := C1
 have z3_1 := isRow_lt r3_1; have z4_1 := isRow_lt r4_1
 clear e1
 go_loopw [7] (fun s7 wr => ∃ i : Nat, i ≤ n ∧ s7 = .int .i64 i ∧ Below w.heap.size w wr ∧ (IsRow wr (w.heap.size) ∧ blk wr (w.heap.size) = blk W1 (w.heap.size)) ∧ (IsRow wr (w.heap.size + 1) ∧ blk wr (w.heap.size + 1) = blk W1 (w.heap.size + 1)) ∧ ∀ a, a < i → apS p n f S true a = true) (fun s7 _ => n - (intOf s7).toNat)
 case atStart => exact ⟨0, by omega, rfl, hb1, ⟨r3_1, rfl⟩, ⟨r4_1, rfl⟩, fun a ha => by omega⟩
 case round =>
  obtain ⟨i, hle2, rfl, hb2, ⟨r3_2, c3_2⟩, ⟨r4_2, c4_2⟩, hx2⟩ := hrel
  obtain ⟨W2, rfl⟩ : ∃ W2 : World, W2 = wr := ⟨_, rfl⟩
  have q2 := hb2.size
  have HX2 := Lib.hid hx2; clear hx2
  have E3_2 := Lib.hid c3_1; replace c3_2 := c3_2.trans c3_1
  have z3_2 := isRow_lt r3_2
  have E4_2 := Lib.hid c4_1; replace c4_2 := c4_2.trans c4_1
  have z4_2 := isRow_lt r4_2
  clear r3_1 c3_1 z3_1 r4_1 c4_1 z4_1 hb1
  by_cases hlt2 : i < n
  ·
   have i0_2 : (0 : Int) ≤ (i : Int) := by omega
   have i8_2 : (i : Int) < 8 := by omega
   have k8_2 : i < 8 := by omega
   have m8_2 : i * 8 + 8 ≤ 64 := by omega
   have m64_2 : i * 64 + 64 ≤ 512 := by omega
   have l1_2 : 10 + i * 64 + 64 ≤ 522 := by omega
   cases h0 : apS p n f S true i
   ·
    have e7 := hop_cq p n f i (by omega)
    have b1 := (HC.out i (by omega)).1; have b2 := (HC.out i (by omega)).2
    have q1 : IntKind.i64.wrap (coF f i) = coF f i := IntWalk.i64_in _ (by omega)
    have h1 : segEq 0 8 (fdK p n f S true i n 0) (addm p 0 8 (coF f i) zf f) = false := h0
    have H : Hid (apB p n f S true = false) := Lib.hid (all_no (q := apS p n f S true) i n (by omega) h0)
    go_wp2
    refine wp_quiet_all (Below W2.heap.size W2) (by kernel_rfl) (by kernel_rfl) (Below.refl _ _).drew ?_
    iterate 4 (refine q_plain rfl ?_; apply Exists.intro; refine ⟨fun W hW => ?_, ?_⟩; (focus (obtain ⟨x3, y3⟩ := keepB hW z3_2 r3_2 c3_2; obtain ⟨x4, y4⟩ := keepB hW z4_2 r4_2 c4_2; go_simp; first | done | rfl)); simp only [Act.put, List.setIfInBounds_toArray, List.set_cons_zero, List.set_cons_succ])
    (refine q_plain rfl ?_; apply Exists.intro; refine ⟨fun W hW => ?_, ?_⟩; (focus (obtain ⟨x3, y3⟩ := keepB hW z3_2 r3_2 c3_2; obtain ⟨x4, y4⟩ := keepB hW z4_2 r4_2 c4_2; go_simp; (go_at_call 153; exact (l03Folded_true p n f S i _ hp hp' hn (by omega) HF.out HS.out).mono fun e w2 ⟨he, hw2⟩ => ⟨he, hW.trans (hw2.mono hW.size)⟩))); simp only [Act.put, List.setIfInBounds_toArray, List.set_cons_zero, List.set_cons_succ])
    iterate 10 (refine q_plain rfl ?_; apply Exists.intro; refine ⟨fun W hW => ?_, ?_⟩; (focus (obtain ⟨x3, y3⟩ := keepB hW z3_2 r3_2 c3_2; obtain ⟨x4, y4⟩ := keepB hW z4_2 r4_2 c4_2; go_simp; first | done | rfl)); simp only [Act.put, List.setIfInBounds_toArray, List.set_cons_zero, List.set_cons_succ])
    (refine q_plain rfl ?_; apply Exists.intro; refine ⟨fun W hW => ?_, ?_⟩; (focus (obtain ⟨x3, y3⟩ := keepB hW z3_2 r3_2 c3_2; obtain ⟨x4, y4⟩ := keepB hW z4_2 r4_2 c4_2; go_simp; (go_at_call 66; exact (l01Add_any _ _ _ _ _ hp hp' (by omega) (by omega) HZ.out HU.out).mono fun e w2 ⟨he, hw2⟩ => ⟨he, hW.trans (hw2.mono hW.size)⟩))); simp only [Act.put, List.setIfInBounds_toArray, List.set_cons_zero, List.set_cons_succ])
    iterate 1 (refine q_plain rfl ?_; apply Exists.intro; refine ⟨fun W hW => ?_, ?_⟩; (focus (obtain ⟨x3, y3⟩ := keepB hW z3_2 r3_2 c3_2; obtain ⟨x4, y4⟩ := keepB hW z4_2 r4_2 c4_2; go_simp; first | done | rfl)); simp only [Act.put, List.setIfInBounds_toArray, List.set_cons_zero, List.set_cons_succ])
    refine wpQuiet_nil ?_
    intro W3 hw3
    obtain ⟨r3_3, c3_3, z3_3⟩ := keepZ hw3 z3_2 r3_2 c3_2
    obtain ⟨r4_3, c4_3, z4_3⟩ := keepZ hw3 z4_2 r4_2 c4_2
    obtain ⟨hb3, q3⟩ := bN hb2 hw3
    clear hw3 r3_2 c3_2 z3_2 r4_2 c4_2 z4_2 hb2
    go_wp2_with fail
    go_ret
    exact ⟨ret_bool (by rw [H.out] <;> rfl), bt⟩
   ·
    have e7 := hop_cq p n f i (by omega)
    have b1 := (HC.out i (by omega)).1; have b2 := (HC.out i (by omega)).2
    have q1 : IntKind.i64.wrap (coF f i) = coF f i := IntWalk.i64_in _ (by omega)
    have h1 : segEq 0 8 (fdK p n f S true i n 0) (addm p 0 8 (coF f i) zf f) = true := h0
    have H := Lib.hid (upto_more (q := apS p n f S true) HX2.out h0)
    go_wp2
    refine wp_quiet_all (Below W2.heap.size W2) (by kernel_rfl) (by kernel_rfl) (Below.refl _ _).drew ?_
    iterate 4 (refine q_plain rfl ?_; apply Exists.intro; refine ⟨fun W hW => ?_, ?_⟩; (focus (obtain ⟨x3, y3⟩ := keepB hW z3_2 r3_2 c3_2; obtain ⟨x4, y4⟩ := keepB hW z4_2 r4_2 c4_2; go_simp; first | done | rfl)); simp only [Act.put, List.setIfInBounds_toArray, List.set_cons_zero, List.set_cons_succ])
    (refine q_plain rfl ?_; apply Exists.intro; refine ⟨fun W hW => ?_, ?_⟩; (focus (obtain ⟨x3, y3⟩ := keepB hW z3_2 r3_2 c3_2; obtain ⟨x4, y4⟩ := keepB hW z4_2 r4_2 c4_2; go_simp; (go_at_call 153; exact (l03Folded_true p n f S i _ hp hp' hn (by omega) HF.out HS.out).mono fun e w2 ⟨he, hw2⟩ => ⟨he, hW.trans (hw2.mono hW.size)⟩))); simp only [Act.put, List.setIfInBounds_toArray, List.set_cons_zero, List.set_cons_succ])
    iterate 10 (refine q_plain rfl ?_; apply Exists.intro; refine ⟨fun W hW => ?_, ?_⟩; (focus (obtain ⟨x3, y3⟩ := keepB hW z3_2 r3_2 c3_2; obtain ⟨x4, y4⟩ := keepB hW z4_2 r4_2 c4_2; go_simp; first | done | rfl)); simp only [Act.put, List.setIfInBounds_toArray, List.set_cons_zero, List.set_cons_succ])
    (refine q_plain rfl ?_; apply Exists.intro; refine ⟨fun W hW => ?_, ?_⟩; (focus (obtain ⟨x3, y3⟩ := keepB hW z3_2 r3_2 c3_2; obtain ⟨x4, y4⟩ := keepB hW z4_2 r4_2 c4_2; go_simp; (go_at_call 66; exact (l01Add_any _ _ _ _ _ hp hp' (by omega) (by omega) HZ.out HU.out).mono fun e w2 ⟨he, hw2⟩ => ⟨he, hW.trans (hw2.mono hW.size)⟩))); simp only [Act.put, List.setIfInBounds_toArray, List.set_cons_zero, List.set_cons_succ])
    iterate 1 (refine q_plain rfl ?_; apply Exists.intro; refine ⟨fun W hW => ?_, ?_⟩; (focus (obtain ⟨x3, y3⟩ := keepB hW z3_2 r3_2 c3_2; obtain ⟨x4, y4⟩ := keepB hW z4_2 r4_2 c4_2; go_simp; first | done | rfl)); simp only [Act.put, List.setIfInBounds_toArray, List.set_cons_zero, List.set_cons_succ])
    refine wpQuiet_nil ?_
    intro W4 hw4
    obtain ⟨r3_4, c3_4, z3_4⟩ := keepZ hw4 z3_2 r3_2 c3_2
    obtain ⟨r4_4, c4_4, z4_4⟩ := keepZ hw4 z4_2 r4_2 c4_2
    obtain ⟨hb4, q4⟩ := bN hb2 hw4
    clear hw4 r3_2 c3_2 z3_2 r4_2 c4_2 z4_2 hb2
    go_wp2
    go_roundw
    case rel => exact ⟨i + 1, by omega, by go_num, bt, ⟨by simp [go_sem, r3_4, c3_4, r4_4, c4_4], (by rw [E3_2.out]; first | exact c3_4 | (simp [go_sem, r3_4, c3_4, r4_4, c4_4]; done))⟩, ⟨by simp [go_sem, r3_4, c3_4, r4_4, c4_4], (by rw [E4_2.out]; first | exact c4_4 | (simp [go_sem, r3_4, c3_4, r4_4, c4_4]; done))⟩, H.out⟩
    case measure => simp [intOf]; try omega
  ·
   obtain rfl : n = i := by omega
   have H : Hid (apB p n f S true = true) := Lib.hid (all_yes (q := apS p n f S true) n fun a ha => HX2.out a ha)
   go_wp2_with fail
   go_ret
   exact ⟨ret_bool (by rw [H.out] <;> rfl), bt⟩
end
section
open Go.RowKit
set_option linter.unusedSimpArgs false
set_option linter.unusedVariables false
attribute [local irreducible] wpQuiet wpQE

/-- the number of the first of the axioms 1 to 5 that fails, or 0 -/
def biN (p : Int) (n : Nat) (f : Nat → Int) : Int := axN [algB p n f, coB p n (coF f), ax3B p n f, ax4B p f, ax5B p n f] 1
theorem axN_app (l' : List Bool) : ∀ (l : List Bool) (k : Int), 0 < k → axN (l ++ l') k = if axN l k = 0 then axN l' (k + l.length) else axN l k
  | [], k, _ => by simp [axN]
  | false :: l, k, h => by
    show k = if k = 0 then _ else k
    rw [if_neg (by omega)]
  | true :: l, k, h => by
    show axN (l ++ l') (k + 1) = if axN l (k + 1) = 0 then axN l' (k + (l.length + 1 : Nat)) else axN l (k + 1)
    rw [axN_app l' l (k + 1) (by omega), show k + 1 + (l.length : Int) = k + ((l.length + 1 : Nat) : Int) by omega]
theorem fail_app (p : Int) (n : Nat) (f : Nat → Int) : failN p n f = if biN p n f = 0 then axN [ax6B p n f, ax7B p n f] 6 else biN p n f := axN_app [ax6B p n f, ax7B p n f] [algB p n f, coB p n (coF f), ax3B p n f, ax4B p f, ax5B p n f] 1 (by omega)
theorem bi1 {p : Int} {n : Nat} {f : Nat → Int} (h1 : algB p n f = false) : biN p n f = 1 := by unfold biN; rw [h1]; rfl
theorem bi2 {p : Int} {n : Nat} {f : Nat → Int} (h1 : algB p n f = true) (h2 : coB p n (coF f) = false) : biN p n f = 2 := by unfold biN; rw [h1, h2]; rfl
theorem bi3 {p : Int} {n : Nat} {f : Nat → Int} (h1 : algB p n f = true) (h2 : coB p n (coF f) = true) (h3 : ax3B p n f = false) : biN p n f = 3 := by unfold biN; rw [h1, h2, h3]; rfl
theorem bi4 {p : Int} {n : Nat} {f : Nat → Int} (h1 : algB p n f = true) (h2 : coB p n (coF f) = true) (h3 : ax3B p n f = true) (h4 : ax4B p f = false) : biN p n f = 4 := by unfold biN; rw [h1, h2, h3, h4]; rfl
theorem bi5 {p : Int} {n : Nat} {f : Nat → Int} (h1 : algB p n f = true) (h2 : coB p n (coF f) = true) (h3 : ax3B p n f = true) (h4 : ax4B p f = true) (h5 : ax5B p n f = false) : biN p n f = 5 := by unfold biN; rw [h1, h2, h3, h4, h5]; rfl
theorem bi0 {p : Int} {n : Nat} {f : Nat → Int} (h1 : algB p n f = true) (h2 : coB p n (coF f) = true) (h3 : ax3B p n f = true) (h4 : ax4B p f = true) (h5 : ax5B p n f = true) : biN p n f = 0 := by unfold biN; rw [h1, h2, h3, h4, h5]; rfl

set_option maxRecDepth 100000 in
set_option maxHeartbeats 8000000 in
theorem l03Bialgebra_any (p : Int) (n : Nat) (f : Nat → Int) (w : World) (hp : 0 < p) (hp' : p ≤ 255) (hn : n ≤ 8) (hF : Bytes 1104 f) (hs : shapeH p n f = true) :
    Calls Tryz.prog 117 #[.agg (hop p n f)] w fun e w' => e = .returned (.int .i64 (biN p n f)) ∧ Below w.heap.size w w' := by
 have HF := Lib.hid hF; clear hF
 have Hs := Lib.hid hs; clear hs
 have HC : Hid (Bytes 8 (coF f)) := Lib.hid (unit_bytes (co_bytes HF.out))
 have HU : Hid (Bytes 8 f) := Lib.hid (unit_bytes (hop_bytes HF.out))
 have HZ : Hid (Bytes 8 zf) := Lib.hid fun t _ => by unfold zf; omega
 have hp0 : ¬ p = 0 := by omega
 cases ha : algB p n f
 ·
  have H := Lib.hid (bi1 (n := n) ha)
  go_enter Tryz.func117, Tryz.ntmps117
  go_wp2
  refine atomW fun W1 e1 => ?_
  have hb1 : Below w.heap.size w W1 := by rw [e1]; exact bt
  have q1 := hb1.size
  have r1_1 : IsRow W1 (w.heap.size) := by rw [e1]; simp [go_sem]
  have c1_1 := congrArg (fun x => blk x (w.heap.size)) e1; simp [go_sem] at c1_1
  have z1_1 := isRow_lt r1_1
  clear e1
  refine wp_quiet_made1 4 6 _ (alg 0 0 zf) 131 (by kernel_rfl) rfl rfl (by omega) (by kernel_rfl) (fun a W => (xallocAlg _ _ _ _ _ _ _).trans (allocAlg W)) ?_
  simp only [List.take_succ_cons, List.take_zero, List.drop_succ_cons, List.drop_zero, List.eraseIdx_cons_succ, List.eraseIdx_cons_zero]
  iterate 3 (refine e_plain rfl ?_; apply Exists.intro; refine ⟨fun D hD hK W hW => ?_, ?_⟩; (focus (obtain ⟨x1, y1⟩ := keepB (hD W hW) z1_1 r1_1 c1_1; unfold Oper.quietAt; go_simp; first | done | rfl)); simp only [Act.put, List.setIfInBounds_toArray, List.set_cons_zero, List.set_cons_succ])
  (refine e_plain rfl ?_; apply Exists.intro; refine ⟨fun D hD hK W hW => ?_, ?_⟩; (focus (obtain ⟨x1, y1⟩ := keepB (hD W hW) z1_1 r1_1 c1_1; unfold Oper.quietAt; go_simp; (go_at_call 86; exact (l03Algebra_any _ _ _ _).mono fun e w2 ⟨he, hw2⟩ => ⟨he, hK _ _ hW hw2⟩))); simp only [Act.put, List.setIfInBounds_toArray, List.set_cons_zero, List.set_cons_succ])
  iterate 1 (refine e_plain rfl ?_; apply Exists.intro; refine ⟨fun D hD hK W hW => ?_, ?_⟩; (focus (obtain ⟨x1, y1⟩ := keepB (hD W hW) z1_1 r1_1 c1_1; unfold Oper.quietAt; go_simp; first | done | rfl)); simp only [Act.put, List.setIfInBounds_toArray, List.set_cons_zero, List.set_cons_succ])
  refine e_nil ?_
  intro a2 W2 hW2
  obtain ⟨hw2, hl2, m1_2, m2_2⟩ := hW2
  have n1_4 : (w.heap.size) ≠ (a2) := by have := z1_1; omega
  have n4_1 : (a2) ≠ (w.heap.size) := by have := z1_1; omega
  obtain ⟨r1_2, c1_2, z1_2⟩ := keepZ hw2 z1_1 r1_1 c1_1
  obtain ⟨hb2, q2⟩ := bN hb1 hw2
  clear hw2 r1_1 c1_1 z1_1 hb1
  have z4_2 := isRow_lt m1_2
  simp only [Act.put, List.setIfInBounds_toArray, List.set_cons_zero, List.set_cons_succ]
  go_wp2_with fail
  refine atomC fun W3 e3 => ?_
  have hb3 : Below w.heap.size w W3 := by rw [e3]; exact bt
  have q3 := hb3.size
  have r1_3 : IsRow W3 (w.heap.size) := by rw [e3]; simp [go_sem, r1_2, c1_2, n1_4, m1_2]
  have c1_3 := congrArg (fun x => blk x (w.heap.size)) e3; simp [go_sem, r1_2, c1_2, n1_4, m1_2] at c1_3
  have z1_3 := isRow_lt r1_3
  clear e3 r1_2 c1_2 z1_2 hb2
  refine (l01Is_any _ _ _ _ (hop_bytes HF.out)).mono ?_; rintro _ W4 ⟨rfl, hw4⟩
  obtain ⟨r1_4, c1_4, z1_4⟩ := keepZ hw4 z1_3 r1_3 c1_3
  obtain ⟨hb4, q4⟩ := bN hb3 hw4
  clear hw4 r1_3 c1_3 z1_3 hb3
  go_wp2_with fail
  go_ret
  exact ⟨ret_int (by rw [H.out]), bt⟩
 ·
  cases hc : coB p n (coF f)
  ·
   have H := Lib.hid (bi2 (n := n) ha hc)
   go_enter Tryz.func117, Tryz.ntmps117
   go_wp2
   refine atomW fun W5 e5 => ?_
   have hb5 : Below w.heap.size w W5 := by rw [e5]; exact bt
   have q5 := hb5.size
   have r1_5 : IsRow W5 (w.heap.size) := by rw [e5]; simp [go_sem]
   have c1_5 := congrArg (fun x => blk x (w.heap.size)) e5; simp [go_sem] at c1_5
   have z1_5 := isRow_lt r1_5
   clear e5
   refine wp_quiet_made1 4 6 _ (alg 0 0 zf) 131 (by kernel_rfl) rfl rfl (by omega) (by kernel_rfl) (fun a W => (xallocAlg _ _ _ _ _ _ _).trans (allocAlg W)) ?_
   simp only [List.take_succ_cons, List.take_zero, List.drop_succ_cons, List.drop_zero, List.eraseIdx_cons_succ, List.eraseIdx_cons_zero]
   iterate 3 (refine e_plain rfl ?_; apply Exists.intro; refine ⟨fun D hD hK W hW => ?_, ?_⟩; (focus (obtain ⟨x1, y1⟩ := keepB (hD W hW) z1_5 r1_5 c1_5; unfold Oper.quietAt; go_simp; first | done | rfl)); simp only [Act.put, List.setIfInBounds_toArray, List.set_cons_zero, List.set_cons_succ])
   (refine e_plain rfl ?_; apply Exists.intro; refine ⟨fun D hD hK W hW => ?_, ?_⟩; (focus (obtain ⟨x1, y1⟩ := keepB (hD W hW) z1_5 r1_5 c1_5; unfold Oper.quietAt; go_simp; (go_at_call 86; exact (l03Algebra_any _ _ _ _).mono fun e w2 ⟨he, hw2⟩ => ⟨he, hK _ _ hW hw2⟩))); simp only [Act.put, List.setIfInBounds_toArray, List.set_cons_zero, List.set_cons_succ])
   iterate 1 (refine e_plain rfl ?_; apply Exists.intro; refine ⟨fun D hD hK W hW => ?_, ?_⟩; (focus (obtain ⟨x1, y1⟩ := keepB (hD W hW) z1_5 r1_5 c1_5; unfold Oper.quietAt; go_simp; first | done | rfl)); simp only [Act.put, List.setIfInBounds_toArray, List.set_cons_zero, List.set_cons_succ])
   refine e_nil ?_
   intro a6 W6 hW6
   obtain ⟨hw6, hl6, m1_6, m2_6⟩ := hW6
   have n1_4 : (w.heap.size) ≠ (a6) := by have := z1_5; omega
   have n4_1 : (a6) ≠ (w.heap.size) := by have := z1_5; omega
   obtain ⟨r1_6, c1_6, z1_6⟩ := keepZ hw6 z1_5 r1_5 c1_5
   obtain ⟨hb6, q6⟩ := bN hb5 hw6
   clear hw6 r1_5 c1_5 z1_5 hb5
   have z4_6 := isRow_lt m1_6
   simp only [Act.put, List.setIfInBounds_toArray, List.set_cons_zero, List.set_cons_succ]
   go_wp2_with fail
   refine atomC fun W7 e7 => ?_
   have hb7 : Below w.heap.size w W7 := by rw [e7]; exact bt
   have q7 := hb7.size
   have r1_7 : IsRow W7 (w.heap.size) := by rw [e7]; simp [go_sem, r1_6, c1_6, n1_4, m1_6]
   have c1_7 := congrArg (fun x => blk x (w.heap.size)) e7; simp [go_sem, r1_6, c1_6, n1_4, m1_6] at c1_7
   have z1_7 := isRow_lt r1_7
   clear e7 r1_6 c1_6 z1_6 hb6
   refine (l01Is_any _ _ _ _ (hop_bytes HF.out)).mono ?_; rintro _ W8 ⟨rfl, hw8⟩
   obtain ⟨r1_8, c1_8, z1_8⟩ := keepZ hw8 z1_7 r1_7 c1_7
   obtain ⟨hb8, q8⟩ := bN hb7 hw8
   clear hw8 r1_7 c1_7 z1_7 hb7
   go_wp2_with fail
   refine (l03Coalgebra_any _ _ _ _).mono ?_; rintro _ W9 ⟨rfl, hw9⟩
   obtain ⟨r1_9, c1_9, z1_9⟩ := keepZ hw9 z1_8 r1_8 c1_8
   obtain ⟨hb9, q9⟩ := bN hb8 hw9
   clear hw9 r1_8 c1_8 z1_8 hb8
   go_wp2_with fail
   refine (l02Is_any _ _ _ _ (co_bytes HF.out)).mono ?_; rintro _ W10 ⟨rfl, hw10⟩
   obtain ⟨r1_10, c1_10, z1_10⟩ := keepZ hw10 z1_9 r1_9 c1_9
   obtain ⟨hb10, q10⟩ := bN hb9 hw10
   clear hw10 r1_9 c1_9 z1_9 hb9
   go_wp2_with fail
   go_ret
   exact ⟨ret_int (by rw [H.out]), bt⟩
  ·
   go_enter Tryz.func117, Tryz.ntmps117
   go_wp2
   refine atomW fun W11 e11 => ?_
   have hb11 : Below w.heap.size w W11 := by rw [e11]; exact bt
   have q11 := hb11.size
   have r1_11 : IsRow W11 (w.heap.size) := by rw [e11]; simp [go_sem]
   have c1_11 := congrArg (fun x => blk x (w.heap.size)) e11; simp [go_sem] at c1_11
   have z1_11 := isRow_lt r1_11
   clear e11
   refine wp_quiet_made1 4 6 _ (alg 0 0 zf) 131 (by kernel_rfl) rfl rfl (by omega) (by kernel_rfl) (fun a W => (xallocAlg _ _ _ _ _ _ _).trans (allocAlg W)) ?_
   simp only [List.take_succ_cons, List.take_zero, List.drop_succ_cons, List.drop_zero, List.eraseIdx_cons_succ, List.eraseIdx_cons_zero]
   iterate 3 (refine e_plain rfl ?_; apply Exists.intro; refine ⟨fun D hD hK W hW => ?_, ?_⟩; (focus (obtain ⟨x1, y1⟩ := keepB (hD W hW) z1_11 r1_11 c1_11; unfold Oper.quietAt; go_simp; first | done | rfl)); simp only [Act.put, List.setIfInBounds_toArray, List.set_cons_zero, List.set_cons_succ])
   (refine e_plain rfl ?_; apply Exists.intro; refine ⟨fun D hD hK W hW => ?_, ?_⟩; (focus (obtain ⟨x1, y1⟩ := keepB (hD W hW) z1_11 r1_11 c1_11; unfold Oper.quietAt; go_simp; (go_at_call 86; exact (l03Algebra_any _ _ _ _).mono fun e w2 ⟨he, hw2⟩ => ⟨he, hK _ _ hW hw2⟩))); simp only [Act.put, List.setIfInBounds_toArray, List.set_cons_zero, List.set_cons_succ])
   iterate 1 (refine e_plain rfl ?_; apply Exists.intro; refine ⟨fun D hD hK W hW => ?_, ?_⟩; (focus (obtain ⟨x1, y1⟩ := keepB (hD W hW) z1_11 r1_11 c1_11; unfold Oper.quietAt; go_simp; first | done | rfl)); simp only [Act.put, List.setIfInBounds_toArray, List.set_cons_zero, List.set_cons_succ])
   refine e_nil ?_
   intro a12 W12 hW12
   obtain ⟨hw12, hl12, m1_12, m2_12⟩ := hW12
   have n1_4 : (w.heap.size) ≠ (a12) := by have := z1_11; omega
   have n4_1 : (a12) ≠ (w.heap.size) := by have := z1_11; omega
   obtain ⟨r1_12, c1_12, z1_12⟩ := keepZ hw12 z1_11 r1_11 c1_11
   obtain ⟨hb12, q12⟩ := bN hb11 hw12
   clear hw12 r1_11 c1_11 z1_11 hb11
   have z4_12 := isRow_lt m1_12
   simp only [Act.put, List.setIfInBounds_toArray, List.set_cons_zero, List.set_cons_succ]
   go_wp2_with fail
   refine atomC fun W13 e13 => ?_
   have hb13 : Below w.heap.size w W13 := by rw [e13]; exact bt
   have q13 := hb13.size
   have r1_13 : IsRow W13 (w.heap.size) := by rw [e13]; simp [go_sem, r1_12, c1_12, n1_4, m1_12]
   have c1_13 := congrArg (fun x => blk x (w.heap.size)) e13; simp [go_sem, r1_12, c1_12, n1_4, m1_12] at c1_13
   have z1_13 := isRow_lt r1_13
   clear e13 r1_12 c1_12 z1_12 hb12
   refine (l01Is_any _ _ _ _ (hop_bytes HF.out)).mono ?_; rintro _ W14 ⟨rfl, hw14⟩
   obtain ⟨r1_14, c1_14, z1_14⟩ := keepZ hw14 z1_13 r1_13 c1_13
   obtain ⟨hb14, q14⟩ := bN hb13 hw14
   clear hw14 r1_13 c1_13 z1_13 hb13
   go_wp2_with fail
   refine (l03Coalgebra_any _ _ _ _).mono ?_; rintro _ W15 ⟨rfl, hw15⟩
   obtain ⟨r1_15, c1_15, z1_15⟩ := keepZ hw15 z1_14 r1_14 c1_14
   obtain ⟨hb15, q15⟩ := bN hb14 hw15
   clear hw15 r1_14 c1_14 z1_14 hb14
   go_wp2_with fail
   refine (l02Is_any _ _ _ _ (co_bytes HF.out)).mono ?_; rintro _ W16 ⟨rfl, hw16⟩
   obtain ⟨r1_16, c1_16, z1_16⟩ := keepZ hw16 z1_15 r1_15 c1_15
   obtain ⟨hb16, q16⟩ := bN hb15 hw16
   clear hw16 r1_15 c1_15 z1_15 hb15
   go_wp2
   go_loopw [5] (fun s5 wr => ∃ i : Nat, i ≤ n ∧ s5 = .int .i64 i ∧ Below w.heap.size w wr ∧ (IsRow wr (w.heap.size) ∧ blk wr (w.heap.size) = blk W16 (w.heap.size)) ∧ ∀ a, a < i → ax3R p n f a = true) (fun s5 _ => n - (intOf s5).toNat)
   case atStart => exact ⟨0, by omega, rfl, hb16, ⟨r1_16, rfl⟩, fun a ha => by omega⟩
   case round =>
    obtain ⟨i, hle17, rfl, hb17, ⟨r1_17, c1_17⟩, hx17⟩ := hrel
    obtain ⟨W17, rfl⟩ : ∃ W17 : World, W17 = wr := ⟨_, rfl⟩
    have q17 := hb17.size
    have HX17 := Lib.hid hx17; clear hx17
    have E1_17 := Lib.hid c1_16; replace c1_17 := c1_17.trans c1_16
    have z1_17 := isRow_lt r1_17
    clear r1_16 c1_16 z1_16 hb16
    by_cases hlt17 : i < n
    ·
     have i0_17 : (0 : Int) ≤ (i : Int) := by omega
     have i8_17 : (i : Int) < 8 := by omega
     have k8_17 : i < 8 := by omega
     have m8_17 : i * 8 + 8 ≤ 64 := by omega
     have m64_17 : i * 64 + 64 ≤ 512 := by omega
     have l1_17 : 10 + i * 64 + 64 ≤ 522 := by omega
     go_wp2
     go_loopw [6] (fun s6 wr => ∃ j : Nat, j ≤ n ∧ s6 = .int .i64 j ∧ Below w.heap.size w wr ∧ (IsRow wr (w.heap.size) ∧ blk wr (w.heap.size) = blk W17 (w.heap.size)) ∧ (∀ a, a < i → ax3R p n f a = true) ∧ (∀ b, b < j → ax3At p n f i b = true)) (fun s6 _ => n - (intOf s6).toNat)
     case atStart => exact ⟨0, by omega, rfl, hb17, ⟨r1_17, rfl⟩, ⟨HX17.out, fun b hb => by omega⟩⟩
     case round =>
      obtain ⟨j, hle18, rfl, hb18, ⟨r1_18, c1_18⟩, hx18⟩ := hrel
      obtain ⟨W18, rfl⟩ : ∃ W18 : World, W18 = wr := ⟨_, rfl⟩
      have q18 := hb18.size
      have HX18 := Lib.hid hx18; clear hx18
      have E1_18 := Lib.hid c1_17; replace c1_18 := c1_18.trans c1_17
      have z1_18 := isRow_lt r1_18
      clear r1_17 c1_17 z1_17 hb17
      by_cases hlt18 : j < n
      ·
       have i0_18 : (0 : Int) ≤ (j : Int) := by omega
       have i8_18 : (j : Int) < 8 := by omega
       have k8_18 : j < 8 := by omega
       have m8_18 : j * 8 + 8 ≤ 64 := by omega
       have m64_18 : j * 64 + 64 ≤ 512 := by omega
       have l1_18 : 10 + j * 64 + 64 ≤ 522 := by omega
       have l2_18i : 10 + i * 64 + j * 8 + 8 ≤ 522 := by omega
       have l3_18i : 10 + j * 64 + i * 8 + 8 ≤ 522 := by omega
       have l4_18i : i * 64 + j * 8 + 8 ≤ 512 := by omega
       have l5_18i : j * 64 + i * 8 + 8 ≤ 512 := by omega
       have l6_18i : i * 8 + j < 64 := by omega
       have l7_18i : j * 8 + i < 64 := by omega
       cases h0 : ax3At p n f i j
       ·
        have HV : Hid (Bytes 8 (mtab f i j)) := Lib.hid (mtab_bytes (hop_bytes HF.out) i j (by omega) (by omega))
        have e8 := hop_mul8 p n f i j (by omega) (by omega)
        have e7 := hop_comF p n f i (by omega)
        have e6 := hop_comF p n f j (by omega)
        have HI := Lib.hid (comF_bytes HF.out i (by omega)); have HJ := Lib.hid (comF_bytes HF.out j (by omega))
        have l8 : 530 + i * 64 + 64 ≤ 1106 := by omega
        have l9 : 530 + j * 64 + 64 ≤ 1106 := by omega
        have l7 : 10 + i * 64 + j * 8 + 8 ≤ 1106 := by omega
        have h1 : segEq 0 64 (copS p (coF f) (mtab f i j) n n 0) (ppS p n f (comF f i) (comF f j) n 0) = false := (ax3_spec hn Hs.out i j).trans h0
        have H := Lib.hid (bi3 (n := n) ha hc (all_no (q := ax3R p n f) i n (by omega) (all_no (q := ax3At p n f i) j n (by omega) h0)))
        go_wp2
        refine wp_quiet_all (Below W18.heap.size W18) (by kernel_rfl) (by kernel_rfl) (Below.refl _ _).drew ?_
        iterate 7 (refine q_plain rfl ?_; apply Exists.intro; refine ⟨fun W hW => ?_, ?_⟩; (focus (obtain ⟨x1, y1⟩ := keepB hW z1_18 r1_18 c1_18; go_simp; first | done | rfl)); simp only [Act.put, List.setIfInBounds_toArray, List.set_cons_zero, List.set_cons_succ])
        (refine q_plain rfl ?_; apply Exists.intro; refine ⟨fun W hW => ?_, ?_⟩; (focus (obtain ⟨x1, y1⟩ := keepB hW z1_18 r1_18 c1_18; go_simp; (go_at_call 77; exact (l03Coproduct_any p n f _ _ hp hp' hn HF.out HV.out).mono fun e w2 ⟨he, hw2⟩ => ⟨he, hW.trans (hw2.mono hW.size)⟩))); simp only [Act.put, List.setIfInBounds_toArray, List.set_cons_zero, List.set_cons_succ])
        iterate 9 (refine q_plain rfl ?_; apply Exists.intro; refine ⟨fun W hW => ?_, ?_⟩; (focus (obtain ⟨x1, y1⟩ := keepB hW z1_18 r1_18 c1_18; go_simp; first | done | rfl)); simp only [Act.put, List.setIfInBounds_toArray, List.set_cons_zero, List.set_cons_succ])
        (refine q_plain rfl ?_; apply Exists.intro; refine ⟨fun W hW => ?_, ?_⟩; (focus (obtain ⟨x1, y1⟩ := keepB hW z1_18 r1_18 c1_18; go_simp; (go_at_call 151; exact (l03Pairs_any p n f (comF f i) (comF f j) _ hp hp' hn HF.out HI.out HJ.out).mono fun e w2 ⟨he, hw2⟩ => ⟨he, hW.trans (hw2.mono hW.size)⟩))); simp only [Act.put, List.setIfInBounds_toArray, List.set_cons_zero, List.set_cons_succ])
        iterate 1 (refine q_plain rfl ?_; apply Exists.intro; refine ⟨fun W hW => ?_, ?_⟩; (focus (obtain ⟨x1, y1⟩ := keepB hW z1_18 r1_18 c1_18; go_simp; first | done | rfl)); simp only [Act.put, List.setIfInBounds_toArray, List.set_cons_zero, List.set_cons_succ])
        refine wpQuiet_nil ?_
        intro W19 hw19
        obtain ⟨r1_19, c1_19, z1_19⟩ := keepZ hw19 z1_18 r1_18 c1_18
        obtain ⟨hb19, q19⟩ := bN hb18 hw19
        clear hw19 r1_18 c1_18 z1_18 hb18
        go_wp2_with fail
        go_ret
        exact ⟨ret_int (by rw [H.out]), bt⟩
       ·
        have HV : Hid (Bytes 8 (mtab f i j)) := Lib.hid (mtab_bytes (hop_bytes HF.out) i j (by omega) (by omega))
        have e8 := hop_mul8 p n f i j (by omega) (by omega)
        have e7 := hop_comF p n f i (by omega)
        have e6 := hop_comF p n f j (by omega)
        have HI := Lib.hid (comF_bytes HF.out i (by omega)); have HJ := Lib.hid (comF_bytes HF.out j (by omega))
        have l8 : 530 + i * 64 + 64 ≤ 1106 := by omega
        have l9 : 530 + j * 64 + 64 ≤ 1106 := by omega
        have l7 : 10 + i * 64 + j * 8 + 8 ≤ 1106 := by omega
        have h1 : segEq 0 64 (copS p (coF f) (mtab f i j) n n 0) (ppS p n f (comF f i) (comF f j) n 0) = true := (ax3_spec hn Hs.out i j).trans h0
        have H := Lib.hid (upto_more (q := ax3At p n f i) HX18.out.2 h0)
        have H2 := Lib.hid HX18.out.1
        go_wp2
        refine wp_quiet_all (Below W18.heap.size W18) (by kernel_rfl) (by kernel_rfl) (Below.refl _ _).drew ?_
        iterate 7 (refine q_plain rfl ?_; apply Exists.intro; refine ⟨fun W hW => ?_, ?_⟩; (focus (obtain ⟨x1, y1⟩ := keepB hW z1_18 r1_18 c1_18; go_simp; first | done | rfl)); simp only [Act.put, List.setIfInBounds_toArray, List.set_cons_zero, List.set_cons_succ])
        (refine q_plain rfl ?_; apply Exists.intro; refine ⟨fun W hW => ?_, ?_⟩; (focus (obtain ⟨x1, y1⟩ := keepB hW z1_18 r1_18 c1_18; go_simp; (go_at_call 77; exact (l03Coproduct_any p n f _ _ hp hp' hn HF.out HV.out).mono fun e w2 ⟨he, hw2⟩ => ⟨he, hW.trans (hw2.mono hW.size)⟩))); simp only [Act.put, List.setIfInBounds_toArray, List.set_cons_zero, List.set_cons_succ])
        iterate 9 (refine q_plain rfl ?_; apply Exists.intro; refine ⟨fun W hW => ?_, ?_⟩; (focus (obtain ⟨x1, y1⟩ := keepB hW z1_18 r1_18 c1_18; go_simp; first | done | rfl)); simp only [Act.put, List.setIfInBounds_toArray, List.set_cons_zero, List.set_cons_succ])
        (refine q_plain rfl ?_; apply Exists.intro; refine ⟨fun W hW => ?_, ?_⟩; (focus (obtain ⟨x1, y1⟩ := keepB hW z1_18 r1_18 c1_18; go_simp; (go_at_call 151; exact (l03Pairs_any p n f (comF f i) (comF f j) _ hp hp' hn HF.out HI.out HJ.out).mono fun e w2 ⟨he, hw2⟩ => ⟨he, hW.trans (hw2.mono hW.size)⟩))); simp only [Act.put, List.setIfInBounds_toArray, List.set_cons_zero, List.set_cons_succ])
        iterate 1 (refine q_plain rfl ?_; apply Exists.intro; refine ⟨fun W hW => ?_, ?_⟩; (focus (obtain ⟨x1, y1⟩ := keepB hW z1_18 r1_18 c1_18; go_simp; first | done | rfl)); simp only [Act.put, List.setIfInBounds_toArray, List.set_cons_zero, List.set_cons_succ])
        refine wpQuiet_nil ?_
        intro W20 hw20
        obtain ⟨r1_20, c1_20, z1_20⟩ := keepZ hw20 z1_18 r1_18 c1_18
        obtain ⟨hb20, q20⟩ := bN hb18 hw20
        clear hw20 r1_18 c1_18 z1_18 hb18
        go_wp2
        go_roundw
        case rel => exact ⟨j + 1, by omega, by go_num, bt, ⟨by simp [go_sem, r1_20, c1_20], (by rw [E1_18.out]; first | exact c1_20 | (simp [go_sem, r1_20, c1_20]; done))⟩, ⟨H2.out, H.out⟩⟩
        case measure => simp [intOf]; try omega
      ·
       obtain rfl : n = j := by omega
       have H := Lib.hid (upto_more (q := ax3R p n f) HX18.out.1 (all_yes (q := ax3At p n f i) n HX18.out.2))
       go_wp2
       go_roundw
       case rel => exact ⟨i + 1, by omega, by go_num, bt, ⟨by simp [go_sem, r1_18, c1_18], (by rw [E1_17.out]; first | exact c1_18 | (simp [go_sem, r1_18, c1_18]; done))⟩, H.out⟩
       case measure => simp [intOf]; try omega
    ·
     obtain rfl : n = i := by omega
     have H3 : Hid (ax3B p n f = true) := Lib.hid (all_yes (q := ax3R p n f) n fun a ha => HX17.out a ha)
     have HV : Hid (Bytes 8 f) := Lib.hid HU.out
     go_wp2_with fail
     refine (l03Coproduct_any p n f _ _ hp hp' hn HF.out HV.out).mono ?_; rintro _ W21 ⟨rfl, hw21⟩
     obtain ⟨r1_21, c1_21, z1_21⟩ := keepZ hw21 z1_17 r1_17 c1_17
     obtain ⟨hb21, q21⟩ := bN hb17 hw21
     clear hw21 r1_17 c1_17 z1_17 hb17
     go_wp2
     have nw1_W21_0 : (w.heap.size) ≠ W21.heap.size := by omega
     refine atomW fun W22 e22 => ?_
     have hb22 : Below w.heap.size w W22 := by rw [e22]; exact bt
     have q22 := hb22.size
     have R22 : IsRow W22 (w.heap.size) ∧ IsRow W22 (W21.heap.size) := by rw [e22]; simp [go_sem, r1_21, c1_21, nw1_W21_0]
     obtain ⟨r1_22, r7_22⟩ := R22
     have C22 := (⟨congrArg (blk · (w.heap.size)) e22, congrArg (blk · (W21.heap.size)) e22⟩ : _ ∧ _); simp [go_sem, r1_21, c1_21, nw1_W21_0] at C22
     obtain ⟨c1_22, c7_22⟩ := C22
     have z1_22 := isRow_lt r1_22; have z7_22 := isRow_lt r7_22
     have n1_7 : (w.heap.size) ≠ (W21.heap.size) := by omega
     have n7_1 : (W21.heap.size) ≠ (w.heap.size) := by omega
     clear e22 nw1_W21_0 r1_21 c1_21 z1_21 hb21
     go_loopw [8] (fun s8 wr => ∃ j : Nat, j ≤ n ∧ s8 = .int .i64 j ∧ Below w.heap.size w wr ∧ (IsRow wr (w.heap.size) ∧ blk wr (w.heap.size) = blk W22 (w.heap.size)) ∧ (IsRow wr (W21.heap.size) ∧ blk wr (W21.heap.size) = blk W22 (W21.heap.size)) ∧ ∀ a, a < j → ax4S p n f a = true) (fun s8 _ => n - (intOf s8).toNat)
     case atStart => exact ⟨0, by omega, rfl, hb22, ⟨r1_22, rfl⟩, ⟨r7_22, rfl⟩, fun a ha => by omega⟩
     case round =>
      obtain ⟨j, hle23, rfl, hb23, ⟨r1_23, c1_23⟩, ⟨r7_23, c7_23⟩, hx23⟩ := hrel
      obtain ⟨W23, rfl⟩ : ∃ W23 : World, W23 = wr := ⟨_, rfl⟩
      have q23 := hb23.size
      have HX23 := Lib.hid hx23; clear hx23
      have E1_23 := Lib.hid c1_22; replace c1_23 := c1_23.trans c1_22
      have z1_23 := isRow_lt r1_23
      have E7_23 := Lib.hid c7_22; replace c7_23 := c7_23.trans c7_22
      have z7_23 := isRow_lt r7_23
      clear r1_22 c1_22 z1_22 r7_22 c7_22 z7_22 hb22
      by_cases hlt23 : j < n
      ·
       have i0_23 : (0 : Int) ≤ (j : Int) := by omega
       have i8_23 : (j : Int) < 8 := by omega
       have k8_23 : j < 8 := by omega
       have m8_23 : j * 8 + 8 ≤ 64 := by omega
       have m64_23 : j * 64 + 64 ≤ 512 := by omega
       have l1_23 : 10 + j * 64 + 64 ≤ 522 := by omega
       cases h0 : ax4S p n f j
       ·
        have e7 := hop_uq p n f j (by omega)
        have b1 := (HU.out j (by omega)).1; have b2 := (HU.out j (by omega)).2
        have q1 : IntKind.i64.wrap (f j) = f j := IntWalk.i64_in _ (by omega)
        have h1 : segEq 0 8 (fun i => copS p (coF f) f n n 0 (j * 8 + i)) (addm p 0 8 (f j) zf f) = false := h0
        have H := Lib.hid (bi4 (n := n) ha hc H3.out ((ax4_spec hn Hs.out).trans (all_no (q := ax4S p n f) j n (by omega) h0)))
        go_wp2
        refine wp_quiet_all (Below W23.heap.size W23) (by kernel_rfl) (by kernel_rfl) (Below.refl _ _).drew ?_
        iterate 13 (refine q_plain rfl ?_; apply Exists.intro; refine ⟨fun W hW => ?_, ?_⟩; (focus (obtain ⟨x1, y1⟩ := keepB hW z1_23 r1_23 c1_23; obtain ⟨x7, y7⟩ := keepB hW z7_23 r7_23 c7_23; go_simp; first | done | rfl)); simp only [Act.put, List.setIfInBounds_toArray, List.set_cons_zero, List.set_cons_succ])
        (refine q_plain rfl ?_; apply Exists.intro; refine ⟨fun W hW => ?_, ?_⟩; (focus (obtain ⟨x1, y1⟩ := keepB hW z1_23 r1_23 c1_23; obtain ⟨x7, y7⟩ := keepB hW z7_23 r7_23 c7_23; go_simp; (go_at_call 66; exact (l01Add_any _ _ _ _ _ hp hp' (by omega) (by omega) HZ.out HU.out).mono fun e w2 ⟨he, hw2⟩ => ⟨he, hW.trans (hw2.mono hW.size)⟩))); simp only [Act.put, List.setIfInBounds_toArray, List.set_cons_zero, List.set_cons_succ])
        iterate 1 (refine q_plain rfl ?_; apply Exists.intro; refine ⟨fun W hW => ?_, ?_⟩; (focus (obtain ⟨x1, y1⟩ := keepB hW z1_23 r1_23 c1_23; obtain ⟨x7, y7⟩ := keepB hW z7_23 r7_23 c7_23; go_simp; first | done | rfl)); simp only [Act.put, List.setIfInBounds_toArray, List.set_cons_zero, List.set_cons_succ])
        refine wpQuiet_nil ?_
        intro W24 hw24
        obtain ⟨r1_24, c1_24, z1_24⟩ := keepZ hw24 z1_23 r1_23 c1_23
        obtain ⟨r7_24, c7_24, z7_24⟩ := keepZ hw24 z7_23 r7_23 c7_23
        obtain ⟨hb24, q24⟩ := bN hb23 hw24
        clear hw24 r1_23 c1_23 z1_23 r7_23 c7_23 z7_23 hb23
        go_wp2_with fail
        go_ret
        exact ⟨ret_int (by rw [H.out]), bt⟩
       ·
        have e7 := hop_uq p n f j (by omega)
        have b1 := (HU.out j (by omega)).1; have b2 := (HU.out j (by omega)).2
        have q1 : IntKind.i64.wrap (f j) = f j := IntWalk.i64_in _ (by omega)
        have h1 : segEq 0 8 (fun i => copS p (coF f) f n n 0 (j * 8 + i)) (addm p 0 8 (f j) zf f) = true := h0
        have H := Lib.hid (upto_more (q := ax4S p n f) HX23.out h0)
        go_wp2
        refine wp_quiet_all (Below W23.heap.size W23) (by kernel_rfl) (by kernel_rfl) (Below.refl _ _).drew ?_
        iterate 13 (refine q_plain rfl ?_; apply Exists.intro; refine ⟨fun W hW => ?_, ?_⟩; (focus (obtain ⟨x1, y1⟩ := keepB hW z1_23 r1_23 c1_23; obtain ⟨x7, y7⟩ := keepB hW z7_23 r7_23 c7_23; go_simp; first | done | rfl)); simp only [Act.put, List.setIfInBounds_toArray, List.set_cons_zero, List.set_cons_succ])
        (refine q_plain rfl ?_; apply Exists.intro; refine ⟨fun W hW => ?_, ?_⟩; (focus (obtain ⟨x1, y1⟩ := keepB hW z1_23 r1_23 c1_23; obtain ⟨x7, y7⟩ := keepB hW z7_23 r7_23 c7_23; go_simp; (go_at_call 66; exact (l01Add_any _ _ _ _ _ hp hp' (by omega) (by omega) HZ.out HU.out).mono fun e w2 ⟨he, hw2⟩ => ⟨he, hW.trans (hw2.mono hW.size)⟩))); simp only [Act.put, List.setIfInBounds_toArray, List.set_cons_zero, List.set_cons_succ])
        iterate 1 (refine q_plain rfl ?_; apply Exists.intro; refine ⟨fun W hW => ?_, ?_⟩; (focus (obtain ⟨x1, y1⟩ := keepB hW z1_23 r1_23 c1_23; obtain ⟨x7, y7⟩ := keepB hW z7_23 r7_23 c7_23; go_simp; first | done | rfl)); simp only [Act.put, List.setIfInBounds_toArray, List.set_cons_zero, List.set_cons_succ])
        refine wpQuiet_nil ?_
        intro W25 hw25
        obtain ⟨r1_25, c1_25, z1_25⟩ := keepZ hw25 z1_23 r1_23 c1_23
        obtain ⟨r7_25, c7_25, z7_25⟩ := keepZ hw25 z7_23 r7_23 c7_23
        obtain ⟨hb25, q25⟩ := bN hb23 hw25
        clear hw25 r1_23 c1_23 z1_23 r7_23 c7_23 z7_23 hb23
        go_wp2
        go_roundw
        case rel => exact ⟨j + 1, by omega, by go_num, bt, ⟨by simp [go_sem, r1_25, c1_25, n1_7, r7_25, c7_25, n7_1], (by rw [E1_23.out]; first | exact c1_25 | (simp [go_sem, r1_25, c1_25, n1_7, r7_25, c7_25, n7_1]; done))⟩, ⟨by simp [go_sem, r1_25, c1_25, n1_7, r7_25, c7_25, n7_1], (by rw [E7_23.out]; first | exact c7_25 | (simp [go_sem, r1_25, c1_25, n1_7, r7_25, c7_25, n7_1]; done))⟩, H.out⟩
        case measure => simp [intOf]; try omega
      ·
       obtain rfl : n = j := by omega
       have H4 : Hid (ax4B p f = true) := Lib.hid ((ax4_spec hn Hs.out).trans (all_yes (q := ax4S p n f) n fun a ha => HX23.out a ha))
       go_wp2
       go_loopw [9] (fun s9 wr => ∃ i : Nat, i ≤ n ∧ s9 = .int .i64 i ∧ Below w.heap.size w wr ∧ (IsRow wr (w.heap.size) ∧ blk wr (w.heap.size) = blk W23 (w.heap.size)) ∧ ∀ a, a < i → ax5R p n f a = true) (fun s9 _ => n - (intOf s9).toNat)
       case atStart => exact ⟨0, by omega, rfl, hb23, ⟨r1_23, rfl⟩, fun a ha => by omega⟩
       case round =>
        obtain ⟨i, hle26, rfl, hb26, ⟨r1_26, c1_26⟩, hx26⟩ := hrel
        obtain ⟨W26, rfl⟩ : ∃ W26 : World, W26 = wr := ⟨_, rfl⟩
        have q26 := hb26.size
        have HX26 := Lib.hid hx26; clear hx26
        have E1_26 := Lib.hid c1_23; replace c1_26 := c1_26.trans c1_23
        have z1_26 := isRow_lt r1_26
        clear r1_23 c1_23 z1_23 hb23
        by_cases hlt26 : i < n
        ·
         have i0_26 : (0 : Int) ≤ (i : Int) := by omega
         have i8_26 : (i : Int) < 8 := by omega
         have k8_26 : i < 8 := by omega
         have m8_26 : i * 8 + 8 ≤ 64 := by omega
         have m64_26 : i * 64 + 64 ≤ 512 := by omega
         have l1_26 : 10 + i * 64 + 64 ≤ 522 := by omega
         go_wp2
         go_loopw [10] (fun s10 wr => ∃ j : Nat, j ≤ n ∧ s10 = .int .i64 j ∧ Below w.heap.size w wr ∧ (IsRow wr (w.heap.size) ∧ blk wr (w.heap.size) = blk W26 (w.heap.size)) ∧ (∀ a, a < i → ax5R p n f a = true) ∧ (∀ b, b < j → ax5At p f i b = true)) (fun s10 _ => n - (intOf s10).toNat)
         case atStart => exact ⟨0, by omega, rfl, hb26, ⟨r1_26, rfl⟩, ⟨HX26.out, fun b hb => by omega⟩⟩
         case round =>
          obtain ⟨j, hle27, rfl, hb27, ⟨r1_27, c1_27⟩, hx27⟩ := hrel
          obtain ⟨W27, rfl⟩ : ∃ W27 : World, W27 = wr := ⟨_, rfl⟩
          have q27 := hb27.size
          have HX27 := Lib.hid hx27; clear hx27
          have E1_27 := Lib.hid c1_26; replace c1_27 := c1_27.trans c1_26
          have z1_27 := isRow_lt r1_27
          clear r1_26 c1_26 z1_26 hb26
          by_cases hlt27 : j < n
          ·
           have i0_27 : (0 : Int) ≤ (j : Int) := by omega
           have i8_27 : (j : Int) < 8 := by omega
           have k8_27 : j < 8 := by omega
           have m8_27 : j * 8 + 8 ≤ 64 := by omega
           have m64_27 : j * 64 + 64 ≤ 512 := by omega
           have l1_27 : 10 + j * 64 + 64 ≤ 522 := by omega
           have l2_27i : 10 + i * 64 + j * 8 + 8 ≤ 522 := by omega
           have l3_27i : 10 + j * 64 + i * 8 + 8 ≤ 522 := by omega
           have l4_27i : i * 64 + j * 8 + 8 ≤ 512 := by omega
           have l5_27i : j * 64 + i * 8 + 8 ≤ 512 := by omega
           have l6_27i : i * 8 + j < 64 := by omega
           have l7_27i : j * 8 + i < 64 := by omega
           cases h0 : ax5At p f i j
           ·
            have HV : Hid (Bytes 8 (mtab f i j)) := Lib.hid (mtab_bytes (hop_bytes HF.out) i j (by omega) (by omega))
            have e8 := hop_mul8 p n f i j (by omega) (by omega)
            have e7 := hop_cq p n f i (by omega)
            have e6 := hop_cq p n f j (by omega)
            have l7 : 10 + i * 64 + j * 8 + 8 ≤ 1106 := by omega
            have b1 := (HC.out i (by omega)).1; have b2 := (HC.out i (by omega)).2; have b3 := (HC.out j (by omega)).1; have b4 := (HC.out j (by omega)).2
            have b5 := (prod_le (coF f i) (coF f j) 255 255 b1 b3 b2 b4).1; have b6 := (prod_le (coF f i) (coF f j) 255 255 b1 b3 b2 b4).2
            have q1 : IntKind.i64.wrap (coF f i) = coF f i := IntWalk.i64_in _ (by omega)
            have q2 : IntKind.i64.wrap (coF f j) = coF f j := IntWalk.i64_in _ (by omega)
            have q3 : IntKind.i64.wrap (coF f i * coF f j) = coF f i * coF f j := IntWalk.i64_in _ (by omega)
            have t1 : (coF f i * coF f j).tmod p = coF f i * coF f j % p := Int.tmod_eq_emod_of_nonneg b5
            have h5 := ax5_spec hn Hs.out i j (by omega) (by omega)
            have h1 : (dotF n (mtab f i j) (coF f) % p != coF f i * coF f j % p) = true := by rw [h5]; exact neq_of (q := false) h0
            have H := Lib.hid (bi5 (n := n) ha hc H3.out H4.out (by unfold ax5B; rw [all_no (q := ax5R p n f) i n (by omega) (all_no (q := ax5At p f i) j n (by omega) h0)]; rfl))
            clear h5
            go_wp2
            refine wp_quiet_all (Below W27.heap.size W27) (by kernel_rfl) (by kernel_rfl) (Below.refl _ _).drew ?_
            iterate 7 (refine q_plain rfl ?_; apply Exists.intro; refine ⟨fun W hW => ?_, ?_⟩; (focus (obtain ⟨x1, y1⟩ := keepB hW z1_27 r1_27 c1_27; go_simp; first | done | rfl)); simp only [Act.put, List.setIfInBounds_toArray, List.set_cons_zero, List.set_cons_succ])
            (refine q_plain rfl ?_; apply Exists.intro; refine ⟨fun W hW => ?_, ?_⟩; (focus (obtain ⟨x1, y1⟩ := keepB hW z1_27 r1_27 c1_27; go_simp; (go_at_call 152; exact (l03Counit_any p n f _ _ hp hp' hn HF.out HV.out).mono fun e w2 ⟨he, hw2⟩ => ⟨he, hW.trans (hw2.mono hW.size)⟩))); simp only [Act.put, List.setIfInBounds_toArray, List.set_cons_zero, List.set_cons_succ])
            iterate 15 (refine q_plain rfl ?_; apply Exists.intro; refine ⟨fun W hW => ?_, ?_⟩; (focus (obtain ⟨x1, y1⟩ := keepB hW z1_27 r1_27 c1_27; go_simp; first | done | rfl)); simp only [Act.put, List.setIfInBounds_toArray, List.set_cons_zero, List.set_cons_succ])
            refine wpQuiet_nil ?_
            intro W28 hw28
            obtain ⟨r1_28, c1_28, z1_28⟩ := keepZ hw28 z1_27 r1_27 c1_27
            obtain ⟨hb28, q28⟩ := bN hb27 hw28
            clear hw28 r1_27 c1_27 z1_27 hb27
            go_wp2_with fail
            go_ret
            exact ⟨ret_int (by rw [H.out]), bt⟩
           ·
            have HV : Hid (Bytes 8 (mtab f i j)) := Lib.hid (mtab_bytes (hop_bytes HF.out) i j (by omega) (by omega))
            have e8 := hop_mul8 p n f i j (by omega) (by omega)
            have e7 := hop_cq p n f i (by omega)
            have e6 := hop_cq p n f j (by omega)
            have l7 : 10 + i * 64 + j * 8 + 8 ≤ 1106 := by omega
            have b1 := (HC.out i (by omega)).1; have b2 := (HC.out i (by omega)).2; have b3 := (HC.out j (by omega)).1; have b4 := (HC.out j (by omega)).2
            have b5 := (prod_le (coF f i) (coF f j) 255 255 b1 b3 b2 b4).1; have b6 := (prod_le (coF f i) (coF f j) 255 255 b1 b3 b2 b4).2
            have q1 : IntKind.i64.wrap (coF f i) = coF f i := IntWalk.i64_in _ (by omega)
            have q2 : IntKind.i64.wrap (coF f j) = coF f j := IntWalk.i64_in _ (by omega)
            have q3 : IntKind.i64.wrap (coF f i * coF f j) = coF f i * coF f j := IntWalk.i64_in _ (by omega)
            have t1 : (coF f i * coF f j).tmod p = coF f i * coF f j % p := Int.tmod_eq_emod_of_nonneg b5
            have h5 := ax5_spec hn Hs.out i j (by omega) (by omega)
            have h1 : (dotF n (mtab f i j) (coF f) % p != coF f i * coF f j % p) = false := by rw [h5]; exact neq_of (q := true) h0
            have H := Lib.hid (upto_more (q := ax5At p f i) HX27.out.2 h0)
            have H2 := Lib.hid HX27.out.1
            clear h5
            go_wp2
            refine wp_quiet_all (Below W27.heap.size W27) (by kernel_rfl) (by kernel_rfl) (Below.refl _ _).drew ?_
            iterate 7 (refine q_plain rfl ?_; apply Exists.intro; refine ⟨fun W hW => ?_, ?_⟩; (focus (obtain ⟨x1, y1⟩ := keepB hW z1_27 r1_27 c1_27; go_simp; first | done | rfl)); simp only [Act.put, List.setIfInBounds_toArray, List.set_cons_zero, List.set_cons_succ])
            (refine q_plain rfl ?_; apply Exists.intro; refine ⟨fun W hW => ?_, ?_⟩; (focus (obtain ⟨x1, y1⟩ := keepB hW z1_27 r1_27 c1_27; go_simp; (go_at_call 152; exact (l03Counit_any p n f _ _ hp hp' hn HF.out HV.out).mono fun e w2 ⟨he, hw2⟩ => ⟨he, hW.trans (hw2.mono hW.size)⟩))); simp only [Act.put, List.setIfInBounds_toArray, List.set_cons_zero, List.set_cons_succ])
            iterate 15 (refine q_plain rfl ?_; apply Exists.intro; refine ⟨fun W hW => ?_, ?_⟩; (focus (obtain ⟨x1, y1⟩ := keepB hW z1_27 r1_27 c1_27; go_simp; first | done | rfl)); simp only [Act.put, List.setIfInBounds_toArray, List.set_cons_zero, List.set_cons_succ])
            refine wpQuiet_nil ?_
            intro W29 hw29
            obtain ⟨r1_29, c1_29, z1_29⟩ := keepZ hw29 z1_27 r1_27 c1_27
            obtain ⟨hb29, q29⟩ := bN hb27 hw29
            clear hw29 r1_27 c1_27 z1_27 hb27
            go_wp2
            go_roundw
            case rel => exact ⟨j + 1, by omega, by go_num, bt, ⟨by simp [go_sem, r1_29, c1_29, n1_7], (by rw [E1_27.out]; first | exact c1_29 | (simp [go_sem, r1_29, c1_29, n1_7]; done))⟩, ⟨H2.out, H.out⟩⟩
            case measure => simp [intOf]; try omega
          ·
           obtain rfl : n = j := by omega
           have H := Lib.hid (upto_more (q := ax5R p n f) HX27.out.1 (all_yes (q := ax5At p f i) n HX27.out.2))
           go_wp2
           go_roundw
           case rel => exact ⟨i + 1, by omega, by go_num, bt, ⟨by simp [go_sem, r1_27, c1_27, n1_7], (by rw [E1_26.out]; first | exact c1_27 | (simp [go_sem, r1_27, c1_27, n1_7]; done))⟩, H.out⟩
           case measure => simp [intOf]; try omega
        ·
         obtain rfl : n = i := by omega
         cases hu : ax5U p f
         ·
          have HV : Hid (Bytes 8 f) := Lib.hid HU.out
          have h1 : (dotF n f (coF f) % p != 1) = true := by rw [ax5u_spec hn Hs.out]; exact neq_of (q := false) hu
          have H := Lib.hid (bi5 (n := n) ha hc H3.out H4.out (by unfold ax5B; rw [hu, Bool.and_false]))
          go_wp2_with fail
          refine (l03Counit_any p n f _ _ hp hp' hn HF.out HV.out).mono ?_; rintro _ W30 ⟨rfl, hw30⟩
          obtain ⟨hb30, q30⟩ := bN hb26 hw30
          clear hw30 hb26
          go_wp2_with fail
          go_ret
          exact ⟨ret_int (by rw [H.out]), bt⟩
         ·
          have HV : Hid (Bytes 8 f) := Lib.hid HU.out
          have h1 : (dotF n f (coF f) % p != 1) = false := by rw [ax5u_spec hn Hs.out]; exact neq_of (q := true) hu
          have H := Lib.hid (bi0 (n := n) ha hc H3.out H4.out (by unfold ax5B; rw [hu, all_yes (q := ax5R p n f) n fun a ha => HX26.out a ha]; rfl))
          go_wp2_with fail
          refine (l03Counit_any p n f _ _ hp hp' hn HF.out HV.out).mono ?_; rintro _ W31 ⟨rfl, hw31⟩
          obtain ⟨hb31, q31⟩ := bN hb26 hw31
          clear hw31 hb26
          go_wp2_with fail
          go_ret
          exact ⟨ret_int (by rw [H.out]), bt⟩

theorem fail_bi {p : Int} {n : Nat} {f : Nat → Int} (h : ¬ biN p n f = 0) : biN p n f = failN p n f := by rw [fail_app, if_neg h]
theorem fail_6 {p : Int} {n : Nat} {f : Nat → Int} (h : biN p n f = 0) (h6 : ax6B p n f = false) : failN p n f = 6 := by rw [fail_app, if_pos h, h6]; rfl
theorem fail_7 {p : Int} {n : Nat} {f : Nat → Int} (h : biN p n f = 0) (h6 : ax6B p n f = true) (h7 : ax7B p n f = false) : failN p n f = 7 := by rw [fail_app, if_pos h, h6, h7]; rfl
theorem fail_0 {p : Int} {n : Nat} {f : Nat → Int} (h : biN p n f = 0) (h6 : ax6B p n f = true) (h7 : ax7B p n f = true) : failN p n f = 0 := by rw [fail_app, if_pos h, h6, h7]; rfl

set_option maxRecDepth 100000 in
set_option maxHeartbeats 1000000 in
theorem l03Fails_any (p : Int) (n : Nat) (f : Nat → Int) (w : World) (hp : 0 < p) (hp' : p ≤ 255) (hn : n ≤ 8) (hF : Bytes 1104 f) (hs : shapeH p n f = true) :
    Calls Tryz.prog 92 #[.agg (hop p n f)] w fun e w' => e = .returned (.int .i64 (failN p n f)) ∧ Below w.heap.size w w' := by
 have HF := Lib.hid hF; clear hF
 have Hs := Lib.hid hs; clear hs
 have HS : Hid (Bytes 64 (anF f)) := Lib.hid (an_bytes HF.out)
 by_cases hb : biN p n f = 0
 ·
  cases h6 : ax6B p n f
  ·
   have H := Lib.hid (fail_6 hb h6)
   have x6 : apB p n f (anF f) false = false := (ax6_spec hn Hs.out HF.out).symm.trans h6
   go_enter Tryz.func92, Tryz.ntmps92
   go_wp2_with fail
   refine atomC fun W1 e1 => ?_
   have hb1 : Below w.heap.size w W1 := by rw [e1]; exact bt
   have q1 := hb1.size
   have r1_1 : IsRow W1 (w.heap.size) := by rw [e1]; simp [go_sem]
   have c1_1 := congrArg (fun x => blk x (w.heap.size)) e1; simp [go_sem] at c1_1
   have z1_1 := isRow_lt r1_1
   clear e1
   refine (l03Bialgebra_any p n f _ hp hp' hn HF.out Hs.out).mono ?_; rintro _ W2 ⟨rfl, hw2⟩
   obtain ⟨r1_2, c1_2, z1_2⟩ := keepZ hw2 z1_1 r1_1 c1_1
   obtain ⟨hb2, q2⟩ := bN hb1 hw2
   clear hw2 r1_1 c1_1 z1_1 hb1
   go_wp2_with fail
   refine (l03Antipode_false p n f (anF f) _ hp hp' hn HF.out HS.out).mono ?_; rintro _ W3 ⟨rfl, hw3⟩
   obtain ⟨r1_3, c1_3, z1_3⟩ := keepZ hw3 z1_2 r1_2 c1_2
   obtain ⟨hb3, q3⟩ := bN hb2 hw3
   clear hw3 r1_2 c1_2 z1_2 hb2
   go_wp2_with fail
   go_ret
   exact ⟨ret_int (by rw [H.out]), bt⟩
  ·
   cases h7 : ax7B p n f
   ·
    have H := Lib.hid (fail_7 hb h6 h7)
    have x6 : apB p n f (anF f) false = true := (ax6_spec hn Hs.out HF.out).symm.trans h6
    have x7 : apB p n f (anF f) true = false := (ax7_spec hn Hs.out).symm.trans h7
    go_enter Tryz.func92, Tryz.ntmps92
    go_wp2_with fail
    refine atomC fun W4 e4 => ?_
    have hb4 : Below w.heap.size w W4 := by rw [e4]; exact bt
    have q4 := hb4.size
    have r1_4 : IsRow W4 (w.heap.size) := by rw [e4]; simp [go_sem]
    have c1_4 := congrArg (fun x => blk x (w.heap.size)) e4; simp [go_sem] at c1_4
    have z1_4 := isRow_lt r1_4
    clear e4
    refine (l03Bialgebra_any p n f _ hp hp' hn HF.out Hs.out).mono ?_; rintro _ W5 ⟨rfl, hw5⟩
    obtain ⟨r1_5, c1_5, z1_5⟩ := keepZ hw5 z1_4 r1_4 c1_4
    obtain ⟨hb5, q5⟩ := bN hb4 hw5
    clear hw5 r1_4 c1_4 z1_4 hb4
    go_wp2_with fail
    refine (l03Antipode_false p n f (anF f) _ hp hp' hn HF.out HS.out).mono ?_; rintro _ W6 ⟨rfl, hw6⟩
    obtain ⟨r1_6, c1_6, z1_6⟩ := keepZ hw6 z1_5 r1_5 c1_5
    obtain ⟨hb6, q6⟩ := bN hb5 hw6
    clear hw6 r1_5 c1_5 z1_5 hb5
    go_wp2_with fail
    refine (l03Antipode_true p n f (anF f) _ hp hp' hn HF.out HS.out).mono ?_; rintro _ W7 ⟨rfl, hw7⟩
    obtain ⟨hb7, q7⟩ := bN hb6 hw7
    clear hw7 hb6
    go_wp2_with fail
    go_ret
    exact ⟨ret_int (by rw [H.out]), bt⟩
   ·
    have H := Lib.hid (fail_0 hb h6 h7)
    have x6 : apB p n f (anF f) false = true := (ax6_spec hn Hs.out HF.out).symm.trans h6
    have x7 : apB p n f (anF f) true = true := (ax7_spec hn Hs.out).symm.trans h7
    go_enter Tryz.func92, Tryz.ntmps92
    go_wp2_with fail
    refine atomC fun W8 e8 => ?_
    have hb8 : Below w.heap.size w W8 := by rw [e8]; exact bt
    have q8 := hb8.size
    have r1_8 : IsRow W8 (w.heap.size) := by rw [e8]; simp [go_sem]
    have c1_8 := congrArg (fun x => blk x (w.heap.size)) e8; simp [go_sem] at c1_8
    have z1_8 := isRow_lt r1_8
    clear e8
    refine (l03Bialgebra_any p n f _ hp hp' hn HF.out Hs.out).mono ?_; rintro _ W9 ⟨rfl, hw9⟩
    obtain ⟨r1_9, c1_9, z1_9⟩ := keepZ hw9 z1_8 r1_8 c1_8
    obtain ⟨hb9, q9⟩ := bN hb8 hw9
    clear hw9 r1_8 c1_8 z1_8 hb8
    go_wp2_with fail
    refine (l03Antipode_false p n f (anF f) _ hp hp' hn HF.out HS.out).mono ?_; rintro _ W10 ⟨rfl, hw10⟩
    obtain ⟨r1_10, c1_10, z1_10⟩ := keepZ hw10 z1_9 r1_9 c1_9
    obtain ⟨hb10, q10⟩ := bN hb9 hw10
    clear hw10 r1_9 c1_9 z1_9 hb9
    go_wp2_with fail
    refine (l03Antipode_true p n f (anF f) _ hp hp' hn HF.out HS.out).mono ?_; rintro _ W11 ⟨rfl, hw11⟩
    obtain ⟨hb11, q11⟩ := bN hb10 hw11
    clear hw11 hb10
    go_wp2_with fail
    go_ret
    exact ⟨ret_int (by rw [H.out]), bt⟩
 ·
  have h1 : (biN p n f != 0) = true := by simp [hb]
  have H := Lib.hid (fail_bi hb)
  go_enter Tryz.func92, Tryz.ntmps92
  go_wp2_with fail
  refine atomC fun W12 e12 => ?_
  have hb12 : Below w.heap.size w W12 := by rw [e12]; exact bt
  have q12 := hb12.size
  have r1_12 : IsRow W12 (w.heap.size) := by rw [e12]; simp [go_sem]
  have c1_12 := congrArg (fun x => blk x (w.heap.size)) e12; simp [go_sem] at c1_12
  have z1_12 := isRow_lt r1_12
  clear e12
  refine (l03Bialgebra_any p n f _ hp hp' hn HF.out Hs.out).mono ?_; rintro _ W13 ⟨rfl, hw13⟩
  obtain ⟨r1_13, c1_13, z1_13⟩ := keepZ hw13 z1_12 r1_12 c1_12
  obtain ⟨hb13, q13⟩ := bN hb12 hw13
  clear hw13 r1_12 c1_12 z1_12 hb12
  go_wp2_with fail
  go_ret
  exact ⟨ret_int (by rw [H.out]), bt⟩

set_option maxRecDepth 100000 in
set_option maxHeartbeats 1000000 in
theorem l03Is_any (p n : Int) (f : Nat → Int) (w : World) (hF : Bytes 1104 f) :
    Calls Tryz.prog 59 #[.agg (hop p n f)] w fun e w' => e = .returned (.bool (hopfB p n f)) ∧ Below w.heap.size w w' := by
 have HF := Lib.hid hF; clear hF
 cases hs : shapeH p n f
 ·
  have H := Lib.hid (hopfB_no hs)
  go_enter Tryz.func59, Tryz.ntmps59
  go_wp2_with fail
  refine atomC fun W1 e1 => ?_
  have hb1 : Below w.heap.size w W1 := by rw [e1]; exact bt
  have q1 := hb1.size
  have r1_1 : IsRow W1 (w.heap.size) := by rw [e1]; simp [go_sem]
  have c1_1 := congrArg (fun x => blk x (w.heap.size)) e1; simp [go_sem] at c1_1
  have z1_1 := isRow_lt r1_1
  clear e1
  refine (l03Shape_any _ _ _ _ HF.out).mono ?_; rintro _ W2 ⟨rfl, hw2⟩
  obtain ⟨r1_2, c1_2, z1_2⟩ := keepZ hw2 z1_1 r1_1 c1_1
  obtain ⟨hb2, q2⟩ := bN hb1 hw2
  clear hw2 r1_1 c1_1 z1_1 hb1
  go_wp2_with fail
  go_ret
  exact ⟨ret_bool (by rw [H.out]), bt⟩
 ·
  have Hs := Lib.hid hs
  obtain ⟨hp2, hp31, hn1, hn8⟩ := sizes_range (shapeH_sizes hs)
  obtain ⟨n, rfl⟩ := Int.eq_ofNat_of_zero_le (show 0 ≤ n by omega)
  have hn : n ≤ 8 := by omega
  have hp : 0 < p := by omega
  have hp' : p ≤ 255 := by omega
  have H := Lib.hid (hopfB_yes hs)
  go_enter Tryz.func59, Tryz.ntmps59
  go_wp2_with fail
  refine atomC fun W3 e3 => ?_
  have hb3 : Below w.heap.size w W3 := by rw [e3]; exact bt
  have q3 := hb3.size
  have r1_3 : IsRow W3 (w.heap.size) := by rw [e3]; simp [go_sem]
  have c1_3 := congrArg (fun x => blk x (w.heap.size)) e3; simp [go_sem] at c1_3
  have z1_3 := isRow_lt r1_3
  clear e3
  refine (l03Shape_any _ _ _ _ HF.out).mono ?_; rintro _ W4 ⟨rfl, hw4⟩
  obtain ⟨r1_4, c1_4, z1_4⟩ := keepZ hw4 z1_3 r1_3 c1_3
  obtain ⟨hb4, q4⟩ := bN hb3 hw4
  clear hw4 r1_3 c1_3 z1_3 hb3
  go_wp2_with fail
  refine (l03Fails_any p n f _ hp hp' hn HF.out Hs.out).mono ?_; rintro _ W5 ⟨rfl, hw5⟩
  obtain ⟨hb5, q5⟩ := bN hb4 hw5
  clear hw5 hb4
  go_wp2_with fail
  go_ret
  exact ⟨ret_bool (by rw [H.out]), bt⟩
end
end Go.Proofs.YtjmmmggnbndolaaGreat
