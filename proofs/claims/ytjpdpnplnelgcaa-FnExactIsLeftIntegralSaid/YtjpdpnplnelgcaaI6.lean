/- Law IsLeftIntegral. -/
import Derived.Test.YtjpdpnplnelgcaaI0
namespace Go.Proofs.Ytjpdpnplnelgcaa
open Go.RowKit
set_option linter.unusedSimpArgs false
set_option linter.unusedVariables false
attribute [local irreducible] wpQuiet wpQE

/-- e(i) v is the Counit of e(i) times v -/
def iliR (p : Int) (n : Nat) (f v : Nat → Int) (i : Nat) : Bool := segEq 0 8 (mulF p n (mtab f) (ebas i) v) (addm p 0 8 (coF f i) zf v)
def iliB (p : Int) (n : Nat) (f v : Nat → Int) : Bool := (List.range n).all (iliR p n f v)
theorem ili_row {p : Int} {n : Nat} {f v : Nat → Int} (hp : 0 < p) {i : Nat} : iliR p n f v i = true ↔ ∀ t, t < 8 → (mulF p n (mtab f) (ebas i) v t + -coF f i % p * v t) % p = 0 := by
  unfold iliR
  rw [segEq_iff]
  have e : ∀ t, t < 8 → (mulF p n (mtab f) (ebas i) v (0 + t) = addm p 0 8 (coF f i) zf v (0 + t) ↔ (mulF p n (mtab f) (ebas i) v t + -coF f i % p * v t) % p = 0) := fun t ht => by
    rw [Nat.zero_add]
    have a1 := mul_range hp n (mtab f) (ebas i) v t
    have a2 : mulF p n (mtab f) (ebas i) v t % p = mulF p n (mtab f) (ebas i) v t := Int.emod_eq_of_lt a1.1 a1.2
    have a3 : addm p 0 8 (coF f i) zf v t = coF f i * v t % p := by
      unfold addm zf
      rw [if_pos (by omega), Nat.sub_zero, Int.zero_add]
    have a4 : (-coF f i % p * v t) % p = (-(coF f i * v t)) % p := by rw [Int.mul_emod, Int.emod_emod, ← Int.mul_emod, Int.neg_mul]
    rw [a3, Int.add_emod, a4, ← Int.add_emod, ← Int.sub_eq_add_neg]
    constructor
    · intro h
      rw [h, Int.sub_emod, Int.emod_emod, Int.sub_self]; rfl
    · intro h
      rw [← a2]
      exact Int.emod_eq_emod_iff_emod_sub_eq_zero.2 h
  exact ⟨fun h t ht => (e t ht).1 (h t ht), fun h t ht => (e t ht).2 (h t ht)⟩
theorem ili_impl {p : Int} {n : Nat} {f v : Nat → Int} (hp : 0 < p) (hn : n ≤ 8) : segEq 0 64 (difK p n f v n) zf = iliB p n f v := by
  have key : segEq 0 64 (difK p n f v n) zf = true ↔ iliB p n f v = true := by
    unfold iliB
    rw [segEq_iff, List.all_eq_true]
    constructor
    · intro h i hi
      have hi : i < n := by simpa using hi
      refine (ili_row hp).2 fun t ht => ?_
      have := h (i * 8 + t) (by omega)
      unfold difK zf at this
      rw [if_pos (by omega), show (0 + (i * 8 + t)) / 8 = i by omega, show (0 + (i * 8 + t)) % 8 = t by omega] at this
      exact this
    · intro h t ht
      unfold difK zf
      split
      · rename_i hi
        exact (ili_row hp).1 (h ((0 + t) / 8) (by simpa using hi)) _ (by omega)
      · rfl
  cases h1 : segEq 0 64 (difK p n f v n) zf <;> cases h2 : iliB p n f v <;> simp_all

set_option maxRecDepth 100000 in
set_option maxHeartbeats 1000000 in
theorem has_any (p : Int) (n : Nat) (g v : Nat → Int) (w : World) (hp : 0 < p) (hp' : p ≤ 255) (hn : n ≤ 8) (hg : Bytes 528 g) (he : ∀ i, i < 8 → coF g i < p) (hv : Bytes 8 v) :
    Calls Try.prog 41 #[.agg (spc p n g), .agg (row 8 v)] w fun e w' => e = .returned (.bool (segEq 0 64 (difK p n g v n) zf)) ∧ Below w.heap.size w w' := by
  have Hg := Lib.hid hg; clear hg
  have He := Lib.hid he; clear he
  have Hv := Lib.hid hv; clear hv
  have H : Hid (segEq 0 64 (difK p n g v n) zf = segEq 0 64 (difK p n g v n) zf) := Lib.hid rfl
  go_enter Try.func41, Try.ntmps41
  go_wp2
  refine atomW fun W1 e1 => ?_
  have hb1 : Below w.heap.size w W1 := by rw [e1]; (repeat (first | exact Below.refl _ _ | refine Below.alloc ?_ (by first | omega | (simp; try omega)) _ | refine below_setRow ?_ (by omega) _ | refine Below.drew ?_))
  have q1 := hb1.size
  have R1 : IsRow W1 (w.heap.size) ∧ IsRow W1 (w.heap.size + 1) ∧ IsRow W1 (w.heap.size + 2) := by rw [e1]; simp [go_sem]
  obtain ⟨r2_1, r3_1, r5_1⟩ := R1
  have C1 := (⟨congrArg (blk · (w.heap.size)) e1, congrArg (blk · (w.heap.size + 1)) e1, congrArg (blk · (w.heap.size + 2)) e1⟩ : _ ∧ _ ∧ _); simp [go_sem] at C1
  obtain ⟨c2_1, c3_1, c5_1⟩ := C1
  have z2_1 := isRow_lt r2_1; have z3_1 := isRow_lt r3_1; have z5_1 := isRow_lt r5_1
  clear e1
  refine wp_quiet_all (Below W1.heap.size W1) (by kernel_rfl) (by kernel_rfl) (Below.refl _ _).drew ?_
  iterate 3 (refine q_plain rfl ?_; apply Exists.intro; refine ⟨fun W hW => ?_, ?_⟩; (focus (obtain ⟨x2, y2⟩ := keepB hW z2_1 r2_1 c2_1; obtain ⟨x3, y3⟩ := keepB hW z3_1 r3_1 c3_1; obtain ⟨x5, y5⟩ := keepB hW z5_1 r5_1 c5_1; go_simp; first | done | rfl)); simp only [Act.put, List.setIfInBounds_toArray, List.set_cons_zero, List.set_cons_succ])
  (refine q_plain rfl ?_; apply Exists.intro; refine ⟨fun W hW => ?_, ?_⟩; (focus (obtain ⟨x2, y2⟩ := keepB hW z2_1 r2_1 c2_1; obtain ⟨x3, y3⟩ := keepB hW z3_1 r3_1 c3_1; obtain ⟨x5, y5⟩ := keepB hW z5_1 r5_1 c5_1; go_simp; (go_at_call 116; exact (differences_any p n g v _ hp hp' hn Hg.out Hv.out He.out).mono fun e w2 ⟨he, hw2⟩ => ⟨he, hW.trans (hw2.mono hW.size)⟩))); simp only [Act.put, List.setIfInBounds_toArray, List.set_cons_zero, List.set_cons_succ])
  iterate 3 (refine q_plain rfl ?_; apply Exists.intro; refine ⟨fun W hW => ?_, ?_⟩; (focus (obtain ⟨x2, y2⟩ := keepB hW z2_1 r2_1 c2_1; obtain ⟨x3, y3⟩ := keepB hW z3_1 r3_1 c3_1; obtain ⟨x5, y5⟩ := keepB hW z5_1 r5_1 c5_1; go_simp; first | done | rfl)); simp only [Act.put, List.setIfInBounds_toArray, List.set_cons_zero, List.set_cons_succ])
  refine wpQuiet_nil ?_
  intro W2 hw2
  obtain ⟨r2_2, c2_2⟩ := keepB hw2 z2_1 r2_1 c2_1
  have z2_2 := isRow_lt r2_2
  obtain ⟨r3_2, c3_2⟩ := keepB hw2 z3_1 r3_1 c3_1
  have z3_2 := isRow_lt r3_2
  obtain ⟨r5_2, c5_2⟩ := keepB hw2 z5_1 r5_1 c5_1
  have z5_2 := isRow_lt r5_2
  have hb2 := hb1.trans (hw2.mono hb1.size)
  have q2 := hb2.size
  clear hw2 r2_1 c2_1 z2_1 r3_1 c3_1 z3_1 r5_1 c5_1 z5_1 hb1
  go_wp2_with fail
  go_ret
  exact ⟨rfl, (by (repeat (first | exact hb2 | exact Below.refl _ _ | refine Below.alloc ?_ (by first | omega | (simp; try omega)) _ | refine below_setRow ?_ (by omega) _ | refine Below.drew ?_)))⟩

def ilaB (p n : Int) (f v : Nat → Int) : Bool := okH p n f 1 (nth v) && iliB p n.toNat f v
theorem ila_no {p n : Int} {f v : Nat → Int} (h : okH p n f 1 (nth v) = false) : ilaB p n f v = false := by unfold ilaB; rw [h]; rfl
theorem ila_yes {p : Int} {n : Nat} {f v : Nat → Int} (h : okH p n f 1 (nth v) = true) : ilaB p n f v = iliB p n f v := by unfold ilaB; rw [h]; rfl

set_option maxRecDepth 100000 in
set_option maxHeartbeats 1000000 in
theorem isLeftIntegral_any (p n : Int) (f v : Nat → Int) (w : World) (hF : Bytes 1104 f) (hv : Bytes 8 v) :
    Calls Try.prog 12 #[.agg (hop p n f), .agg (row 8 v)] w fun e w' => e = .returned (.tuple #[.bool (ilaB p n f v), .int .i64 (codeB (okH p n f 1 (nth v)))]) ∧ Below w.heap.size w w' := by
  have HF := Lib.hid hF; clear hF
  have Hv := Lib.hid hv; clear hv
  cases hc : okH p n f 1 (nth v)
  · skip
    have H := Lib.hid (ila_no hc)
    go_enter Try.func12, Try.ntmps12
    go_wp2_with fail
    refine atomC fun W1 e1 => ?_
    have hb1 : Below w.heap.size w W1 := by rw [e1]; (repeat (first | exact Below.refl _ _ | refine Below.alloc ?_ (by first | omega | (simp; try omega)) _ | refine below_setRow ?_ (by omega) _ | refine Below.drew ?_))
    have q1 := hb1.size
    have R1 : IsRow W1 (w.heap.size) ∧ IsRow W1 (w.heap.size + 1) ∧ IsRow W1 (w.heap.size + 2) := by rw [e1]; simp [go_sem]
    obtain ⟨r2_1, r3_1, r8_1⟩ := R1
    have C1 := (⟨congrArg (blk · (w.heap.size)) e1, congrArg (blk · (w.heap.size + 1)) e1, congrArg (blk · (w.heap.size + 2)) e1⟩ : _ ∧ _ ∧ _); simp [go_sem] at C1
    obtain ⟨c2_1, c3_1, c8_1⟩ := C1
    have z2_1 := isRow_lt r2_1; have z3_1 := isRow_lt r3_1; have z8_1 := isRow_lt r8_1
    clear e1
    refine (isHopfWith_any _ _ _ _ 0 1 1 (nth v) _ HF.out (by omega) r8_1 (vecs1 c8_1 Hv.out)).mono ?_; rintro _ W2 ⟨rfl, hw2⟩
    obtain ⟨r2_2, c2_2⟩ := keepB hw2 z2_1 r2_1 c2_1
    have z2_2 := isRow_lt r2_2
    obtain ⟨r3_2, c3_2⟩ := keepB hw2 z3_1 r3_1 c3_1
    have z3_2 := isRow_lt r3_2
    obtain ⟨r8_2, c8_2⟩ := keepB hw2 z8_1 r8_1 c8_1
    have z8_2 := isRow_lt r8_2
    have hb2 := hb1.trans (hw2.mono hb1.size)
    have q2 := hb2.size
    clear hw2 r2_1 c2_1 z2_1 r3_1 c3_1 z3_1 r8_1 c8_1 z8_1 hb1
    go_wp2_with fail
    go_ret2
    exact ⟨by rw [H.out]; rfl, (by (repeat (first | exact hb2 | exact Below.refl _ _ | refine Below.alloc ?_ (by first | omega | (simp; try omega)) _ | refine below_setRow ?_ (by omega) _ | refine Below.drew ?_)))⟩
  · skip
    have hs := hopf_shape (okH_hopf hc)
    have Hk := Lib.hid hc
    have Hs := Lib.hid hs
    obtain ⟨hp2, hp31, hn1, hn8⟩ := sizes_range (shapeH_sizes hs)
    obtain ⟨n, rfl⟩ := Int.eq_ofNat_of_zero_le (show 0 ≤ n by omega)
    have hn : n ≤ 8 := by omega
    have hp : 0 < p := by omega
    have hp' : p ≤ 255 := by omega
    have H := Lib.hid (ila_yes hc)
    have HI := Lib.hid (ili_impl (f := f) (v := v) hp hn)
    go_enter Try.func12, Try.ntmps12
    go_wp2_with fail
    refine atomC fun W3 e3 => ?_
    have hb3 : Below w.heap.size w W3 := by rw [e3]; (repeat (first | exact Below.refl _ _ | refine Below.alloc ?_ (by first | omega | (simp; try omega)) _ | refine below_setRow ?_ (by omega) _ | refine Below.drew ?_))
    have q3 := hb3.size
    have R3 : IsRow W3 (w.heap.size) ∧ IsRow W3 (w.heap.size + 1) ∧ IsRow W3 (w.heap.size + 2) := by rw [e3]; simp [go_sem]
    obtain ⟨r2_3, r3_3, r8_3⟩ := R3
    have C3 := (⟨congrArg (blk · (w.heap.size)) e3, congrArg (blk · (w.heap.size + 1)) e3, congrArg (blk · (w.heap.size + 2)) e3⟩ : _ ∧ _ ∧ _); simp [go_sem] at C3
    obtain ⟨c2_3, c3_3, c8_3⟩ := C3
    have z2_3 := isRow_lt r2_3; have z3_3 := isRow_lt r3_3; have z8_3 := isRow_lt r8_3
    clear e3
    refine (isHopfWith_any _ _ _ _ 0 1 1 (nth v) _ HF.out (by omega) r8_3 (vecs1 c8_3 Hv.out)).mono ?_; rintro _ W4 ⟨rfl, hw4⟩
    obtain ⟨r2_4, c2_4⟩ := keepB hw4 z2_3 r2_3 c2_3
    have z2_4 := isRow_lt r2_4
    obtain ⟨r3_4, c3_4⟩ := keepB hw4 z3_3 r3_3 c3_3
    have z3_4 := isRow_lt r3_4
    obtain ⟨r8_4, c8_4⟩ := keepB hw4 z8_3 r8_3 c8_3
    have z8_4 := isRow_lt r8_4
    have hb4 := hb3.trans (hw4.mono hb3.size)
    have q4 := hb4.size
    clear hw4 r2_3 c2_3 z2_3 r3_3 c3_3 z3_3 r8_3 c8_3 z8_3 hb3
    go_wp2
    refine wp_quiet_all (Below W4.heap.size W4) (by kernel_rfl) (by kernel_rfl) (Below.refl _ _).drew ?_
    iterate 1 (refine q_plain rfl ?_; apply Exists.intro; refine ⟨fun W hW => ?_, ?_⟩; (focus (obtain ⟨x2, y2⟩ := keepB hW z2_4 r2_4 c2_4; obtain ⟨x3, y3⟩ := keepB hW z3_4 r3_4 c3_4; go_simp; first | done | rfl)); simp only [Act.put, List.setIfInBounds_toArray, List.set_cons_zero, List.set_cons_succ])
    (refine q_plain rfl ?_; apply Exists.intro; refine ⟨fun W hW => ?_, ?_⟩; (focus (obtain ⟨x2, y2⟩ := keepB hW z2_4 r2_4 c2_4; obtain ⟨x3, y3⟩ := keepB hW z3_4 r3_4 c3_4; go_simp; (go_at_call 40; exact (leftIntegrals_any _ _ _ _).mono fun e w2 ⟨he, hw2⟩ => ⟨he, hW.trans (hw2.mono hW.size)⟩))); simp only [Act.put, List.setIfInBounds_toArray, List.set_cons_zero, List.set_cons_succ])
    iterate 1 (refine q_plain rfl ?_; apply Exists.intro; refine ⟨fun W hW => ?_, ?_⟩; (focus (obtain ⟨x2, y2⟩ := keepB hW z2_4 r2_4 c2_4; obtain ⟨x3, y3⟩ := keepB hW z3_4 r3_4 c3_4; go_simp; first | done | rfl)); simp only [Act.put, List.setIfInBounds_toArray, List.set_cons_zero, List.set_cons_succ])
    (refine q_plain rfl ?_; apply Exists.intro; refine ⟨fun W hW => ?_, ?_⟩; (focus (obtain ⟨x2, y2⟩ := keepB hW z2_4 r2_4 c2_4; obtain ⟨x3, y3⟩ := keepB hW z3_4 r3_4 c3_4; go_simp; (go_at_call 41; exact (has_any p n f v _ hp hp' hn (fun t ht => HF.out t (by omega)) (fun i hi => (co_unit0 Hs.out i hi).1) Hv.out).mono fun e w2 ⟨he, hw2⟩ => ⟨he, hW.trans (hw2.mono hW.size)⟩))); simp only [Act.put, List.setIfInBounds_toArray, List.set_cons_zero, List.set_cons_succ])
    iterate 2 (refine q_plain rfl ?_; apply Exists.intro; refine ⟨fun W hW => ?_, ?_⟩; (focus (obtain ⟨x2, y2⟩ := keepB hW z2_4 r2_4 c2_4; obtain ⟨x3, y3⟩ := keepB hW z3_4 r3_4 c3_4; go_simp; first | done | rfl)); simp only [Act.put, List.setIfInBounds_toArray, List.set_cons_zero, List.set_cons_succ])
    refine wpQuiet_nil ?_
    intro W5 hw5
    obtain ⟨r2_5, c2_5⟩ := keepB hw5 z2_4 r2_4 c2_4
    have z2_5 := isRow_lt r2_5
    obtain ⟨r3_5, c3_5⟩ := keepB hw5 z3_4 r3_4 c3_4
    have z3_5 := isRow_lt r3_5
    have hb5 := hb4.trans (hw5.mono hb4.size)
    have q5 := hb5.size
    clear hw5 r2_4 c2_4 z2_4 r3_4 c3_4 z3_4 hb4
    go_wp2_with fail
    go_ret2
    exact ⟨by rw [H.out, HI.out]; rfl, (by (repeat (first | exact hb5 | exact Below.refl _ _ | refine Below.alloc ?_ (by first | omega | (simp; try omega)) _ | refine below_setRow ?_ (by omega) _ | refine Below.drew ?_)))⟩

set_option maxRecDepth 100000 in
set_option maxHeartbeats 1000000 in
theorem specIsLeftIntegral_any (p n : Int) (f v : Nat → Int) (w : World) (hF : Bytes 1104 f) (hv : Bytes 8 v) :
    Calls Try.prog 9 #[.agg (hop p n f), .agg (row 8 v)] w fun e w' => e = .returned (.tuple #[.bool (ilaB p n f v), .int .i64 (codeB (okH p n f 1 (nth v)))]) ∧ Below w.heap.size w w' := by
  have HF := Lib.hid hF; clear hF
  have Hv := Lib.hid hv; clear hv
  cases hc : okH p n f 1 (nth v)
  · skip
    have hc1 : codeB false = 1 := rfl
    have H := Lib.hid (ila_no hc)
    go_enter Try.func9, Try.ntmps9
    go_wp2_with fail
    refine atomC fun W1 e1 => ?_
    have hb1 : Below w.heap.size w W1 := by rw [e1]; (repeat (first | exact Below.refl _ _ | refine Below.alloc ?_ (by first | omega | (simp; try omega)) _ | refine below_setRow ?_ (by omega) _ | refine Below.drew ?_))
    have q1 := hb1.size
    have R1 : IsRow W1 (w.heap.size) ∧ IsRow W1 (w.heap.size + 1) ∧ IsRow W1 (w.heap.size + 2) := by rw [e1]; simp [go_sem]
    obtain ⟨r2_1, r3_1, r10_1⟩ := R1
    have C1 := (⟨congrArg (blk · (w.heap.size)) e1, congrArg (blk · (w.heap.size + 1)) e1, congrArg (blk · (w.heap.size + 2)) e1⟩ : _ ∧ _ ∧ _); simp [go_sem] at C1
    obtain ⟨c2_1, c3_1, c10_1⟩ := C1
    have z2_1 := isRow_lt r2_1; have z3_1 := isRow_lt r3_1; have z10_1 := isRow_lt r10_1
    clear e1
    refine (l03Code_any _ _ _ _ 0 1 1 (nth v) _ HF.out (by omega) r10_1 (vecs1 c10_1 Hv.out)).mono ?_; rintro _ W2 ⟨rfl, hw2⟩
    obtain ⟨r2_2, c2_2⟩ := keepB hw2 z2_1 r2_1 c2_1
    have z2_2 := isRow_lt r2_2
    obtain ⟨r3_2, c3_2⟩ := keepB hw2 z3_1 r3_1 c3_1
    have z3_2 := isRow_lt r3_2
    obtain ⟨r10_2, c10_2⟩ := keepB hw2 z10_1 r10_1 c10_1
    have z10_2 := isRow_lt r10_2
    have hb2 := hb1.trans (hw2.mono hb1.size)
    have q2 := hb2.size
    clear hw2 r2_1 c2_1 z2_1 r3_1 c3_1 z3_1 r10_1 c10_1 z10_1 hb1
    go_wp2_with fail
    go_ret2
    exact ⟨by rw [H.out]; rfl, (by (repeat (first | exact hb2 | exact Below.refl _ _ | refine Below.alloc ?_ (by first | omega | (simp; try omega)) _ | refine below_setRow ?_ (by omega) _ | refine Below.drew ?_)))⟩
  · skip
    have hs := hopf_shape (okH_hopf hc)
    have Hk := Lib.hid hc
    have Hs := Lib.hid hs
    obtain ⟨hp2, hp31, hn1, hn8⟩ := sizes_range (shapeH_sizes hs)
    obtain ⟨n, rfl⟩ := Int.eq_ofNat_of_zero_le (show 0 ≤ n by omega)
    have hn : n ≤ 8 := by omega
    have hp : 0 < p := by omega
    have hp' : p ≤ 255 := by omega
    have H := Lib.hid (ila_yes hc)
    have hc1 : codeB true = 0 := rfl
    go_enter Try.func9, Try.ntmps9
    go_wp2_with fail
    refine atomC fun W3 e3 => ?_
    have hb3 : Below w.heap.size w W3 := by rw [e3]; (repeat (first | exact Below.refl _ _ | refine Below.alloc ?_ (by first | omega | (simp; try omega)) _ | refine below_setRow ?_ (by omega) _ | refine Below.drew ?_))
    have q3 := hb3.size
    have R3 : IsRow W3 (w.heap.size) ∧ IsRow W3 (w.heap.size + 1) ∧ IsRow W3 (w.heap.size + 2) := by rw [e3]; simp [go_sem]
    obtain ⟨r2_3, r3_3, r10_3⟩ := R3
    have C3 := (⟨congrArg (blk · (w.heap.size)) e3, congrArg (blk · (w.heap.size + 1)) e3, congrArg (blk · (w.heap.size + 2)) e3⟩ : _ ∧ _ ∧ _); simp [go_sem] at C3
    obtain ⟨c2_3, c3_3, c10_3⟩ := C3
    have z2_3 := isRow_lt r2_3; have z3_3 := isRow_lt r3_3; have z10_3 := isRow_lt r10_3
    clear e3
    refine (l03Code_any _ _ _ _ 0 1 1 (nth v) _ HF.out (by omega) r10_3 (vecs1 c10_3 Hv.out)).mono ?_; rintro _ W4 ⟨rfl, hw4⟩
    obtain ⟨r2_4, c2_4⟩ := keepB hw4 z2_3 r2_3 c2_3
    have z2_4 := isRow_lt r2_4
    obtain ⟨r3_4, c3_4⟩ := keepB hw4 z3_3 r3_3 c3_3
    have z3_4 := isRow_lt r3_4
    obtain ⟨r10_4, c10_4⟩ := keepB hw4 z10_3 r10_3 c10_3
    have z10_4 := isRow_lt r10_4
    have hb4 := hb3.trans (hw4.mono hb3.size)
    have q4 := hb4.size
    clear hw4 r2_3 c2_3 z2_3 r3_3 c3_3 z3_3 r10_3 c10_3 z10_3 hb3
    go_wp2
    go_loopw [7] (fun s7 wr => ∃ i : Nat, i ≤ n ∧ s7 = .int .i64 i ∧ Below w.heap.size w wr ∧ (IsRow wr (w.heap.size) ∧ blk wr (w.heap.size) = blk W4 (w.heap.size)) ∧ (IsRow wr (w.heap.size + 1) ∧ blk wr (w.heap.size + 1) = blk W4 (w.heap.size + 1)) ∧ ∀ a, a < i → iliR p n f v a = true) (fun s7 _ => n - (intOf s7).toNat)
    case atStart => exact ⟨0, by omega, rfl, hb4, ⟨r2_4, rfl⟩, ⟨r3_4, rfl⟩, fun a ha => by omega⟩
    case round =>
      obtain ⟨i, hle5, rfl, hb5, ⟨r2_5, c2_5⟩, ⟨r3_5, c3_5⟩, hx5⟩ := hrel
      obtain ⟨W5, rfl⟩ : ∃ W5 : World, W5 = wr := ⟨_, rfl⟩
      have q5 := hb5.size
      have HX5 := Lib.hid hx5; clear hx5
      have E2_5 := Lib.hid c2_4; replace c2_5 := c2_5.trans c2_4
      have z2_5 := isRow_lt r2_5
      have E3_5 := Lib.hid c3_4; replace c3_5 := c3_5.trans c3_4
      have z3_5 := isRow_lt r3_5
      clear r2_4 c2_4 z2_4 r3_4 c3_4 z3_4 hb4
      by_cases hlt5 : i < n
      · skip
        have i0_5 : (0 : Int) ≤ (i : Int) := by omega
        have i8_5 : (i : Int) < 8 := by omega
        have k8_5 : i < 8 := by omega
        have m8_5 : i * 8 + 8 ≤ 64 := by omega
        have m64_5 : i * 64 + 64 ≤ 512 := by omega
        have l1_5 : 10 + i * 64 + 64 ≤ 522 := by omega
        cases h0 : iliR p n f v i
        · skip
          have e9 := hop_cq p n f i (by omega)
          have HCe := Lib.hid (co_unit HF.out i (by omega))
          have ce0 := HCe.out.1; have ce1 := HCe.out.2
          have q1 : IntKind.i64.wrap (coF f i) = coF f i := IntWalk.i64_in _ (by omega)
          have H2 : Hid (iliB p n f v = false) := Lib.hid (all_no (q := iliR p n f v) i n (by omega) h0)
          have h1 : segEq 0 8 (mulF p n (mtab f) (ebas i) v) (addm p 0 8 (coF f i) zf v) = false := h0
          go_wp2
          refine wp_quiet_all (Below W5.heap.size W5) (by kernel_rfl) (by kernel_rfl) (Below.refl _ _).drew ?_
          iterate 1 (refine q_plain rfl ?_; apply Exists.intro; refine ⟨fun W hW => ?_, ?_⟩; (focus (obtain ⟨x2, y2⟩ := keepB hW z2_5 r2_5 c2_5; obtain ⟨x3, y3⟩ := keepB hW z3_5 r3_5 c3_5; go_simp; first | done | rfl)); simp only [Act.put, List.setIfInBounds_toArray, List.set_cons_zero, List.set_cons_succ])
          (refine q_plain rfl ?_; apply Exists.intro; refine ⟨fun W hW => ?_, ?_⟩; (focus (obtain ⟨x2, y2⟩ := keepB hW z2_5 r2_5 c2_5; obtain ⟨x3, y3⟩ := keepB hW z3_5 r3_5 c3_5; go_simp; (go_at_call 34; exact (l03Algebra_any _ _ _ _).mono fun e w2 ⟨he, hw2⟩ => ⟨he, hW.trans (hw2.mono hW.size)⟩))); simp only [Act.put, List.setIfInBounds_toArray, List.set_cons_zero, List.set_cons_succ])
          iterate 1 (refine q_plain rfl ?_; apply Exists.intro; refine ⟨fun W hW => ?_, ?_⟩; (focus (obtain ⟨x2, y2⟩ := keepB hW z2_5 r2_5 c2_5; obtain ⟨x3, y3⟩ := keepB hW z3_5 r3_5 c3_5; go_simp; first | done | rfl)); simp only [Act.put, List.setIfInBounds_toArray, List.set_cons_zero, List.set_cons_succ])
          (refine q_plain rfl ?_; apply Exists.intro; refine ⟨fun W hW => ?_, ?_⟩; (focus (obtain ⟨x2, y2⟩ := keepB hW z2_5 r2_5 c2_5; obtain ⟨x3, y3⟩ := keepB hW z3_5 r3_5 c3_5; go_simp; (go_at_call 35; exact (l01BasisAt i (by omega) _).mono fun e w2 ⟨he, hw2⟩ => ⟨he, hW.trans (hw2.mono hW.size)⟩))); simp only [Act.put, List.setIfInBounds_toArray, List.set_cons_zero, List.set_cons_succ])
          iterate 1 (refine q_plain rfl ?_; apply Exists.intro; refine ⟨fun W hW => ?_, ?_⟩; (focus (obtain ⟨x2, y2⟩ := keepB hW z2_5 r2_5 c2_5; obtain ⟨x3, y3⟩ := keepB hW z3_5 r3_5 c3_5; go_simp; first | done | rfl)); simp only [Act.put, List.setIfInBounds_toArray, List.set_cons_zero, List.set_cons_succ])
          (refine q_plain rfl ?_; apply Exists.intro; refine ⟨fun W hW => ?_, ?_⟩; (focus (obtain ⟨x2, y2⟩ := keepB hW z2_5 r2_5 c2_5; obtain ⟨x3, y3⟩ := keepB hW z3_5 r3_5 c3_5; go_simp; (go_at_call 33; exact (l01Times_any p n f (ebas i) v _ hp hp' hn (hop_bytes HF.out) (ebas_bytes i) Hv.out).mono fun e w2 ⟨he, hw2⟩ => ⟨he, hW.trans (hw2.mono hW.size)⟩))); simp only [Act.put, List.setIfInBounds_toArray, List.set_cons_zero, List.set_cons_succ])
          iterate 9 (refine q_plain rfl ?_; apply Exists.intro; refine ⟨fun W hW => ?_, ?_⟩; (focus (obtain ⟨x2, y2⟩ := keepB hW z2_5 r2_5 c2_5; obtain ⟨x3, y3⟩ := keepB hW z3_5 r3_5 c3_5; go_simp; first | done | rfl)); simp only [Act.put, List.setIfInBounds_toArray, List.set_cons_zero, List.set_cons_succ])
          (refine q_plain rfl ?_; apply Exists.intro; refine ⟨fun W hW => ?_, ?_⟩; (focus (obtain ⟨x2, y2⟩ := keepB hW z2_5 r2_5 c2_5; obtain ⟨x3, y3⟩ := keepB hW z3_5 r3_5 c3_5; go_simp; (go_at_call 36; exact (l01Add_any _ _ _ _ _ hp hp' (by omega) (by omega) (fun t _ => by unfold zf; omega) Hv.out).mono fun e w2 ⟨he, hw2⟩ => ⟨he, hW.trans (hw2.mono hW.size)⟩))); simp only [Act.put, List.setIfInBounds_toArray, List.set_cons_zero, List.set_cons_succ])
          iterate 1 (refine q_plain rfl ?_; apply Exists.intro; refine ⟨fun W hW => ?_, ?_⟩; (focus (obtain ⟨x2, y2⟩ := keepB hW z2_5 r2_5 c2_5; obtain ⟨x3, y3⟩ := keepB hW z3_5 r3_5 c3_5; go_simp; first | done | rfl)); simp only [Act.put, List.setIfInBounds_toArray, List.set_cons_zero, List.set_cons_succ])
          refine wpQuiet_nil ?_
          intro W6 hw6
          obtain ⟨r2_6, c2_6⟩ := keepB hw6 z2_5 r2_5 c2_5
          have z2_6 := isRow_lt r2_6
          obtain ⟨r3_6, c3_6⟩ := keepB hw6 z3_5 r3_5 c3_5
          have z3_6 := isRow_lt r3_6
          have hb6 := hb5.trans (hw6.mono hb5.size)
          have q6 := hb6.size
          clear hw6 r2_5 c2_5 z2_5 r3_5 c3_5 z3_5 hb5
          go_wp2_with fail
          go_ret2
          exact ⟨by rw [H.out, H2.out]; rfl, (by (repeat (first | exact hb6 | exact Below.refl _ _ | refine Below.alloc ?_ (by first | omega | (simp; try omega)) _ | refine below_setRow ?_ (by omega) _ | refine Below.drew ?_)))⟩
        · skip
          have e9 := hop_cq p n f i (by omega)
          have HCe := Lib.hid (co_unit HF.out i (by omega))
          have ce0 := HCe.out.1; have ce1 := HCe.out.2
          have q1 : IntKind.i64.wrap (coF f i) = coF f i := IntWalk.i64_in _ (by omega)
          have h1 : segEq 0 8 (mulF p n (mtab f) (ebas i) v) (addm p 0 8 (coF f i) zf v) = true := h0
          have H2 := Lib.hid (upto_more (q := iliR p n f v) HX5.out h0)
          go_wp2
          refine wp_quiet_all (Below W5.heap.size W5) (by kernel_rfl) (by kernel_rfl) (Below.refl _ _).drew ?_
          iterate 1 (refine q_plain rfl ?_; apply Exists.intro; refine ⟨fun W hW => ?_, ?_⟩; (focus (obtain ⟨x2, y2⟩ := keepB hW z2_5 r2_5 c2_5; obtain ⟨x3, y3⟩ := keepB hW z3_5 r3_5 c3_5; go_simp; first | done | rfl)); simp only [Act.put, List.setIfInBounds_toArray, List.set_cons_zero, List.set_cons_succ])
          (refine q_plain rfl ?_; apply Exists.intro; refine ⟨fun W hW => ?_, ?_⟩; (focus (obtain ⟨x2, y2⟩ := keepB hW z2_5 r2_5 c2_5; obtain ⟨x3, y3⟩ := keepB hW z3_5 r3_5 c3_5; go_simp; (go_at_call 34; exact (l03Algebra_any _ _ _ _).mono fun e w2 ⟨he, hw2⟩ => ⟨he, hW.trans (hw2.mono hW.size)⟩))); simp only [Act.put, List.setIfInBounds_toArray, List.set_cons_zero, List.set_cons_succ])
          iterate 1 (refine q_plain rfl ?_; apply Exists.intro; refine ⟨fun W hW => ?_, ?_⟩; (focus (obtain ⟨x2, y2⟩ := keepB hW z2_5 r2_5 c2_5; obtain ⟨x3, y3⟩ := keepB hW z3_5 r3_5 c3_5; go_simp; first | done | rfl)); simp only [Act.put, List.setIfInBounds_toArray, List.set_cons_zero, List.set_cons_succ])
          (refine q_plain rfl ?_; apply Exists.intro; refine ⟨fun W hW => ?_, ?_⟩; (focus (obtain ⟨x2, y2⟩ := keepB hW z2_5 r2_5 c2_5; obtain ⟨x3, y3⟩ := keepB hW z3_5 r3_5 c3_5; go_simp; (go_at_call 35; exact (l01BasisAt i (by omega) _).mono fun e w2 ⟨he, hw2⟩ => ⟨he, hW.trans (hw2.mono hW.size)⟩))); simp only [Act.put, List.setIfInBounds_toArray, List.set_cons_zero, List.set_cons_succ])
          iterate 1 (refine q_plain rfl ?_; apply Exists.intro; refine ⟨fun W hW => ?_, ?_⟩; (focus (obtain ⟨x2, y2⟩ := keepB hW z2_5 r2_5 c2_5; obtain ⟨x3, y3⟩ := keepB hW z3_5 r3_5 c3_5; go_simp; first | done | rfl)); simp only [Act.put, List.setIfInBounds_toArray, List.set_cons_zero, List.set_cons_succ])
          (refine q_plain rfl ?_; apply Exists.intro; refine ⟨fun W hW => ?_, ?_⟩; (focus (obtain ⟨x2, y2⟩ := keepB hW z2_5 r2_5 c2_5; obtain ⟨x3, y3⟩ := keepB hW z3_5 r3_5 c3_5; go_simp; (go_at_call 33; exact (l01Times_any p n f (ebas i) v _ hp hp' hn (hop_bytes HF.out) (ebas_bytes i) Hv.out).mono fun e w2 ⟨he, hw2⟩ => ⟨he, hW.trans (hw2.mono hW.size)⟩))); simp only [Act.put, List.setIfInBounds_toArray, List.set_cons_zero, List.set_cons_succ])
          iterate 9 (refine q_plain rfl ?_; apply Exists.intro; refine ⟨fun W hW => ?_, ?_⟩; (focus (obtain ⟨x2, y2⟩ := keepB hW z2_5 r2_5 c2_5; obtain ⟨x3, y3⟩ := keepB hW z3_5 r3_5 c3_5; go_simp; first | done | rfl)); simp only [Act.put, List.setIfInBounds_toArray, List.set_cons_zero, List.set_cons_succ])
          (refine q_plain rfl ?_; apply Exists.intro; refine ⟨fun W hW => ?_, ?_⟩; (focus (obtain ⟨x2, y2⟩ := keepB hW z2_5 r2_5 c2_5; obtain ⟨x3, y3⟩ := keepB hW z3_5 r3_5 c3_5; go_simp; (go_at_call 36; exact (l01Add_any _ _ _ _ _ hp hp' (by omega) (by omega) (fun t _ => by unfold zf; omega) Hv.out).mono fun e w2 ⟨he, hw2⟩ => ⟨he, hW.trans (hw2.mono hW.size)⟩))); simp only [Act.put, List.setIfInBounds_toArray, List.set_cons_zero, List.set_cons_succ])
          iterate 1 (refine q_plain rfl ?_; apply Exists.intro; refine ⟨fun W hW => ?_, ?_⟩; (focus (obtain ⟨x2, y2⟩ := keepB hW z2_5 r2_5 c2_5; obtain ⟨x3, y3⟩ := keepB hW z3_5 r3_5 c3_5; go_simp; first | done | rfl)); simp only [Act.put, List.setIfInBounds_toArray, List.set_cons_zero, List.set_cons_succ])
          refine wpQuiet_nil ?_
          intro W7 hw7
          obtain ⟨r2_7, c2_7⟩ := keepB hw7 z2_5 r2_5 c2_5
          have z2_7 := isRow_lt r2_7
          obtain ⟨r3_7, c3_7⟩ := keepB hw7 z3_5 r3_5 c3_5
          have z3_7 := isRow_lt r3_7
          have hb7 := hb5.trans (hw7.mono hb5.size)
          have q7 := hb7.size
          clear hw7 r2_5 c2_5 z2_5 r3_5 c3_5 z3_5 hb5
          go_wp2
          go_roundw
          case rel => exact ⟨i + 1, by omega, by go_num, (by (repeat (first | exact hb7 | exact Below.refl _ _ | refine Below.alloc ?_ (by first | omega | (simp; try omega)) _ | refine below_setRow ?_ (by omega) _ | refine Below.drew ?_))), ⟨by simp [go_sem, r2_7, c2_7, r3_7, c3_7], (by rw [E2_5.out]; first | exact c2_7 | (simp [go_sem, r2_7, c2_7, r3_7, c3_7]; done))⟩, ⟨by simp [go_sem, r2_7, c2_7, r3_7, c3_7], (by rw [E3_5.out]; first | exact c3_7 | (simp [go_sem, r2_7, c2_7, r3_7, c3_7]; done))⟩, H2.out⟩
          case measure => simp [intOf]; try omega
      · skip
        obtain rfl : n = i := by omega
        have H2 : Hid (iliB p n f v = true) := Lib.hid (all_yes (q := iliR p n f v) n fun a ha => HX5.out a ha)
        go_wp2_with fail
        go_ret2
        exact ⟨by rw [H.out, H2.out]; rfl, (by (repeat (first | exact hb5 | exact Below.refl _ _ | refine Below.alloc ?_ (by first | omega | (simp; try omega)) _ | refine below_setRow ?_ (by omega) _ | refine Below.drew ?_)))⟩

set_option maxRecDepth 100000 in
set_option maxHeartbeats 2000000 in
theorem lawIsLeftIntegral (fp fn : Int) (f : Nat → Int) (v : Nat → Int) (w : World) (_wfp : (Lit.int .i64 fp).wf = true) (_wfn : (Lit.int .i64 fn).wf = true) (hf : Bytes 1104 f) (hv : Bytes 8 v) :
    Calls Try.prog 3 #[.agg (hop fp fn f), .agg (row 8 v)] w fun e w' => e = .returned (.bool true) ∧ Below w.heap.size w w' := by
  have Hf := Lib.hid hf; clear hf
  have Hv := Lib.hid hv; clear hv
  go_enter Try.func3, Try.ntmps3
  go_wp2
  refine atomW fun W1 e1 => ?_
  have hb1 : Below w.heap.size w W1 := by rw [e1]; (repeat (first | exact Below.refl _ _ | refine Below.alloc ?_ (by first | omega | (simp; try omega)) _ | refine below_setRow ?_ (by omega) _ | refine Below.drew ?_))
  have q1 := hb1.size
  have R1 : IsRow W1 (w.heap.size) ∧ IsRow W1 (w.heap.size + 1) := by rw [e1]; simp [go_sem]
  obtain ⟨r2_1, r3_1⟩ := R1
  have C1 := (⟨congrArg (blk · (w.heap.size)) e1, congrArg (blk · (w.heap.size + 1)) e1⟩ : _ ∧ _); simp [go_sem] at C1
  obtain ⟨c2_1, c3_1⟩ := C1
  have z2_1 := isRow_lt r2_1; have z3_1 := isRow_lt r3_1
  clear e1
  refine wp_quiet_all (Below W1.heap.size W1) (by kernel_rfl) (by kernel_rfl) (Below.refl _ _).drew ?_
  iterate 1 (refine q_plain rfl ?_; apply Exists.intro; refine ⟨fun W hW => ?_, ?_⟩; (focus (obtain ⟨x2, y2⟩ := keepB hW z2_1 r2_1 c2_1; obtain ⟨x3, y3⟩ := keepB hW z3_1 r3_1 c3_1; go_simp; first | done | rfl)); simp only [Act.put, List.setIfInBounds_toArray, List.set_cons_zero, List.set_cons_succ])
  (refine q_plain rfl ?_; apply Exists.intro; refine ⟨fun W hW => ?_, ?_⟩; (focus (obtain ⟨x2, y2⟩ := keepB hW z2_1 r2_1 c2_1; obtain ⟨x3, y3⟩ := keepB hW z3_1 r3_1 c3_1; go_simp; (go_at_call 10; exact (toHopf_any _ _ _ _).mono fun e w2 ⟨he, hw2⟩ => ⟨he, hW.trans (hw2.mono hW.size)⟩))); simp only [Act.put, List.setIfInBounds_toArray, List.set_cons_zero, List.set_cons_succ])
  iterate 1 (refine q_plain rfl ?_; apply Exists.intro; refine ⟨fun W hW => ?_, ?_⟩; (focus (obtain ⟨x2, y2⟩ := keepB hW z2_1 r2_1 c2_1; obtain ⟨x3, y3⟩ := keepB hW z3_1 r3_1 c3_1; go_simp; first | done | rfl)); simp only [Act.put, List.setIfInBounds_toArray, List.set_cons_zero, List.set_cons_succ])
  (refine q_plain rfl ?_; apply Exists.intro; refine ⟨fun W hW => ?_, ?_⟩; (focus (obtain ⟨x2, y2⟩ := keepB hW z2_1 r2_1 c2_1; obtain ⟨x3, y3⟩ := keepB hW z3_1 r3_1 c3_1; go_simp; (go_at_call 11; exact (toVector_any _ _).mono fun e w2 ⟨he, hw2⟩ => ⟨he, hW.trans (hw2.mono hW.size)⟩))); simp only [Act.put, List.setIfInBounds_toArray, List.set_cons_zero, List.set_cons_succ])
  (refine q_plain rfl ?_; apply Exists.intro; refine ⟨fun W hW => ?_, ?_⟩; (focus (obtain ⟨x2, y2⟩ := keepB hW z2_1 r2_1 c2_1; obtain ⟨x3, y3⟩ := keepB hW z3_1 r3_1 c3_1; go_simp; (go_at_call 9; exact (specIsLeftIntegral_any _ _ _ _ _ Hf.out Hv.out).mono fun e w2 ⟨he, hw2⟩ => ⟨he, hW.trans (hw2.mono hW.size)⟩))); simp only [Act.put, List.setIfInBounds_toArray, List.set_cons_zero, List.set_cons_succ])
  iterate 5 (refine q_plain rfl ?_; apply Exists.intro; refine ⟨fun W hW => ?_, ?_⟩; (focus (obtain ⟨x2, y2⟩ := keepB hW z2_1 r2_1 c2_1; obtain ⟨x3, y3⟩ := keepB hW z3_1 r3_1 c3_1; go_simp; first | done | rfl)); simp only [Act.put, List.setIfInBounds_toArray, List.set_cons_zero, List.set_cons_succ])
  refine wpQuiet_nil ?_
  intro W2 hw2
  obtain ⟨r2_2, c2_2⟩ := keepB hw2 z2_1 r2_1 c2_1
  have z2_2 := isRow_lt r2_2
  obtain ⟨r3_2, c3_2⟩ := keepB hw2 z3_1 r3_1 c3_1
  have z3_2 := isRow_lt r3_2
  have hb2 := hb1.trans (hw2.mono hb1.size)
  have q2 := hb2.size
  clear hw2 r2_1 c2_1 z2_1 r3_1 c3_1 z3_1 hb1
  go_wp2
  refine wp_quiet_all (Below W2.heap.size W2) (by kernel_rfl) (by kernel_rfl) (Below.refl _ _).drew ?_
  iterate 1 (refine q_plain rfl ?_; apply Exists.intro; refine ⟨fun W hW => ?_, ?_⟩; (focus (obtain ⟨x2, y2⟩ := keepB hW z2_2 r2_2 c2_2; obtain ⟨x3, y3⟩ := keepB hW z3_2 r3_2 c3_2; go_simp; first | done | rfl)); simp only [Act.put, List.setIfInBounds_toArray, List.set_cons_zero, List.set_cons_succ])
  (refine q_plain rfl ?_; apply Exists.intro; refine ⟨fun W hW => ?_, ?_⟩; (focus (obtain ⟨x2, y2⟩ := keepB hW z2_2 r2_2 c2_2; obtain ⟨x3, y3⟩ := keepB hW z3_2 r3_2 c3_2; go_simp; (go_at_call 10; exact (toHopf_any _ _ _ _).mono fun e w2 ⟨he, hw2⟩ => ⟨he, hW.trans (hw2.mono hW.size)⟩))); simp only [Act.put, List.setIfInBounds_toArray, List.set_cons_zero, List.set_cons_succ])
  iterate 1 (refine q_plain rfl ?_; apply Exists.intro; refine ⟨fun W hW => ?_, ?_⟩; (focus (obtain ⟨x2, y2⟩ := keepB hW z2_2 r2_2 c2_2; obtain ⟨x3, y3⟩ := keepB hW z3_2 r3_2 c3_2; go_simp; first | done | rfl)); simp only [Act.put, List.setIfInBounds_toArray, List.set_cons_zero, List.set_cons_succ])
  (refine q_plain rfl ?_; apply Exists.intro; refine ⟨fun W hW => ?_, ?_⟩; (focus (obtain ⟨x2, y2⟩ := keepB hW z2_2 r2_2 c2_2; obtain ⟨x3, y3⟩ := keepB hW z3_2 r3_2 c3_2; go_simp; (go_at_call 11; exact (toVector_any _ _).mono fun e w2 ⟨he, hw2⟩ => ⟨he, hW.trans (hw2.mono hW.size)⟩))); simp only [Act.put, List.setIfInBounds_toArray, List.set_cons_zero, List.set_cons_succ])
  (refine q_plain rfl ?_; apply Exists.intro; refine ⟨fun W hW => ?_, ?_⟩; (focus (obtain ⟨x2, y2⟩ := keepB hW z2_2 r2_2 c2_2; obtain ⟨x3, y3⟩ := keepB hW z3_2 r3_2 c3_2; go_simp; (go_at_call 12; exact (isLeftIntegral_any _ _ _ _ _ Hf.out Hv.out).mono fun e w2 ⟨he, hw2⟩ => ⟨he, hW.trans (hw2.mono hW.size)⟩))); simp only [Act.put, List.setIfInBounds_toArray, List.set_cons_zero, List.set_cons_succ])
  iterate 5 (refine q_plain rfl ?_; apply Exists.intro; refine ⟨fun W hW => ?_, ?_⟩; (focus (obtain ⟨x2, y2⟩ := keepB hW z2_2 r2_2 c2_2; obtain ⟨x3, y3⟩ := keepB hW z3_2 r3_2 c3_2; go_simp; first | done | rfl)); simp only [Act.put, List.setIfInBounds_toArray, List.set_cons_zero, List.set_cons_succ])
  refine wpQuiet_nil ?_
  intro W3 hw3
  obtain ⟨r2_3, c2_3⟩ := keepB hw3 z2_2 r2_2 c2_2
  have z2_3 := isRow_lt r2_3
  obtain ⟨r3_3, c3_3⟩ := keepB hw3 z3_2 r3_2 c3_2
  have z3_3 := isRow_lt r3_3
  have hb3 := hb2.trans (hw3.mono hb2.size)
  have q3 := hb3.size
  clear hw3 r2_2 c2_2 z2_2 r3_2 c3_2 z3_2 hb2
  go_wp2_with fail
  go_ret
  exact ⟨rfl, (by (repeat (first | exact hb3 | exact Below.refl _ _ | refine Below.alloc ?_ (by first | omega | (simp; try omega)) _ | refine below_setRow ?_ (by omega) _ | refine Below.drew ?_)))⟩

end Go.Proofs.Ytjpdpnplnelgcaa
