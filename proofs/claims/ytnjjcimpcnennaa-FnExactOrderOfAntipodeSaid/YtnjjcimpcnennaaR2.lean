/- Products of tables of two vectors, convolutions, coproducts and Counits in Hopf algebras, sums of axioms 6 and 7. -/
import Derived.Test.YtnjjcimpcnennaaR1
import Derived.Test.YtnjjcimpcnennaaP16
namespace Go.Proofs.Ytnjjcimpcnennaa
open Go.RowKit
set_option linter.unusedSimpArgs false
set_option linter.unusedVariables false
attribute [local irreducible] wpQuiet wpQE

/-- the sum over the first i rows of n, and j of row i -/
def dsumK (T : Nat → Nat → Int) (n i j : Nat) : Int := sumTo (fun a => sumTo (T a) n) i + sumTo (T i) j
theorem dsum_zero (T : Nat → Nat → Int) (n : Nat) : dsumK T n 0 0 = 0 := by simp [dsumK, sumTo]
theorem dsum_step (T : Nat → Nat → Int) (n i j : Nat) : dsumK T n i (j + 1) = dsumK T n i j + T i j := by unfold dsumK; rw [sumTo, Int.add_assoc]
theorem dsum_row (T : Nat → Nat → Int) (n i : Nat) : dsumK T n i n = dsumK T n (i + 1) 0 := by unfold dsumK; rw [sumTo, sumTo, Int.add_zero]
theorem dsum_all (T : Nat → Nat → Int) (n i : Nat) : dsumK T n i 0 = sumTo (fun a => sumTo (T a) n) i := by unfold dsumK; rw [sumTo, Int.add_zero]
theorem mod_add_mul (a b c d p : Int) : (a % p + b * c % p * d) % p = (a + b * c * d) % p := by
  rw [Int.emod_add_emod, Int.add_emod, Int.mul_emod (b * c % p), Int.emod_emod, ← Int.mul_emod, ← Int.add_emod]

/-! ### products of pairs -/
/-- what stands at x, y for a pair of rows -/
def ppT (p : Int) (n : Nat) (f m q : Nat → Int) (x y a b : Nat) : Int := mtab f a b x * mulF p n (mtab f) (fun t => m (a * 8 + t)) (fun t => q (b * 8 + t)) y
def ppK (p : Int) (n : Nat) (f m q : Nat → Int) (i j : Nat) : Nat → Int := fun t => dsumK (ppT p n f m q (t / 8) (t % 8)) n i j % p
theorem pp_zero (p : Int) (n : Nat) (f m q : Nat → Int) : row 64 zf = row 64 (ppK p n f m q 0 0) := row_congr fun t _ => by unfold ppK zf; rw [dsum_zero]; simp
theorem pp_step (p : Int) (n : Nat) (f m q : Nat → Int) (i j : Nat) : row 64 (pairK p (ppK p n f m q i j) 1 (mtab f i j) (mulF p n (mtab f) (fun t => m (i * 8 + t)) (fun t => q (j * 8 + t))) 8) = row 64 (ppK p n f m q i (j + 1)) := row_congr fun t _ => by
  unfold pairK ppK
  rw [if_pos (by omega), mod_add_mul, Int.one_mul, dsum_step]; rfl
theorem pp_row (p : Int) (n : Nat) (f m q : Nat → Int) (i : Nat) : row 64 (ppK p n f m q i n) = row 64 (ppK p n f m q (i + 1) 0) := row_congr fun t _ => by unfold ppK; rw [dsum_row]
theorem pp_range {p : Int} (hp : 0 < p) (n : Nat) (f m q : Nat → Int) (i j t : Nat) : 0 ≤ ppK p n f m q i j t ∧ ppK p n f m q i j t < p := mod_range _ p hp
theorem part_bytes {m : Nat → Int} (h : Bytes 64 m) (i : Nat) (hi : i < 8) : Bytes 8 fun t => m (i * 8 + t) := fun t ht => h _ (by omega)

set_option maxRecDepth 100000 in
set_option maxHeartbeats 1000000 in
theorem multiplyPairs_any (p : Int) (n : Nat) (f m q : Nat → Int) (w : World) (hp : 0 < p) (hp' : p ≤ 255) (hn : n ≤ 8) (hF : Bytes 520 f) (hm : Bytes 64 m) (hq : Bytes 64 q) :
    Calls Try.prog 84 #[.agg (alg p n f), .agg (row 64 m), .agg (row 64 q)] w fun e w' => e = .returned (.agg (row 64 (ppK p n f m q n 0))) ∧ Below w.heap.size w w' := by
  have HF := Lib.hid hF; clear hF
  have Hm := Lib.hid hm; clear hm
  have Hq := Lib.hid hq; clear hq
  go_enter Try.func84, Try.ntmps84
  go_wp2
  refine atomW fun W1 e1 => ?_
  have hb1 : Below w.heap.size w W1 := by rw [e1]; (repeat (first | exact Below.refl _ _ | refine Below.alloc ?_ (by first | omega | (simp; try omega)) _ | refine below_setRow ?_ (by omega) _ | refine Below.drew ?_))
  have q1 := hb1.size
  have r3_1 : IsRow W1 (w.heap.size) := by rw [e1]; simp [go_sem]
  have c3_1 := congrArg (fun x => blk x (w.heap.size)) e1; simp [go_sem] at c3_1
  have z3_1 := isRow_lt r3_1
  have r4_1 : IsRow W1 (w.heap.size + 1) := by rw [e1]; simp [go_sem]
  have c4_1 := congrArg (fun x => blk x (w.heap.size + 1)) e1; simp [go_sem] at c4_1
  have z4_1 := isRow_lt r4_1
  have r5_1 : IsRow W1 (w.heap.size + 2) := by rw [e1]; simp [go_sem]
  have c5_1 := congrArg (fun x => blk x (w.heap.size + 2)) e1; simp [go_sem] at c5_1
  have z5_1 := isRow_lt r5_1
  have r6_1 : IsRow W1 (w.heap.size + 3) := by rw [e1]; simp [go_sem]
  have c6_1 := congrArg (fun x => blk x (w.heap.size + 3)) e1; simp [go_sem] at c6_1
  have z6_1 := isRow_lt r6_1
  have r7_1 : IsRow W1 (w.heap.size + 4) := by rw [e1]; simp [go_sem]
  have c7_1 := congrArg (fun x => blk x (w.heap.size + 4)) e1; simp [go_sem] at c7_1
  have z7_1 := isRow_lt r7_1
  clear e1
  go_loopw [12] (fun s12 wr => ∃ i : Nat, i ≤ n ∧ s12 = .int .i64 i ∧ Below w.heap.size w wr ∧ (IsRow wr (w.heap.size) ∧ blk wr (w.heap.size) = blk W1 (w.heap.size)) ∧ (IsRow wr (w.heap.size + 1) ∧ blk wr (w.heap.size + 1) = blk W1 (w.heap.size + 1)) ∧ (IsRow wr (w.heap.size + 2) ∧ blk wr (w.heap.size + 2) = blk W1 (w.heap.size + 2)) ∧ (IsRow wr (w.heap.size + 3) ∧ blk wr (w.heap.size + 3) = blk W1 (w.heap.size + 3)) ∧ (IsRow wr (w.heap.size + 4) ∧ blk wr (w.heap.size + 4) = row 64 (ppK p n f m q i 0))) (fun s12 _ => n - (intOf s12).toNat)
  case atStart => exact ⟨0, by omega, rfl, hb1, ⟨r3_1, rfl⟩, ⟨r4_1, rfl⟩, ⟨r5_1, rfl⟩, ⟨r6_1, rfl⟩, ⟨r7_1, c7_1.trans (pp_zero p n f m q)⟩⟩
  case round =>
    obtain ⟨i, hle2, rfl, hb2, ⟨r3_2, c3_2⟩, ⟨r4_2, c4_2⟩, ⟨r5_2, c5_2⟩, ⟨r6_2, c6_2⟩, ⟨r7_2, c7_2⟩⟩ := hrel
    obtain ⟨W2, rfl⟩ : ∃ W2 : World, W2 = wr := ⟨_, rfl⟩
    have q2 := hb2.size
    have E3_2 := Lib.hid c3_1; replace c3_2 := c3_2.trans c3_1
    have z3_2 := isRow_lt r3_2
    have E4_2 := Lib.hid c4_1; replace c4_2 := c4_2.trans c4_1
    have z4_2 := isRow_lt r4_2
    have E5_2 := Lib.hid c5_1; replace c5_2 := c5_2.trans c5_1
    have z5_2 := isRow_lt r5_2
    have E6_2 := Lib.hid c6_1; replace c6_2 := c6_2.trans c6_1
    have z6_2 := isRow_lt r6_2
    have z7_2 := isRow_lt r7_2
    clear r3_1 c3_1 z3_1 r4_1 c4_1 z4_1 r5_1 c5_1 z5_1 r6_1 c6_1 z6_1 r7_1 c7_1 z7_1 hb1
    by_cases hlt2 : i < n
    · skip
      have i0_2 : (0 : Int) ≤ (i : Int) := by omega
      have i8_2 : (i : Int) < 8 := by omega
      have k8_2 : i < 8 := by omega
      have m8_2 : i * 8 + 8 ≤ 64 := by omega
      have m64_2 : i * 64 + 64 ≤ 512 := by omega
      have l1_2 : 10 + i * 64 + 64 ≤ 522 := by omega
      go_wp2
      go_loopw [17] (fun s17 wr => ∃ j : Nat, j ≤ n ∧ s17 = .int .i64 j ∧ Below w.heap.size w wr ∧ (IsRow wr (w.heap.size) ∧ blk wr (w.heap.size) = blk W2 (w.heap.size)) ∧ (IsRow wr (w.heap.size + 1) ∧ blk wr (w.heap.size + 1) = blk W2 (w.heap.size + 1)) ∧ (IsRow wr (w.heap.size + 2) ∧ blk wr (w.heap.size + 2) = blk W2 (w.heap.size + 2)) ∧ (IsRow wr (w.heap.size + 3) ∧ blk wr (w.heap.size + 3) = blk W2 (w.heap.size + 3)) ∧ (IsRow wr (w.heap.size + 4) ∧ blk wr (w.heap.size + 4) = row 64 (ppK p n f m q i j))) (fun s17 _ => n - (intOf s17).toNat)
      case atStart => exact ⟨0, by omega, rfl, hb2, ⟨r3_2, rfl⟩, ⟨r4_2, rfl⟩, ⟨r5_2, rfl⟩, ⟨r6_2, rfl⟩, ⟨r7_2, c7_2⟩⟩
      case round =>
        obtain ⟨j, hle3, rfl, hb3, ⟨r3_3, c3_3⟩, ⟨r4_3, c4_3⟩, ⟨r5_3, c5_3⟩, ⟨r6_3, c6_3⟩, ⟨r7_3, c7_3⟩⟩ := hrel
        obtain ⟨W3, rfl⟩ : ∃ W3 : World, W3 = wr := ⟨_, rfl⟩
        have q3 := hb3.size
        have E3_3 := Lib.hid c3_2; replace c3_3 := c3_3.trans c3_2
        have z3_3 := isRow_lt r3_3
        have E4_3 := Lib.hid c4_2; replace c4_3 := c4_3.trans c4_2
        have z4_3 := isRow_lt r4_3
        have E5_3 := Lib.hid c5_2; replace c5_3 := c5_3.trans c5_2
        have z5_3 := isRow_lt r5_3
        have E6_3 := Lib.hid c6_2; replace c6_3 := c6_3.trans c6_2
        have z6_3 := isRow_lt r6_3
        have z7_3 := isRow_lt r7_3
        clear r3_2 c3_2 z3_2 r4_2 c4_2 z4_2 r5_2 c5_2 z5_2 r6_2 c6_2 z6_2 r7_2 c7_2 z7_2 hb2
        by_cases hlt3 : j < n
        · skip
          have i0_3 : (0 : Int) ≤ (j : Int) := by omega
          have i8_3 : (j : Int) < 8 := by omega
          have k8_3 : j < 8 := by omega
          have m8_3 : j * 8 + 8 ≤ 64 := by omega
          have m64_3 : j * 64 + 64 ≤ 512 := by omega
          have l1_3 : 10 + j * 64 + 64 ≤ 522 := by omega
          have l2_3i : 10 + i * 64 + j * 8 + 8 ≤ 522 := by omega
          have l3_3i : 10 + j * 64 + i * 8 + 8 ≤ 522 := by omega
          have l4_3i : i * 64 + j * 8 + 8 ≤ 512 := by omega
          have l5_3i : j * 64 + i * 8 + 8 ≤ 512 := by omega
          have l6_3i : i * 8 + j < 64 := by omega
          have l7_3i : j * 8 + i < 64 := by omega
          have HV : Hid (Bytes 8 fun t => m (i * 8 + t)) := Lib.hid (part_bytes Hm.out i (by omega))
          have HQ : Hid (Bytes 8 fun t => q (j * 8 + t)) := Lib.hid (part_bytes Hq.out j (by omega))
          have e9 := alg_at8 p n f i j (by omega) (by omega)
          have HR : Hid (∀ t, t < 64 → 0 ≤ ppK p n f m q i j t ∧ ppK p n f m q i j t < p) := Lib.hid fun t _ => pp_range hp n f m q i j t
          go_wp2
          refine wp_quiet_tail 16 (Below W3.heap.size W3) (by kernel_rfl) (by kernel_rfl) (Below.refl _ _).drew ?_
          simp only [List.take_succ_cons, List.take_zero, List.drop_succ_cons, List.drop_zero]
          iterate 15 (refine q_plain rfl ?_; apply Exists.intro; refine ⟨fun W hW => ?_, ?_⟩; (focus (obtain ⟨x3, y3⟩ := keepB hW z3_3 r3_3 c3_3; obtain ⟨x4, y4⟩ := keepB hW z4_3 r4_3 c4_3; obtain ⟨x5, y5⟩ := keepB hW z5_3 r5_3 c5_3; obtain ⟨x6, y6⟩ := keepB hW z6_3 r6_3 c6_3; obtain ⟨x7, y7⟩ := keepB hW z7_3 r7_3 c7_3; go_simp; first | done | rfl)); simp only [Act.put, List.setIfInBounds_toArray, List.set_cons_zero, List.set_cons_succ])
          (refine q_plain rfl ?_; apply Exists.intro; refine ⟨fun W hW => ?_, ?_⟩; (focus (obtain ⟨x3, y3⟩ := keepB hW z3_3 r3_3 c3_3; obtain ⟨x4, y4⟩ := keepB hW z4_3 r4_3 c4_3; obtain ⟨x5, y5⟩ := keepB hW z5_3 r5_3 c5_3; obtain ⟨x6, y6⟩ := keepB hW z6_3 r6_3 c6_3; obtain ⟨x7, y7⟩ := keepB hW z7_3 r7_3 c7_3; go_simp; (go_at_call 101; exact (multiply_any p n f _ _ _ hp hp' hn HF.out HV.out HQ.out).mono fun e w2 ⟨he, hw2⟩ => ⟨he, hW.trans (hw2.mono hW.size)⟩))); simp only [Act.put, List.setIfInBounds_toArray, List.set_cons_zero, List.set_cons_succ])
          refine wpQuiet_nil ?_
          intro W4 hw4
          obtain ⟨r3_4, c3_4⟩ := keepB hw4 z3_3 r3_3 c3_3
          have z3_4 := isRow_lt r3_4
          obtain ⟨r4_4, c4_4⟩ := keepB hw4 z4_3 r4_3 c4_3
          have z4_4 := isRow_lt r4_4
          obtain ⟨r5_4, c5_4⟩ := keepB hw4 z5_3 r5_3 c5_3
          have z5_4 := isRow_lt r5_4
          obtain ⟨r6_4, c6_4⟩ := keepB hw4 z6_3 r6_3 c6_3
          have z6_4 := isRow_lt r6_4
          obtain ⟨r7_4, c7_4⟩ := keepB hw4 z7_3 r7_3 c7_3
          have z7_4 := isRow_lt r7_4
          have hb4 := hb3.trans (hw4.mono hb3.size)
          have q4 := hb4.size
          clear hw4 r3_3 c3_3 z3_3 r4_3 c4_3 z4_3 r5_3 c5_3 z5_3 r6_3 c6_3 z6_3 r7_3 c7_3 z7_3 hb3
          go_wp2_with fail
          refine (addPair_any p 1 _ (ppK p n f m q i j) (mtab f i j) _ _ hp hp' (by omega) (by omega) HR.out (mtab_bytes HF.out i j (by omega) (by omega)) (mulF_bytes hp hp' n (mtab f) _ _) r7_4 c7_4).mono ?_; rintro _ W5 ⟨rfl, hw5, r7_5, c7_5⟩
          obtain ⟨r3_5, c3_5⟩ := keepA hw5 z3_4 (by first | assumption | (simp; done) | omega) r3_4 c3_4
          have z3_5 := isRow_lt r3_5
          obtain ⟨r4_5, c4_5⟩ := keepA hw5 z4_4 (by first | assumption | (simp; done) | omega) r4_4 c4_4
          have z4_5 := isRow_lt r4_5
          obtain ⟨r5_5, c5_5⟩ := keepA hw5 z5_4 (by first | assumption | (simp; done) | omega) r5_4 c5_4
          have z5_5 := isRow_lt r5_5
          obtain ⟨r6_5, c6_5⟩ := keepA hw5 z6_4 (by first | assumption | (simp; done) | omega) r6_4 c6_4
          have z6_5 := isRow_lt r6_5
          have z7_5 := isRow_lt r7_5
          have hb5 := Below.aside hb4 hw5 (by omega)
          have q5 := hb5.size
          clear hw5 r3_4 c3_4 z3_4 r4_4 c4_4 z4_4 r5_4 c5_4 z5_4 r6_4 c6_4 z6_4 r7_4 c7_4 z7_4 hb4
          go_wp2
          go_roundw
          case rel => exact ⟨j + 1, by omega, by go_num, (by (repeat (first | exact hb5 | exact Below.refl _ _ | refine Below.alloc ?_ (by first | omega | (simp; try omega)) _ | refine below_setRow ?_ (by omega) _ | refine Below.drew ?_))), ⟨by simp [go_sem, r3_5, c3_5, r4_5, c4_5, r5_5, c5_5, r6_5, c6_5, r7_5, c7_5], (by rw [E3_3.out]; first | exact c3_5 | (simp [go_sem, r3_5, c3_5, r4_5, c4_5, r5_5, c5_5, r6_5, c6_5, r7_5, c7_5]; done))⟩, ⟨by simp [go_sem, r3_5, c3_5, r4_5, c4_5, r5_5, c5_5, r6_5, c6_5, r7_5, c7_5], (by rw [E4_3.out]; first | exact c4_5 | (simp [go_sem, r3_5, c3_5, r4_5, c4_5, r5_5, c5_5, r6_5, c6_5, r7_5, c7_5]; done))⟩, ⟨by simp [go_sem, r3_5, c3_5, r4_5, c4_5, r5_5, c5_5, r6_5, c6_5, r7_5, c7_5], (by rw [E5_3.out]; first | exact c5_5 | (simp [go_sem, r3_5, c3_5, r4_5, c4_5, r5_5, c5_5, r6_5, c6_5, r7_5, c7_5]; done))⟩, ⟨by simp [go_sem, r3_5, c3_5, r4_5, c4_5, r5_5, c5_5, r6_5, c6_5, r7_5, c7_5], (by rw [E6_3.out]; first | exact c6_5 | (simp [go_sem, r3_5, c3_5, r4_5, c4_5, r5_5, c5_5, r6_5, c6_5, r7_5, c7_5]; done))⟩, ⟨by simp [go_sem, r3_5, c3_5, r4_5, c4_5, r5_5, c5_5, r6_5, c6_5, r7_5, c7_5], (by first | exact (c7_5).trans (pp_step p n f m q i j) | (simp [go_sem, r3_5, c3_5, r4_5, c4_5, r5_5, c5_5, r6_5, c6_5, r7_5, c7_5]; exact pp_step p n f m q i j))⟩⟩
          case measure => simp [intOf]; omega
        · skip
          obtain rfl : n = j := by omega
          go_wp2
          go_roundw
          case rel => exact ⟨i + 1, by omega, by go_num, (by (repeat (first | exact hb3 | exact Below.refl _ _ | refine Below.alloc ?_ (by first | omega | (simp; try omega)) _ | refine below_setRow ?_ (by omega) _ | refine Below.drew ?_))), ⟨by simp [go_sem, r3_3, c3_3, r4_3, c4_3, r5_3, c5_3, r6_3, c6_3, r7_3, c7_3], (by rw [E3_2.out]; first | exact c3_3 | (simp [go_sem, r3_3, c3_3, r4_3, c4_3, r5_3, c5_3, r6_3, c6_3, r7_3, c7_3]; done))⟩, ⟨by simp [go_sem, r3_3, c3_3, r4_3, c4_3, r5_3, c5_3, r6_3, c6_3, r7_3, c7_3], (by rw [E4_2.out]; first | exact c4_3 | (simp [go_sem, r3_3, c3_3, r4_3, c4_3, r5_3, c5_3, r6_3, c6_3, r7_3, c7_3]; done))⟩, ⟨by simp [go_sem, r3_3, c3_3, r4_3, c4_3, r5_3, c5_3, r6_3, c6_3, r7_3, c7_3], (by rw [E5_2.out]; first | exact c5_3 | (simp [go_sem, r3_3, c3_3, r4_3, c4_3, r5_3, c5_3, r6_3, c6_3, r7_3, c7_3]; done))⟩, ⟨by simp [go_sem, r3_3, c3_3, r4_3, c4_3, r5_3, c5_3, r6_3, c6_3, r7_3, c7_3], (by rw [E6_2.out]; first | exact c6_3 | (simp [go_sem, r3_3, c3_3, r4_3, c4_3, r5_3, c5_3, r6_3, c6_3, r7_3, c7_3]; done))⟩, ⟨by simp [go_sem, r3_3, c3_3, r4_3, c4_3, r5_3, c5_3, r6_3, c6_3, r7_3, c7_3], (by first | exact (c7_3).trans (pp_row p n f m q i) | (simp [go_sem, r3_3, c3_3, r4_3, c4_3, r5_3, c5_3, r6_3, c6_3, r7_3, c7_3]; exact pp_row p n f m q i))⟩⟩
          case measure => simp [intOf]; omega
    · skip
      obtain rfl : n = i := by omega
      go_wp2_with fail
      refine bodyPost_ret (result_cell rfl aggLin _ _ (row 64 (ppK p n f m q n 0)) _ rfl ?_ ?_) rfl ⟨rfl, ?_⟩
      · simp [go_sem, r3_2, c3_2, r4_2, c4_2, r5_2, c5_2, r6_2, c6_2, r7_2, c7_2]
      · simp [go_sem, r3_2, c3_2, r4_2, c4_2, r5_2, c5_2, r6_2, c6_2, r7_2, c7_2]
      · repeat (first | exact hb2 | exact Below.refl _ _ | refine Below.alloc ?_ (by first | omega | (simp; try omega)) _ | refine below_setRow ?_ (by omega) _ | refine Below.drew ?_)

/-! ### convolutions -/
/-- the entry k of image i, over the first j pairs -/
def cvR (p : Int) (n : Nat) (A C F G : Nat → Int) (i j k : Nat) : Int := sumTo (fun b => mulF p n (mtab A) (fun t => F (b * 8 + t)) (appF p 8 (fun x y => G (x * 8 + y)) (mtab C i b)) k) j % p
/-- i images of m are done, and j pairs of image i -/
def cvK (p : Int) (n m : Nat) (A C F G : Nat → Int) (i j : Nat) : Nat → Int := fun t => if t / 8 < i then cvR p n A C F G (t / 8) m (t % 8) else if t / 8 = i then cvR p n A C F G i j (t % 8) else 0
theorem cv_zero (p : Int) (n m : Nat) (A C F G : Nat → Int) : row 64 zf = row 64 (cvK p n m A C F G 0 0) := row_congr fun t _ => by
  unfold cvK cvR zf; rw [if_neg (by omega)]; split <;> simp [sumTo]
theorem cv_step (p : Int) (n m : Nat) (A C F G : Nat → Int) (i j : Nat) : row 64 (addm p (i * 8) 8 1 (cvK p n m A C F G i j) (mulF p n (mtab A) (fun t => F (j * 8 + t)) (appF p 8 (fun x y => G (x * 8 + y)) (mtab C i j)))) = row 64 (cvK p n m A C F G i (j + 1)) := row_congr fun t _ => by
  unfold addm cvK
  by_cases h : i * 8 ≤ t ∧ t < i * 8 + 8
  · rw [if_pos h, if_neg (by omega), if_pos (by omega), if_neg (by omega), if_pos (by omega), show t - i * 8 = t % 8 by omega]
    unfold cvR
    rw [Int.emod_add_emod, sumTo, Int.one_mul]
  · rw [if_neg h]
    by_cases h2 : t / 8 < i
    · rw [if_pos h2, if_pos h2]
    · rw [if_neg h2, if_neg h2, if_neg (by omega), if_neg (by omega)]
theorem cv_row (p : Int) (n m : Nat) (A C F G : Nat → Int) (i : Nat) : row 64 (cvK p n m A C F G i m) = row 64 (cvK p n m A C F G (i + 1) 0) := row_congr fun t _ => by
  unfold cvK
  by_cases h : t / 8 < i
  · rw [if_pos h, if_pos (by omega)]
  · rw [if_neg h]
    by_cases h2 : t / 8 = i
    · rw [if_pos h2, if_pos (by omega), h2]
    · rw [if_neg h2, if_neg (by omega)]
      split
      · simp [cvR, sumTo]
      · rfl
theorem cv_range {p : Int} (hp : 0 < p) (n m : Nat) (A C F G : Nat → Int) (i j t : Nat) : 0 ≤ cvK p n m A C F G i j t ∧ cvK p n m A C F G i j t < p := by
  unfold cvK
  split
  · exact mod_range _ p hp
  · split
    · exact mod_range _ p hp
    · omega

set_option maxRecDepth 100000 in
set_option maxHeartbeats 1000000 in
theorem convolve_any (q p : Int) (m n : Nat) (C A F G : Nat → Int) (w : World) (hp : 0 < p) (hp' : p ≤ 255) (hn : n ≤ 8) (hm : m ≤ 8) (hC : Bytes 520 C) (hA : Bytes 520 A) (hF : Bytes 64 F) (hG : Bytes 64 G) :
    Calls Try.prog 87 #[.agg (alg q m C), .agg (alg p n A), .agg (row 64 F), .agg (row 64 G)] w fun e w' => e = .returned (.agg (row 64 (cvK p n m A C F G m 0))) ∧ Below w.heap.size w w' := by
  have HC := Lib.hid hC; clear hC
  have HA := Lib.hid hA; clear hA
  have HF := Lib.hid hF; clear hF
  have HG := Lib.hid hG; clear hG
  go_enter Try.func87, Try.ntmps87
  go_wp2
  refine atomW fun W1 e1 => ?_
  have hb1 : Below w.heap.size w W1 := by rw [e1]; (repeat (first | exact Below.refl _ _ | refine Below.alloc ?_ (by first | omega | (simp; try omega)) _ | refine below_setRow ?_ (by omega) _ | refine Below.drew ?_))
  have q1 := hb1.size
  have r4_1 : IsRow W1 (w.heap.size) := by rw [e1]; simp [go_sem]
  have c4_1 := congrArg (fun x => blk x (w.heap.size)) e1; simp [go_sem] at c4_1
  have z4_1 := isRow_lt r4_1
  have r5_1 : IsRow W1 (w.heap.size + 1) := by rw [e1]; simp [go_sem]
  have c5_1 := congrArg (fun x => blk x (w.heap.size + 1)) e1; simp [go_sem] at c5_1
  have z5_1 := isRow_lt r5_1
  have r6_1 : IsRow W1 (w.heap.size + 2) := by rw [e1]; simp [go_sem]
  have c6_1 := congrArg (fun x => blk x (w.heap.size + 2)) e1; simp [go_sem] at c6_1
  have z6_1 := isRow_lt r6_1
  have r7_1 : IsRow W1 (w.heap.size + 3) := by rw [e1]; simp [go_sem]
  have c7_1 := congrArg (fun x => blk x (w.heap.size + 3)) e1; simp [go_sem] at c7_1
  have z7_1 := isRow_lt r7_1
  have r8_1 : IsRow W1 (w.heap.size + 4) := by rw [e1]; simp [go_sem]
  have c8_1 := congrArg (fun x => blk x (w.heap.size + 4)) e1; simp [go_sem] at c8_1
  have z8_1 := isRow_lt r8_1
  have r9_1 : IsRow W1 (w.heap.size + 5) := by rw [e1]; simp [go_sem]
  have c9_1 := congrArg (fun x => blk x (w.heap.size + 5)) e1; simp [go_sem] at c9_1
  have z9_1 := isRow_lt r9_1
  clear e1
  go_loopw [15] (fun s15 wr => ∃ i : Nat, i ≤ m ∧ s15 = .int .i64 i ∧ Below w.heap.size w wr ∧ (IsRow wr (w.heap.size) ∧ blk wr (w.heap.size) = blk W1 (w.heap.size)) ∧ (IsRow wr (w.heap.size + 1) ∧ blk wr (w.heap.size + 1) = blk W1 (w.heap.size + 1)) ∧ (IsRow wr (w.heap.size + 2) ∧ blk wr (w.heap.size + 2) = blk W1 (w.heap.size + 2)) ∧ (IsRow wr (w.heap.size + 3) ∧ blk wr (w.heap.size + 3) = blk W1 (w.heap.size + 3)) ∧ (IsRow wr (w.heap.size + 4) ∧ blk wr (w.heap.size + 4) = blk W1 (w.heap.size + 4)) ∧ (IsRow wr (w.heap.size + 5) ∧ blk wr (w.heap.size + 5) = row 64 (cvK p n m A C F G i 0))) (fun s15 _ => m - (intOf s15).toNat)
  case atStart => exact ⟨0, by omega, rfl, hb1, ⟨r4_1, rfl⟩, ⟨r5_1, rfl⟩, ⟨r6_1, rfl⟩, ⟨r7_1, rfl⟩, ⟨r8_1, rfl⟩, ⟨r9_1, c9_1.trans (cv_zero p n m A C F G)⟩⟩
  case round =>
    obtain ⟨i, hle2, rfl, hb2, ⟨r4_2, c4_2⟩, ⟨r5_2, c5_2⟩, ⟨r6_2, c6_2⟩, ⟨r7_2, c7_2⟩, ⟨r8_2, c8_2⟩, ⟨r9_2, c9_2⟩⟩ := hrel
    obtain ⟨W2, rfl⟩ : ∃ W2 : World, W2 = wr := ⟨_, rfl⟩
    have q2 := hb2.size
    have E4_2 := Lib.hid c4_1; replace c4_2 := c4_2.trans c4_1
    have z4_2 := isRow_lt r4_2
    have E5_2 := Lib.hid c5_1; replace c5_2 := c5_2.trans c5_1
    have z5_2 := isRow_lt r5_2
    have E6_2 := Lib.hid c6_1; replace c6_2 := c6_2.trans c6_1
    have z6_2 := isRow_lt r6_2
    have E7_2 := Lib.hid c7_1; replace c7_2 := c7_2.trans c7_1
    have z7_2 := isRow_lt r7_2
    have E8_2 := Lib.hid c8_1; replace c8_2 := c8_2.trans c8_1
    have z8_2 := isRow_lt r8_2
    have z9_2 := isRow_lt r9_2
    clear r4_1 c4_1 z4_1 r5_1 c5_1 z5_1 r6_1 c6_1 z6_1 r7_1 c7_1 z7_1 r8_1 c8_1 z8_1 r9_1 c9_1 z9_1 hb1
    by_cases hlt2 : i < m
    · skip
      have i0_2 : (0 : Int) ≤ (i : Int) := by omega
      have i8_2 : (i : Int) < 8 := by omega
      have k8_2 : i < 8 := by omega
      have m8_2 : i * 8 + 8 ≤ 64 := by omega
      have m64_2 : i * 64 + 64 ≤ 512 := by omega
      have l1_2 : 10 + i * 64 + 64 ≤ 522 := by omega
      go_wp2
      go_loopw [20] (fun s20 wr => ∃ j : Nat, j ≤ m ∧ s20 = .int .i64 j ∧ Below w.heap.size w wr ∧ (IsRow wr (w.heap.size) ∧ blk wr (w.heap.size) = blk W2 (w.heap.size)) ∧ (IsRow wr (w.heap.size + 1) ∧ blk wr (w.heap.size + 1) = blk W2 (w.heap.size + 1)) ∧ (IsRow wr (w.heap.size + 2) ∧ blk wr (w.heap.size + 2) = blk W2 (w.heap.size + 2)) ∧ (IsRow wr (w.heap.size + 3) ∧ blk wr (w.heap.size + 3) = blk W2 (w.heap.size + 3)) ∧ (IsRow wr (w.heap.size + 4) ∧ blk wr (w.heap.size + 4) = blk W2 (w.heap.size + 4)) ∧ (IsRow wr (w.heap.size + 5) ∧ blk wr (w.heap.size + 5) = row 64 (cvK p n m A C F G i j))) (fun s20 _ => m - (intOf s20).toNat)
      case atStart => exact ⟨0, by omega, rfl, hb2, ⟨r4_2, rfl⟩, ⟨r5_2, rfl⟩, ⟨r6_2, rfl⟩, ⟨r7_2, rfl⟩, ⟨r8_2, rfl⟩, ⟨r9_2, c9_2⟩⟩
      case round =>
        obtain ⟨j, hle3, rfl, hb3, ⟨r4_3, c4_3⟩, ⟨r5_3, c5_3⟩, ⟨r6_3, c6_3⟩, ⟨r7_3, c7_3⟩, ⟨r8_3, c8_3⟩, ⟨r9_3, c9_3⟩⟩ := hrel
        obtain ⟨W3, rfl⟩ : ∃ W3 : World, W3 = wr := ⟨_, rfl⟩
        have q3 := hb3.size
        have E4_3 := Lib.hid c4_2; replace c4_3 := c4_3.trans c4_2
        have z4_3 := isRow_lt r4_3
        have E5_3 := Lib.hid c5_2; replace c5_3 := c5_3.trans c5_2
        have z5_3 := isRow_lt r5_3
        have E6_3 := Lib.hid c6_2; replace c6_3 := c6_3.trans c6_2
        have z6_3 := isRow_lt r6_3
        have E7_3 := Lib.hid c7_2; replace c7_3 := c7_3.trans c7_2
        have z7_3 := isRow_lt r7_3
        have E8_3 := Lib.hid c8_2; replace c8_3 := c8_3.trans c8_2
        have z8_3 := isRow_lt r8_3
        have z9_3 := isRow_lt r9_3
        clear r4_2 c4_2 z4_2 r5_2 c5_2 z5_2 r6_2 c6_2 z6_2 r7_2 c7_2 z7_2 r8_2 c8_2 z8_2 r9_2 c9_2 z9_2 hb2
        by_cases hlt3 : j < m
        · skip
          have i0_3 : (0 : Int) ≤ (j : Int) := by omega
          have i8_3 : (j : Int) < 8 := by omega
          have k8_3 : j < 8 := by omega
          have m8_3 : j * 8 + 8 ≤ 64 := by omega
          have m64_3 : j * 64 + 64 ≤ 512 := by omega
          have l1_3 : 10 + j * 64 + 64 ≤ 522 := by omega
          have l2_3i : 10 + i * 64 + j * 8 + 8 ≤ 522 := by omega
          have l3_3i : 10 + j * 64 + i * 8 + 8 ≤ 522 := by omega
          have l4_3i : i * 64 + j * 8 + 8 ≤ 512 := by omega
          have l5_3i : j * 64 + i * 8 + 8 ≤ 512 := by omega
          have l6_3i : i * 8 + j < 64 := by omega
          have l7_3i : j * 8 + i < 64 := by omega
          have HV : Hid (Bytes 8 fun t => F (j * 8 + t)) := Lib.hid (part_bytes HF.out j (by omega))
          have HM : Hid (Bytes 8 (mtab C i j)) := Lib.hid (mtab_bytes HC.out i j (by omega) (by omega))
          have e9 := alg_at8 q m C i j (by omega) (by omega)
          go_wp2
          refine wp_quiet_alloc 15 _ (.cells (row 8 zf) 28) (Below W3.heap.size W3) (Made W3 (row 8 zf)) (by kernel_rfl) rfl rfl (by kernel_rfl) (fun a W => (xallocVec _ _ _ _ _ _ _).trans (allocVec W)) (closed_below W3) (closed_made W3 _) (fun b W h => h.1) (fun W h => made_new W3 _ _ W h) (Below.refl _ _).drew ?_
          simp only [List.take_succ_cons, List.take_zero, List.drop_succ_cons, List.drop_zero]
          iterate 13 (refine e_plain rfl ?_; apply Exists.intro; refine ⟨fun D hD hK W hW => ?_, ?_⟩; (focus (obtain ⟨x4, y4⟩ := keepB (hD W hW) z4_3 r4_3 c4_3; obtain ⟨x5, y5⟩ := keepB (hD W hW) z5_3 r5_3 c5_3; obtain ⟨x6, y6⟩ := keepB (hD W hW) z6_3 r6_3 c6_3; obtain ⟨x7, y7⟩ := keepB (hD W hW) z7_3 r7_3 c7_3; obtain ⟨x8, y8⟩ := keepB (hD W hW) z8_3 r8_3 c8_3; obtain ⟨x9, y9⟩ := keepB (hD W hW) z9_3 r9_3 c9_3; unfold Oper.quietAt; go_simp; first | done | rfl)); simp only [Act.put, List.setIfInBounds_toArray, List.set_cons_zero, List.set_cons_succ])
          (refine e_plain rfl ?_; apply Exists.intro; refine ⟨fun D hD hK W hW => ?_, ?_⟩; (focus (obtain ⟨x4, y4⟩ := keepB (hD W hW) z4_3 r4_3 c4_3; obtain ⟨x5, y5⟩ := keepB (hD W hW) z5_3 r5_3 c5_3; obtain ⟨x6, y6⟩ := keepB (hD W hW) z6_3 r6_3 c6_3; obtain ⟨x7, y7⟩ := keepB (hD W hW) z7_3 r7_3 c7_3; obtain ⟨x8, y8⟩ := keepB (hD W hW) z8_3 r8_3 c8_3; obtain ⟨x9, y9⟩ := keepB (hD W hW) z9_3 r9_3 c9_3; unfold Oper.quietAt; go_simp; (go_at_call 52; exact (applyLinear_any p G _ _ hp hp' HG.out HM.out).mono fun e w2 ⟨he, hw2⟩ => ⟨he, hK _ _ hW hw2⟩))); simp only [Act.put, List.setIfInBounds_toArray, List.set_cons_zero, List.set_cons_succ])
          (refine e_plain rfl ?_; apply Exists.intro; refine ⟨fun D hD hK W hW => ?_, ?_⟩; (focus (obtain ⟨x4, y4⟩ := keepB (hD W hW) z4_3 r4_3 c4_3; obtain ⟨x5, y5⟩ := keepB (hD W hW) z5_3 r5_3 c5_3; obtain ⟨x6, y6⟩ := keepB (hD W hW) z6_3 r6_3 c6_3; obtain ⟨x7, y7⟩ := keepB (hD W hW) z7_3 r7_3 c7_3; obtain ⟨x8, y8⟩ := keepB (hD W hW) z8_3 r8_3 c8_3; obtain ⟨x9, y9⟩ := keepB (hD W hW) z9_3 r9_3 c9_3; unfold Oper.quietAt; go_simp; (go_at_call 101; exact (multiply_any p n A _ _ _ hp hp' hn HA.out HV.out (bytes_mod hp hp' _)).mono fun e w2 ⟨he, hw2⟩ => ⟨he, hK _ _ hW hw2⟩))); simp only [Act.put, List.setIfInBounds_toArray, List.set_cons_zero, List.set_cons_succ])
          refine e_nil ?_
          intro a4 W4 hW4
          obtain ⟨hw4, hl4, m1_4, m2_4⟩ := hW4
          have n4_12 : (w.heap.size) ≠ (a4) := by have := z4_3; omega
          have n12_4 : (a4) ≠ (w.heap.size) := by have := z4_3; omega
          have n5_12 : (w.heap.size + 1) ≠ (a4) := by have := z5_3; omega
          have n12_5 : (a4) ≠ (w.heap.size + 1) := by have := z5_3; omega
          have n6_12 : (w.heap.size + 2) ≠ (a4) := by have := z6_3; omega
          have n12_6 : (a4) ≠ (w.heap.size + 2) := by have := z6_3; omega
          have n7_12 : (w.heap.size + 3) ≠ (a4) := by have := z7_3; omega
          have n12_7 : (a4) ≠ (w.heap.size + 3) := by have := z7_3; omega
          have n8_12 : (w.heap.size + 4) ≠ (a4) := by have := z8_3; omega
          have n12_8 : (a4) ≠ (w.heap.size + 4) := by have := z8_3; omega
          have n9_12 : (w.heap.size + 5) ≠ (a4) := by have := z9_3; omega
          have n12_9 : (a4) ≠ (w.heap.size + 5) := by have := z9_3; omega
          obtain ⟨r4_4, c4_4⟩ := keepB hw4 z4_3 r4_3 c4_3
          have z4_4 := isRow_lt r4_4
          obtain ⟨r5_4, c5_4⟩ := keepB hw4 z5_3 r5_3 c5_3
          have z5_4 := isRow_lt r5_4
          obtain ⟨r6_4, c6_4⟩ := keepB hw4 z6_3 r6_3 c6_3
          have z6_4 := isRow_lt r6_4
          obtain ⟨r7_4, c7_4⟩ := keepB hw4 z7_3 r7_3 c7_3
          have z7_4 := isRow_lt r7_4
          obtain ⟨r8_4, c8_4⟩ := keepB hw4 z8_3 r8_3 c8_3
          have z8_4 := isRow_lt r8_4
          obtain ⟨r9_4, c9_4⟩ := keepB hw4 z9_3 r9_3 c9_3
          have z9_4 := isRow_lt r9_4
          have hb4 := hb3.trans (hw4.mono hb3.size)
          have q4 := hb4.size
          clear hw4 r4_3 c4_3 z4_3 r5_3 c5_3 z5_3 r6_3 c6_3 z6_3 r7_3 c7_3 z7_3 r8_3 c8_3 z8_3 r9_3 c9_3 z9_3 hb3
          have z12_4 := isRow_lt m1_4
          simp only [Act.put, List.setIfInBounds_toArray, List.set_cons_zero, List.set_cons_succ]
          go_wp2
          refine atomW fun W5 e5 => ?_
          have hb5 : Below w.heap.size w W5 := by rw [e5]; (repeat (first | exact hb4 | exact Below.refl _ _ | refine Below.alloc ?_ (by first | omega | (simp; try omega)) _ | refine below_setRow ?_ (by omega) _ | refine Below.drew ?_))
          have q5 := hb5.size
          have r4_5 : IsRow W5 (w.heap.size) := by rw [e5]; simp [go_sem, r4_4, c4_4, n4_12, r5_4, c5_4, n5_12, r6_4, c6_4, n6_12, r7_4, c7_4, n7_12, r8_4, c8_4, n8_12, r9_4, c9_4, n9_12, m1_4, m2_4, n12_4, n12_5, n12_6, n12_7, n12_8, n12_9]
          have c4_5 := congrArg (fun x => blk x (w.heap.size)) e5; simp [go_sem, r4_4, c4_4, n4_12, r5_4, c5_4, n5_12, r6_4, c6_4, n6_12, r7_4, c7_4, n7_12, r8_4, c8_4, n8_12, r9_4, c9_4, n9_12, m1_4, m2_4, n12_4, n12_5, n12_6, n12_7, n12_8, n12_9] at c4_5
          have z4_5 := isRow_lt r4_5
          have r5_5 : IsRow W5 (w.heap.size + 1) := by rw [e5]; simp [go_sem, r4_4, c4_4, n4_12, r5_4, c5_4, n5_12, r6_4, c6_4, n6_12, r7_4, c7_4, n7_12, r8_4, c8_4, n8_12, r9_4, c9_4, n9_12, m1_4, m2_4, n12_4, n12_5, n12_6, n12_7, n12_8, n12_9]
          have c5_5 := congrArg (fun x => blk x (w.heap.size + 1)) e5; simp [go_sem, r4_4, c4_4, n4_12, r5_4, c5_4, n5_12, r6_4, c6_4, n6_12, r7_4, c7_4, n7_12, r8_4, c8_4, n8_12, r9_4, c9_4, n9_12, m1_4, m2_4, n12_4, n12_5, n12_6, n12_7, n12_8, n12_9] at c5_5
          have z5_5 := isRow_lt r5_5
          have r6_5 : IsRow W5 (w.heap.size + 2) := by rw [e5]; simp [go_sem, r4_4, c4_4, n4_12, r5_4, c5_4, n5_12, r6_4, c6_4, n6_12, r7_4, c7_4, n7_12, r8_4, c8_4, n8_12, r9_4, c9_4, n9_12, m1_4, m2_4, n12_4, n12_5, n12_6, n12_7, n12_8, n12_9]
          have c6_5 := congrArg (fun x => blk x (w.heap.size + 2)) e5; simp [go_sem, r4_4, c4_4, n4_12, r5_4, c5_4, n5_12, r6_4, c6_4, n6_12, r7_4, c7_4, n7_12, r8_4, c8_4, n8_12, r9_4, c9_4, n9_12, m1_4, m2_4, n12_4, n12_5, n12_6, n12_7, n12_8, n12_9] at c6_5
          have z6_5 := isRow_lt r6_5
          have r7_5 : IsRow W5 (w.heap.size + 3) := by rw [e5]; simp [go_sem, r4_4, c4_4, n4_12, r5_4, c5_4, n5_12, r6_4, c6_4, n6_12, r7_4, c7_4, n7_12, r8_4, c8_4, n8_12, r9_4, c9_4, n9_12, m1_4, m2_4, n12_4, n12_5, n12_6, n12_7, n12_8, n12_9]
          have c7_5 := congrArg (fun x => blk x (w.heap.size + 3)) e5; simp [go_sem, r4_4, c4_4, n4_12, r5_4, c5_4, n5_12, r6_4, c6_4, n6_12, r7_4, c7_4, n7_12, r8_4, c8_4, n8_12, r9_4, c9_4, n9_12, m1_4, m2_4, n12_4, n12_5, n12_6, n12_7, n12_8, n12_9] at c7_5
          have z7_5 := isRow_lt r7_5
          have r8_5 : IsRow W5 (w.heap.size + 4) := by rw [e5]; simp [go_sem, r4_4, c4_4, n4_12, r5_4, c5_4, n5_12, r6_4, c6_4, n6_12, r7_4, c7_4, n7_12, r8_4, c8_4, n8_12, r9_4, c9_4, n9_12, m1_4, m2_4, n12_4, n12_5, n12_6, n12_7, n12_8, n12_9]
          have c8_5 := congrArg (fun x => blk x (w.heap.size + 4)) e5; simp [go_sem, r4_4, c4_4, n4_12, r5_4, c5_4, n5_12, r6_4, c6_4, n6_12, r7_4, c7_4, n7_12, r8_4, c8_4, n8_12, r9_4, c9_4, n9_12, m1_4, m2_4, n12_4, n12_5, n12_6, n12_7, n12_8, n12_9] at c8_5
          have z8_5 := isRow_lt r8_5
          have r9_5 : IsRow W5 (w.heap.size + 5) := by rw [e5]; simp [go_sem, r4_4, c4_4, n4_12, r5_4, c5_4, n5_12, r6_4, c6_4, n6_12, r7_4, c7_4, n7_12, r8_4, c8_4, n8_12, r9_4, c9_4, n9_12, m1_4, m2_4, n12_4, n12_5, n12_6, n12_7, n12_8, n12_9]
          have c9_5 := congrArg (fun x => blk x (w.heap.size + 5)) e5; simp [go_sem, r4_4, c4_4, n4_12, r5_4, c5_4, n5_12, r6_4, c6_4, n6_12, r7_4, c7_4, n7_12, r8_4, c8_4, n8_12, r9_4, c9_4, n9_12, m1_4, m2_4, n12_4, n12_5, n12_6, n12_7, n12_8, n12_9] at c9_5
          have z9_5 := isRow_lt r9_5
          have r12_5 : IsRow W5 (a4) := by rw [e5]; simp [go_sem, r4_4, c4_4, n4_12, r5_4, c5_4, n5_12, r6_4, c6_4, n6_12, r7_4, c7_4, n7_12, r8_4, c8_4, n8_12, r9_4, c9_4, n9_12, m1_4, m2_4, n12_4, n12_5, n12_6, n12_7, n12_8, n12_9]
          have c12_5 := congrArg (fun x => blk x (a4)) e5; simp [go_sem, r4_4, c4_4, n4_12, r5_4, c5_4, n5_12, r6_4, c6_4, n6_12, r7_4, c7_4, n7_12, r8_4, c8_4, n8_12, r9_4, c9_4, n9_12, m1_4, m2_4, n12_4, n12_5, n12_6, n12_7, n12_8, n12_9] at c12_5
          have z12_5 := isRow_lt r12_5
          clear e5 r4_4 c4_4 z4_4 r5_4 c5_4 z5_4 r6_4 c6_4 z6_4 r7_4 c7_4 z7_4 r8_4 c8_4 z8_4 r9_4 c9_4 z9_4 m1_4 m2_4 z12_4 hb4
          refine wp_quiet_tail 6 (Below W5.heap.size W5) (by kernel_rfl) (by kernel_rfl) (Below.refl _ _).drew ?_
          simp only [List.take_succ_cons, List.take_zero, List.drop_succ_cons, List.drop_zero]
          iterate 6 (refine q_plain rfl ?_; apply Exists.intro; refine ⟨fun W hW => ?_, ?_⟩; (focus (obtain ⟨x4, y4⟩ := keepB hW z4_5 r4_5 c4_5; obtain ⟨x5, y5⟩ := keepB hW z5_5 r5_5 c5_5; obtain ⟨x6, y6⟩ := keepB hW z6_5 r6_5 c6_5; obtain ⟨x7, y7⟩ := keepB hW z7_5 r7_5 c7_5; obtain ⟨x8, y8⟩ := keepB hW z8_5 r8_5 c8_5; obtain ⟨x9, y9⟩ := keepB hW z9_5 r9_5 c9_5; obtain ⟨x12, y12⟩ := keepB hW z12_5 r12_5 c12_5; go_simp; first | done | rfl)); simp only [Act.put, List.setIfInBounds_toArray, List.set_cons_zero, List.set_cons_succ])
          refine wpQuiet_nil ?_
          intro W6 hw6
          obtain ⟨r4_6, c4_6⟩ := keepB hw6 z4_5 r4_5 c4_5
          have z4_6 := isRow_lt r4_6
          obtain ⟨r5_6, c5_6⟩ := keepB hw6 z5_5 r5_5 c5_5
          have z5_6 := isRow_lt r5_6
          obtain ⟨r6_6, c6_6⟩ := keepB hw6 z6_5 r6_5 c6_5
          have z6_6 := isRow_lt r6_6
          obtain ⟨r7_6, c7_6⟩ := keepB hw6 z7_5 r7_5 c7_5
          have z7_6 := isRow_lt r7_6
          obtain ⟨r8_6, c8_6⟩ := keepB hw6 z8_5 r8_5 c8_5
          have z8_6 := isRow_lt r8_6
          obtain ⟨r9_6, c9_6⟩ := keepB hw6 z9_5 r9_5 c9_5
          have z9_6 := isRow_lt r9_6
          obtain ⟨r12_6, c12_6⟩ := keepB hw6 z12_5 r12_5 c12_5
          have z12_6 := isRow_lt r12_6
          have hb6 := hb5.trans (hw6.mono hb5.size)
          have q6 := hb6.size
          clear hw6 r4_5 c4_5 z4_5 r5_5 c5_5 z5_5 r6_5 c6_5 z6_5 r7_5 c7_5 z7_5 r8_5 c8_5 z8_5 r9_5 c9_5 z9_5 r12_5 c12_5 z12_5 hb5
          go_wp2_with fail
          refine (addMultiple_any p 1 _ (i * 8) 64 8 _ _ _ 0 (cvK p n m A C F G i j) (mulF p n (mtab A) (fun t => F (j * 8 + t)) (appF p 8 (fun x y => G (x * 8 + y)) (mtab C i j))) _ hp hp' (by omega) (by omega) r9_6 c9_6 (by omega) (by omega) (fun t _ _ => cv_range hp n m A C F G i j t) (byte_at (N := 8) (off' := 0) c12_6 (by omega) (fun t _ => congrArg _ (Nat.zero_add t)) (mulF_bytes hp hp' n (mtab A) _ _)) (by omega)).mono ?_; rintro _ _ ⟨rfl, rfl⟩
          go_wp2
          go_roundw
          case rel => exact ⟨j + 1, by omega, by go_num, (by (repeat (first | exact hb6 | exact Below.refl _ _ | refine Below.alloc ?_ (by first | omega | (simp; try omega)) _ | refine below_setRow ?_ (by omega) _ | refine Below.drew ?_))), ⟨by simp [go_sem, r4_6, c4_6, n4_12, r5_6, c5_6, n5_12, r6_6, c6_6, n6_12, r7_6, c7_6, n7_12, r8_6, c8_6, n8_12, r9_6, c9_6, n9_12, r12_6, c12_6, n12_4, n12_5, n12_6, n12_7, n12_8, n12_9], (by rw [E4_3.out]; first | exact c4_6 | (simp [go_sem, r4_6, c4_6, n4_12, r5_6, c5_6, n5_12, r6_6, c6_6, n6_12, r7_6, c7_6, n7_12, r8_6, c8_6, n8_12, r9_6, c9_6, n9_12, r12_6, c12_6, n12_4, n12_5, n12_6, n12_7, n12_8, n12_9]; done))⟩, ⟨by simp [go_sem, r4_6, c4_6, n4_12, r5_6, c5_6, n5_12, r6_6, c6_6, n6_12, r7_6, c7_6, n7_12, r8_6, c8_6, n8_12, r9_6, c9_6, n9_12, r12_6, c12_6, n12_4, n12_5, n12_6, n12_7, n12_8, n12_9], (by rw [E5_3.out]; first | exact c5_6 | (simp [go_sem, r4_6, c4_6, n4_12, r5_6, c5_6, n5_12, r6_6, c6_6, n6_12, r7_6, c7_6, n7_12, r8_6, c8_6, n8_12, r9_6, c9_6, n9_12, r12_6, c12_6, n12_4, n12_5, n12_6, n12_7, n12_8, n12_9]; done))⟩, ⟨by simp [go_sem, r4_6, c4_6, n4_12, r5_6, c5_6, n5_12, r6_6, c6_6, n6_12, r7_6, c7_6, n7_12, r8_6, c8_6, n8_12, r9_6, c9_6, n9_12, r12_6, c12_6, n12_4, n12_5, n12_6, n12_7, n12_8, n12_9], (by rw [E6_3.out]; first | exact c6_6 | (simp [go_sem, r4_6, c4_6, n4_12, r5_6, c5_6, n5_12, r6_6, c6_6, n6_12, r7_6, c7_6, n7_12, r8_6, c8_6, n8_12, r9_6, c9_6, n9_12, r12_6, c12_6, n12_4, n12_5, n12_6, n12_7, n12_8, n12_9]; done))⟩, ⟨by simp [go_sem, r4_6, c4_6, n4_12, r5_6, c5_6, n5_12, r6_6, c6_6, n6_12, r7_6, c7_6, n7_12, r8_6, c8_6, n8_12, r9_6, c9_6, n9_12, r12_6, c12_6, n12_4, n12_5, n12_6, n12_7, n12_8, n12_9], (by rw [E7_3.out]; first | exact c7_6 | (simp [go_sem, r4_6, c4_6, n4_12, r5_6, c5_6, n5_12, r6_6, c6_6, n6_12, r7_6, c7_6, n7_12, r8_6, c8_6, n8_12, r9_6, c9_6, n9_12, r12_6, c12_6, n12_4, n12_5, n12_6, n12_7, n12_8, n12_9]; done))⟩, ⟨by simp [go_sem, r4_6, c4_6, n4_12, r5_6, c5_6, n5_12, r6_6, c6_6, n6_12, r7_6, c7_6, n7_12, r8_6, c8_6, n8_12, r9_6, c9_6, n9_12, r12_6, c12_6, n12_4, n12_5, n12_6, n12_7, n12_8, n12_9], (by rw [E8_3.out]; first | exact c8_6 | (simp [go_sem, r4_6, c4_6, n4_12, r5_6, c5_6, n5_12, r6_6, c6_6, n6_12, r7_6, c7_6, n7_12, r8_6, c8_6, n8_12, r9_6, c9_6, n9_12, r12_6, c12_6, n12_4, n12_5, n12_6, n12_7, n12_8, n12_9]; done))⟩, ⟨by simp [go_sem, r4_6, c4_6, n4_12, r5_6, c5_6, n5_12, r6_6, c6_6, n6_12, r7_6, c7_6, n7_12, r8_6, c8_6, n8_12, r9_6, c9_6, n9_12, r12_6, c12_6, n12_4, n12_5, n12_6, n12_7, n12_8, n12_9], (by first | (rw [blk_setRow _ _ _ _ r9_6, if_pos rfl]; exact cv_step p n m A C F G i j) | exact (c9_6).trans (cv_step p n m A C F G i j) | (simp [go_sem, r4_6, c4_6, n4_12, r5_6, c5_6, n5_12, r6_6, c6_6, n6_12, r7_6, c7_6, n7_12, r8_6, c8_6, n8_12, r9_6, c9_6, n9_12, r12_6, c12_6, n12_4, n12_5, n12_6, n12_7, n12_8, n12_9]; exact cv_step p n m A C F G i j))⟩⟩
          case measure => simp [intOf]; omega
        · skip
          obtain rfl : m = j := by omega
          go_wp2
          go_roundw
          case rel => exact ⟨i + 1, by omega, by go_num, (by (repeat (first | exact hb3 | exact Below.refl _ _ | refine Below.alloc ?_ (by first | omega | (simp; try omega)) _ | refine below_setRow ?_ (by omega) _ | refine Below.drew ?_))), ⟨by simp [go_sem, r4_3, c4_3, r5_3, c5_3, r6_3, c6_3, r7_3, c7_3, r8_3, c8_3, r9_3, c9_3], (by rw [E4_2.out]; first | exact c4_3 | (simp [go_sem, r4_3, c4_3, r5_3, c5_3, r6_3, c6_3, r7_3, c7_3, r8_3, c8_3, r9_3, c9_3]; done))⟩, ⟨by simp [go_sem, r4_3, c4_3, r5_3, c5_3, r6_3, c6_3, r7_3, c7_3, r8_3, c8_3, r9_3, c9_3], (by rw [E5_2.out]; first | exact c5_3 | (simp [go_sem, r4_3, c4_3, r5_3, c5_3, r6_3, c6_3, r7_3, c7_3, r8_3, c8_3, r9_3, c9_3]; done))⟩, ⟨by simp [go_sem, r4_3, c4_3, r5_3, c5_3, r6_3, c6_3, r7_3, c7_3, r8_3, c8_3, r9_3, c9_3], (by rw [E6_2.out]; first | exact c6_3 | (simp [go_sem, r4_3, c4_3, r5_3, c5_3, r6_3, c6_3, r7_3, c7_3, r8_3, c8_3, r9_3, c9_3]; done))⟩, ⟨by simp [go_sem, r4_3, c4_3, r5_3, c5_3, r6_3, c6_3, r7_3, c7_3, r8_3, c8_3, r9_3, c9_3], (by rw [E7_2.out]; first | exact c7_3 | (simp [go_sem, r4_3, c4_3, r5_3, c5_3, r6_3, c6_3, r7_3, c7_3, r8_3, c8_3, r9_3, c9_3]; done))⟩, ⟨by simp [go_sem, r4_3, c4_3, r5_3, c5_3, r6_3, c6_3, r7_3, c7_3, r8_3, c8_3, r9_3, c9_3], (by rw [E8_2.out]; first | exact c8_3 | (simp [go_sem, r4_3, c4_3, r5_3, c5_3, r6_3, c6_3, r7_3, c7_3, r8_3, c8_3, r9_3, c9_3]; done))⟩, ⟨by simp [go_sem, r4_3, c4_3, r5_3, c5_3, r6_3, c6_3, r7_3, c7_3, r8_3, c8_3, r9_3, c9_3], (by first | exact (c9_3).trans (cv_row p n m A C F G i) | (simp [go_sem, r4_3, c4_3, r5_3, c5_3, r6_3, c6_3, r7_3, c7_3, r8_3, c8_3, r9_3, c9_3]; exact cv_row p n m A C F G i))⟩⟩
          case measure => simp [intOf]; omega
    · skip
      obtain rfl : m = i := by omega
      go_wp2_with fail
      refine bodyPost_ret (result_cell rfl aggLin _ _ (row 64 (cvK p n m A C F G m 0)) _ rfl ?_ ?_) rfl ⟨rfl, ?_⟩
      · simp [go_sem, r4_2, c4_2, r5_2, c5_2, r6_2, c6_2, r7_2, c7_2, r8_2, c8_2, r9_2, c9_2]
      · simp [go_sem, r4_2, c4_2, r5_2, c5_2, r6_2, c6_2, r7_2, c7_2, r8_2, c8_2, r9_2, c9_2]
      · repeat (first | exact hb2 | exact Below.refl _ _ | refine Below.alloc ?_ (by first | omega | (simp; try omega)) _ | refine below_setRow ?_ (by omega) _ | refine Below.drew ?_)

/-! ### coproducts and Counits by the reference model -/
theorem copS_skip (p : Int) (f v : Nat → Int) (n i : Nat) (h : v i = 0) : row 64 (copS p f v n i 0) = row 64 (copS p f v n (i + 1) 0) := row_congr fun t _ => by
  unfold copS copK copF
  split
  · rw [if_neg (by omega), if_neg (by omega), sumTo, h, Int.zero_mul, Int.add_zero]
  · rfl

set_option maxRecDepth 100000 in
set_option maxHeartbeats 1000000 in
theorem l03Coproduct_any (p : Int) (n : Nat) (f v : Nat → Int) (w : World) (hp : 0 < p) (hp' : p ≤ 255) (hn : n ≤ 8) (hF : Bytes 1104 f) (hv : Bytes 8 v) :
    Calls Try.prog 46 #[.agg (hop p n f), .agg (row 8 v)] w fun e w' => e = .returned (.agg (row 64 (copS p (coF f) v n n 0))) ∧ Below w.heap.size w w' := by
  have HF := Lib.hid hF; clear hF
  have Hv := Lib.hid hv; clear hv
  go_enter Try.func46, Try.ntmps46
  go_wp2
  refine atomW fun W1 e1 => ?_
  have hb1 : Below w.heap.size w W1 := by rw [e1]; (repeat (first | exact Below.refl _ _ | refine Below.alloc ?_ (by first | omega | (simp; try omega)) _ | refine below_setRow ?_ (by omega) _ | refine Below.drew ?_))
  have q1 := hb1.size
  have r2_1 : IsRow W1 (w.heap.size) := by rw [e1]; simp [go_sem]
  have c2_1 := congrArg (fun x => blk x (w.heap.size)) e1; simp [go_sem] at c2_1
  have z2_1 := isRow_lt r2_1
  have r3_1 : IsRow W1 (w.heap.size + 1) := by rw [e1]; simp [go_sem]
  have c3_1 := congrArg (fun x => blk x (w.heap.size + 1)) e1; simp [go_sem] at c3_1
  have z3_1 := isRow_lt r3_1
  have r4_1 : IsRow W1 (w.heap.size + 2) := by rw [e1]; simp [go_sem]
  have c4_1 := congrArg (fun x => blk x (w.heap.size + 2)) e1; simp [go_sem] at c4_1
  have z4_1 := isRow_lt r4_1
  have r5_1 : IsRow W1 (w.heap.size + 3) := by rw [e1]; simp [go_sem]
  have c5_1 := congrArg (fun x => blk x (w.heap.size + 3)) e1; simp [go_sem] at c5_1
  have z5_1 := isRow_lt r5_1
  clear e1
  go_loopw [6] (fun s6 wr => ∃ i : Nat, i ≤ n ∧ s6 = .int .i64 i ∧ Below w.heap.size w wr ∧ (IsRow wr (w.heap.size) ∧ blk wr (w.heap.size) = blk W1 (w.heap.size)) ∧ (IsRow wr (w.heap.size + 1) ∧ blk wr (w.heap.size + 1) = blk W1 (w.heap.size + 1)) ∧ (IsRow wr (w.heap.size + 2) ∧ blk wr (w.heap.size + 2) = blk W1 (w.heap.size + 2)) ∧ (IsRow wr (w.heap.size + 3) ∧ blk wr (w.heap.size + 3) = row 64 (copS p (coF f) v n i 0))) (fun s6 _ => n - (intOf s6).toNat)
  case atStart => exact ⟨0, by omega, rfl, hb1, ⟨r2_1, rfl⟩, ⟨r3_1, rfl⟩, ⟨r4_1, rfl⟩, ⟨r5_1, c5_1.trans (copS_start p (coF f) v n)⟩⟩
  case round =>
    obtain ⟨i, hle2, rfl, hb2, ⟨r2_2, c2_2⟩, ⟨r3_2, c3_2⟩, ⟨r4_2, c4_2⟩, ⟨r5_2, c5_2⟩⟩ := hrel
    obtain ⟨W2, rfl⟩ : ∃ W2 : World, W2 = wr := ⟨_, rfl⟩
    have q2 := hb2.size
    have E2_2 := Lib.hid c2_1; replace c2_2 := c2_2.trans c2_1
    have z2_2 := isRow_lt r2_2
    have E3_2 := Lib.hid c3_1; replace c3_2 := c3_2.trans c3_1
    have z3_2 := isRow_lt r3_2
    have E4_2 := Lib.hid c4_1; replace c4_2 := c4_2.trans c4_1
    have z4_2 := isRow_lt r4_2
    have z5_2 := isRow_lt r5_2
    clear r2_1 c2_1 z2_1 r3_1 c3_1 z3_1 r4_1 c4_1 z4_1 r5_1 c5_1 z5_1 hb1
    by_cases hlt2 : i < n
    · skip
      have i0_2 : (0 : Int) ≤ (i : Int) := by omega
      have i8_2 : (i : Int) < 8 := by omega
      have k8_2 : i < 8 := by omega
      have m8_2 : i * 8 + 8 ≤ 64 := by omega
      have m64_2 : i * 64 + 64 ≤ 512 := by omega
      have l1_2 : 10 + i * 64 + 64 ≤ 522 := by omega
      by_cases hz : v i = 0
      · skip
        have b1 := (Hv.out i (by omega)).1; have b2 := (Hv.out i (by omega)).2
        go_wp2
        go_loopw [7] (fun s7 wr => ∃ j : Nat, j ≤ 0 ∧ s7 = .int .i64 j ∧ Below w.heap.size w wr ∧ (IsRow wr (w.heap.size) ∧ blk wr (w.heap.size) = blk W2 (w.heap.size)) ∧ (IsRow wr (w.heap.size + 1) ∧ blk wr (w.heap.size + 1) = blk W2 (w.heap.size + 1)) ∧ (IsRow wr (w.heap.size + 2) ∧ blk wr (w.heap.size + 2) = blk W2 (w.heap.size + 2)) ∧ (IsRow wr (w.heap.size + 3) ∧ blk wr (w.heap.size + 3) = row 64 (copS p (coF f) v n i 0))) (fun s7 _ => 0 - (intOf s7).toNat)
        case atStart => exact ⟨0, by omega, rfl, hb2, ⟨r2_2, rfl⟩, ⟨r3_2, rfl⟩, ⟨r4_2, rfl⟩, ⟨r5_2, c5_2⟩⟩
        case round =>
          obtain ⟨j, hle3, rfl, hb3, ⟨r2_3, c2_3⟩, ⟨r3_3, c3_3⟩, ⟨r4_3, c4_3⟩, ⟨r5_3, c5_3⟩⟩ := hrel
          obtain ⟨W3, rfl⟩ : ∃ W3 : World, W3 = wr := ⟨_, rfl⟩
          have q3 := hb3.size
          have E2_3 := Lib.hid c2_2; replace c2_3 := c2_3.trans c2_2
          have z2_3 := isRow_lt r2_3
          have E3_3 := Lib.hid c3_2; replace c3_3 := c3_3.trans c3_2
          have z3_3 := isRow_lt r3_3
          have E4_3 := Lib.hid c4_2; replace c4_3 := c4_3.trans c4_2
          have z4_3 := isRow_lt r4_3
          have z5_3 := isRow_lt r5_3
          clear r2_2 c2_2 z2_2 r3_2 c3_2 z3_2 r4_2 c4_2 z4_2 r5_2 c5_2 z5_2 hb2
          by_cases hlt3 : j < 0
          · skip
            have i0_3 : (0 : Int) ≤ (j : Int) := by omega
            have i8_3 : (j : Int) < 8 := by omega
            have k8_3 : j < 8 := by omega
            have m8_3 : j * 8 + 8 ≤ 64 := by omega
            have m64_3 : j * 64 + 64 ≤ 512 := by omega
            have l1_3 : 10 + j * 64 + 64 ≤ 522 := by omega
            have l2_3i : 10 + i * 64 + j * 8 + 8 ≤ 522 := by omega
            have l3_3i : 10 + j * 64 + i * 8 + 8 ≤ 522 := by omega
            have l4_3i : i * 64 + j * 8 + 8 ≤ 512 := by omega
            have l5_3i : j * 64 + i * 8 + 8 ≤ 512 := by omega
            have l6_3i : i * 8 + j < 64 := by omega
            have l7_3i : j * 8 + i < 64 := by omega
            omega
          · skip
            obtain rfl : j = 0 := by omega
            go_wp2
            go_roundw
            case rel => exact ⟨i + 1, by omega, by go_num, (by (repeat (first | exact hb3 | exact Below.refl _ _ | refine Below.alloc ?_ (by first | omega | (simp; try omega)) _ | refine below_setRow ?_ (by omega) _ | refine Below.drew ?_))), ⟨by simp [go_sem, r2_3, c2_3, r3_3, c3_3, r4_3, c4_3, r5_3, c5_3], (by rw [E2_2.out]; first | exact c2_3 | (simp [go_sem, r2_3, c2_3, r3_3, c3_3, r4_3, c4_3, r5_3, c5_3]; done))⟩, ⟨by simp [go_sem, r2_3, c2_3, r3_3, c3_3, r4_3, c4_3, r5_3, c5_3], (by rw [E3_2.out]; first | exact c3_3 | (simp [go_sem, r2_3, c2_3, r3_3, c3_3, r4_3, c4_3, r5_3, c5_3]; done))⟩, ⟨by simp [go_sem, r2_3, c2_3, r3_3, c3_3, r4_3, c4_3, r5_3, c5_3], (by rw [E4_2.out]; first | exact c4_3 | (simp [go_sem, r2_3, c2_3, r3_3, c3_3, r4_3, c4_3, r5_3, c5_3]; done))⟩, ⟨by simp [go_sem, r2_3, c2_3, r3_3, c3_3, r4_3, c4_3, r5_3, c5_3], (by first | exact (c5_3).trans (copS_skip p (coF f) v n i hz) | (simp [go_sem, r2_3, c2_3, r3_3, c3_3, r4_3, c4_3, r5_3, c5_3]; exact copS_skip p (coF f) v n i hz))⟩⟩
            case measure => simp [intOf]; omega
      · skip
        have b1 := (Hv.out i (by omega)).1; have b2 := (Hv.out i (by omega)).2
        go_wp2
        go_loopw [7] (fun s7 wr => ∃ j : Nat, j ≤ n ∧ s7 = .int .i64 j ∧ Below w.heap.size w wr ∧ (IsRow wr (w.heap.size) ∧ blk wr (w.heap.size) = blk W2 (w.heap.size)) ∧ (IsRow wr (w.heap.size + 1) ∧ blk wr (w.heap.size + 1) = blk W2 (w.heap.size + 1)) ∧ (IsRow wr (w.heap.size + 2) ∧ blk wr (w.heap.size + 2) = blk W2 (w.heap.size + 2)) ∧ (IsRow wr (w.heap.size + 3) ∧ blk wr (w.heap.size + 3) = row 64 (copS p (coF f) v n i j))) (fun s7 _ => n - (intOf s7).toNat)
        case atStart => exact ⟨0, by omega, rfl, hb2, ⟨r2_2, rfl⟩, ⟨r3_2, rfl⟩, ⟨r4_2, rfl⟩, ⟨r5_2, c5_2⟩⟩
        case round =>
          obtain ⟨j, hle4, rfl, hb4, ⟨r2_4, c2_4⟩, ⟨r3_4, c3_4⟩, ⟨r4_4, c4_4⟩, ⟨r5_4, c5_4⟩⟩ := hrel
          obtain ⟨W4, rfl⟩ : ∃ W4 : World, W4 = wr := ⟨_, rfl⟩
          have q4 := hb4.size
          have E2_4 := Lib.hid c2_2; replace c2_4 := c2_4.trans c2_2
          have z2_4 := isRow_lt r2_4
          have E3_4 := Lib.hid c3_2; replace c3_4 := c3_4.trans c3_2
          have z3_4 := isRow_lt r3_4
          have E4_4 := Lib.hid c4_2; replace c4_4 := c4_4.trans c4_2
          have z4_4 := isRow_lt r4_4
          have z5_4 := isRow_lt r5_4
          clear r2_2 c2_2 z2_2 r3_2 c3_2 z3_2 r4_2 c4_2 z4_2 r5_2 c5_2 z5_2 hb2
          by_cases hlt4 : j < n
          · skip
            have i0_4 : (0 : Int) ≤ (j : Int) := by omega
            have i8_4 : (j : Int) < 8 := by omega
            have k8_4 : j < 8 := by omega
            have m8_4 : j * 8 + 8 ≤ 64 := by omega
            have m64_4 : j * 64 + 64 ≤ 512 := by omega
            have l1_4 : 10 + j * 64 + 64 ≤ 522 := by omega
            have l2_4i : 10 + i * 64 + j * 8 + 8 ≤ 522 := by omega
            have l3_4i : 10 + j * 64 + i * 8 + 8 ≤ 522 := by omega
            have l4_4i : i * 64 + j * 8 + 8 ≤ 512 := by omega
            have l5_4i : j * 64 + i * 8 + 8 ≤ 512 := by omega
            have l6_4i : i * 8 + j < 64 := by omega
            have l7_4i : j * 8 + i < 64 := by omega
            have HA : Hid (Bytes 8 fun t => copS p (coF f) v n i j (j * 8 + t)) := Lib.hid fun t _ => copS_bytes hp hp' (coF f) v n i j _
            have HB : Hid (Bytes 8 (mtab (coF f) i j)) := Lib.hid (mtab_bytes (co_bytes HF.out) i j (by omega) (by omega))
            have e9 := hop_com8 p n f i j (by omega) (by omega)
            have q1 : IntKind.i64.wrap (v i) = v i := IntWalk.i64_in _ (by omega)
            have l9 : 530 + i * 64 + j * 8 + 8 ≤ 1106 := by omega
            go_wp2
            refine wp_quiet_tail 18 (Below W4.heap.size W4) (by kernel_rfl) (by kernel_rfl) (Below.refl _ _).drew ?_
            simp only [List.take_succ_cons, List.take_zero, List.drop_succ_cons, List.drop_zero]
            iterate 16 (refine q_plain rfl ?_; apply Exists.intro; refine ⟨fun W hW => ?_, ?_⟩; (focus (obtain ⟨x2, y2⟩ := keepB hW z2_4 r2_4 c2_4; obtain ⟨x3, y3⟩ := keepB hW z3_4 r3_4 c3_4; obtain ⟨x4, y4⟩ := keepB hW z4_4 r4_4 c4_4; obtain ⟨x5, y5⟩ := keepB hW z5_4 r5_4 c5_4; go_simp; first | done | rfl)); simp only [Act.put, List.setIfInBounds_toArray, List.set_cons_zero, List.set_cons_succ])
            (refine q_plain rfl ?_; apply Exists.intro; refine ⟨fun W hW => ?_, ?_⟩; (focus (obtain ⟨x2, y2⟩ := keepB hW z2_4 r2_4 c2_4; obtain ⟨x3, y3⟩ := keepB hW z3_4 r3_4 c3_4; obtain ⟨x4, y4⟩ := keepB hW z4_4 r4_4 c4_4; obtain ⟨x5, y5⟩ := keepB hW z5_4 r5_4 c5_4; go_simp; (go_at_call 74; exact (l01Add_any _ _ _ _ _ hp hp' (by omega) (by omega) HA.out HB.out).mono fun e w2 ⟨he, hw2⟩ => ⟨he, hW.trans (hw2.mono hW.size)⟩))); simp only [Act.put, List.setIfInBounds_toArray, List.set_cons_zero, List.set_cons_succ])
            iterate 1 (refine q_plain rfl ?_; apply Exists.intro; refine ⟨fun W hW => ?_, ?_⟩; (focus (obtain ⟨x2, y2⟩ := keepB hW z2_4 r2_4 c2_4; obtain ⟨x3, y3⟩ := keepB hW z3_4 r3_4 c3_4; obtain ⟨x4, y4⟩ := keepB hW z4_4 r4_4 c4_4; obtain ⟨x5, y5⟩ := keepB hW z5_4 r5_4 c5_4; go_simp; first | done | rfl)); simp only [Act.put, List.setIfInBounds_toArray, List.set_cons_zero, List.set_cons_succ])
            refine wpQuiet_nil ?_
            intro W5 hw5
            obtain ⟨r2_5, c2_5⟩ := keepB hw5 z2_4 r2_4 c2_4
            have z2_5 := isRow_lt r2_5
            obtain ⟨r3_5, c3_5⟩ := keepB hw5 z3_4 r3_4 c3_4
            have z3_5 := isRow_lt r3_5
            obtain ⟨r4_5, c4_5⟩ := keepB hw5 z4_4 r4_4 c4_4
            have z4_5 := isRow_lt r4_5
            obtain ⟨r5_5, c5_5⟩ := keepB hw5 z5_4 r5_4 c5_4
            have z5_5 := isRow_lt r5_5
            have hb5 := hb4.trans (hw5.mono hb4.size)
            have q5 := hb5.size
            clear hw5 r2_4 c2_4 z2_4 r3_4 c3_4 z3_4 r4_4 c4_4 z4_4 r5_4 c5_4 z5_4 hb4
            go_wp2
            go_roundw
            case rel => exact ⟨j + 1, by omega, by go_num, (by (repeat (first | exact hb5 | exact Below.refl _ _ | refine Below.alloc ?_ (by first | omega | (simp; try omega)) _ | refine below_setRow ?_ (by omega) _ | refine Below.drew ?_))), ⟨by simp [go_sem, r2_5, c2_5, r3_5, c3_5, r4_5, c4_5, r5_5, c5_5], (by rw [E2_4.out]; first | exact c2_5 | (simp [go_sem, r2_5, c2_5, r3_5, c3_5, r4_5, c4_5, r5_5, c5_5]; done))⟩, ⟨by simp [go_sem, r2_5, c2_5, r3_5, c3_5, r4_5, c4_5, r5_5, c5_5], (by rw [E3_4.out]; first | exact c3_5 | (simp [go_sem, r2_5, c2_5, r3_5, c3_5, r4_5, c4_5, r5_5, c5_5]; done))⟩, ⟨by simp [go_sem, r2_5, c2_5, r3_5, c3_5, r4_5, c4_5, r5_5, c5_5], (by rw [E4_4.out]; first | exact c4_5 | (simp [go_sem, r2_5, c2_5, r3_5, c3_5, r4_5, c4_5, r5_5, c5_5]; done))⟩, ⟨by simp [go_sem, r2_5, c2_5, r3_5, c3_5, r4_5, c4_5, r5_5, c5_5], (by first | (rw [blk_setRow _ _ _ _ r5_5, if_pos rfl]; exact copS_step p (coF f) v n i j (by omega) hn) | exact (c5_5).trans (copS_step p (coF f) v n i j (by omega) hn) | (simp [go_sem, r2_5, c2_5, r3_5, c3_5, r4_5, c4_5, r5_5, c5_5]; exact copS_step p (coF f) v n i j (by omega) hn))⟩⟩
            case measure => simp [intOf]; omega
          · skip
            obtain rfl : n = j := by omega
            go_wp2
            go_roundw
            case rel => exact ⟨i + 1, by omega, by go_num, (by (repeat (first | exact hb4 | exact Below.refl _ _ | refine Below.alloc ?_ (by first | omega | (simp; try omega)) _ | refine below_setRow ?_ (by omega) _ | refine Below.drew ?_))), ⟨by simp [go_sem, r2_4, c2_4, r3_4, c3_4, r4_4, c4_4, r5_4, c5_4], (by rw [E2_2.out]; first | exact c2_4 | (simp [go_sem, r2_4, c2_4, r3_4, c3_4, r4_4, c4_4, r5_4, c5_4]; done))⟩, ⟨by simp [go_sem, r2_4, c2_4, r3_4, c3_4, r4_4, c4_4, r5_4, c5_4], (by rw [E3_2.out]; first | exact c3_4 | (simp [go_sem, r2_4, c2_4, r3_4, c3_4, r4_4, c4_4, r5_4, c5_4]; done))⟩, ⟨by simp [go_sem, r2_4, c2_4, r3_4, c3_4, r4_4, c4_4, r5_4, c5_4], (by rw [E4_2.out]; first | exact c4_4 | (simp [go_sem, r2_4, c2_4, r3_4, c3_4, r4_4, c4_4, r5_4, c5_4]; done))⟩, ⟨by simp [go_sem, r2_4, c2_4, r3_4, c3_4, r4_4, c4_4, r5_4, c5_4], (by first | exact (c5_4).trans (copS_row p (coF f) v n i) | (simp [go_sem, r2_4, c2_4, r3_4, c3_4, r4_4, c4_4, r5_4, c5_4]; exact copS_row p (coF f) v n i))⟩⟩
            case measure => simp [intOf]; omega
    · skip
      obtain rfl : n = i := by omega
      go_wp2_with fail
      refine bodyPost_ret (result_cell rfl aggLin _ _ (row 64 (copS p (coF f) v n n 0)) _ rfl ?_ ?_) rfl ⟨rfl, ?_⟩
      · simp [go_sem, r2_2, c2_2, r3_2, c3_2, r4_2, c4_2, r5_2, c5_2]
      · simp [go_sem, r2_2, c2_2, r3_2, c3_2, r4_2, c4_2, r5_2, c5_2]
      · repeat (first | exact hb2 | exact Below.refl _ _ | refine Below.alloc ?_ (by first | omega | (simp; try omega)) _ | refine below_setRow ?_ (by omega) _ | refine Below.drew ?_)

set_option maxRecDepth 100000 in
set_option maxHeartbeats 1000000 in
theorem l03Counit_any (p : Int) (n : Nat) (f v : Nat → Int) (w : World) (hp : 0 < p) (hp' : p ≤ 255) (hn : n ≤ 8) (hF : Bytes 1104 f) (hv : Bytes 8 v) :
    Calls Try.prog 49 #[.agg (hop p n f), .agg (row 8 v)] w fun e w' => e = .returned (.int .i64 (dotF n v (coF f) % p)) ∧ Below w.heap.size w w' := by
  have HF := Lib.hid hF; clear hF
  have Hv := Lib.hid hv; clear hv
  have HC : Hid (Bytes 8 (coF f)) := Lib.hid (unit_bytes (co_bytes HF.out))
  have hp0 : ¬ p = 0 := by omega
  go_enter Try.func49, Try.ntmps49
  go_wp2
  refine atomW fun W1 e1 => ?_
  have hb1 : Below w.heap.size w W1 := by rw [e1]; (repeat (first | exact Below.refl _ _ | refine Below.alloc ?_ (by first | omega | (simp; try omega)) _ | refine below_setRow ?_ (by omega) _ | refine Below.drew ?_))
  have q1 := hb1.size
  have r2_1 : IsRow W1 (w.heap.size) := by rw [e1]; simp [go_sem]
  have c2_1 := congrArg (fun x => blk x (w.heap.size)) e1; simp [go_sem] at c2_1
  have z2_1 := isRow_lt r2_1
  have r3_1 : IsRow W1 (w.heap.size + 1) := by rw [e1]; simp [go_sem]
  have c3_1 := congrArg (fun x => blk x (w.heap.size + 1)) e1; simp [go_sem] at c3_1
  have z3_1 := isRow_lt r3_1
  clear e1
  go_loopw [5, 6] (fun s5 s6 wr => ∃ i : Nat, i ≤ n ∧ s5 = .int .i64 (dotF i v (coF f)) ∧ s6 = .int .i64 i ∧ Below w.heap.size w wr ∧ (IsRow wr (w.heap.size) ∧ blk wr (w.heap.size) = blk W1 (w.heap.size)) ∧ (IsRow wr (w.heap.size + 1) ∧ blk wr (w.heap.size + 1) = blk W1 (w.heap.size + 1))) (fun _ s6 _ => n - (intOf s6).toNat)
  case atStart => exact ⟨0, by omega, (by first | rfl | (simp; done) | go_num), rfl, hb1, ⟨r2_1, rfl⟩, ⟨r3_1, rfl⟩⟩
  case round =>
    obtain ⟨i, hle2, rfl, rfl, hb2, ⟨r2_2, c2_2⟩, ⟨r3_2, c3_2⟩⟩ := hrel
    obtain ⟨W2, rfl⟩ : ∃ W2 : World, W2 = wr := ⟨_, rfl⟩
    have q2 := hb2.size
    have E2_2 := Lib.hid c2_1; replace c2_2 := c2_2.trans c2_1
    have z2_2 := isRow_lt r2_2
    have E3_2 := Lib.hid c3_1; replace c3_2 := c3_2.trans c3_1
    have z3_2 := isRow_lt r3_2
    clear r2_1 c2_1 z2_1 r3_1 c3_1 z3_1 hb1
    have d1 := (dot_range 8 Hv.out HC.out i (by omega)).1; have d2 := (dot_range 8 Hv.out HC.out i (by omega)).2
    by_cases hlt2 : i < n
    · skip
      have i0_2 : (0 : Int) ≤ (i : Int) := by omega
      have i8_2 : (i : Int) < 8 := by omega
      have k8_2 : i < 8 := by omega
      have m8_2 : i * 8 + 8 ≤ 64 := by omega
      have m64_2 : i * 64 + 64 ≤ 512 := by omega
      have l1_2 : 10 + i * 64 + 64 ≤ 522 := by omega
      have b1 := (Hv.out i (by omega)).1; have b2 := (Hv.out i (by omega)).2; have b3 := (HC.out i (by omega)).1; have b4 := (HC.out i (by omega)).2; have b5 := (prod_le (v i) (coF f i) 255 255 b1 b3 b2 b4).1; have b6 := (prod_le (v i) (coF f i) 255 255 b1 b3 b2 b4).2
      have q1 : IntKind.i64.wrap (v i * coF f i) = v i * coF f i := IntWalk.i64_in _ (by omega)
      have q2 : IntKind.i64.wrap (dotF i v (coF f) + v i * coF f i) = dotF i v (coF f) + v i * coF f i := IntWalk.i64_in _ (by omega)
      have q3 : IntKind.i64.wrap (v i) = v i := IntWalk.i64_in _ (by omega)
      have q4 : IntKind.i64.wrap (coF f i) = coF f i := IntWalk.i64_in _ (by omega)
      have e9 := hop_cq p n f i (by omega)
      go_wp2
      refine wp_quiet_all (Below W2.heap.size W2) (by kernel_rfl) (by kernel_rfl) (Below.refl _ _).drew ?_
      iterate 13 (refine q_plain rfl ?_; apply Exists.intro; refine ⟨fun W hW => ?_, ?_⟩; (focus (obtain ⟨x2, y2⟩ := keepB hW z2_2 r2_2 c2_2; obtain ⟨x3, y3⟩ := keepB hW z3_2 r3_2 c3_2; go_simp; first | done | rfl)); simp only [Act.put, List.setIfInBounds_toArray, List.set_cons_zero, List.set_cons_succ])
      refine wpQuiet_nil ?_
      intro W3 hw3
      obtain ⟨r2_3, c2_3⟩ := keepB hw3 z2_2 r2_2 c2_2
      have z2_3 := isRow_lt r2_3
      obtain ⟨r3_3, c3_3⟩ := keepB hw3 z3_2 r3_2 c3_2
      have z3_3 := isRow_lt r3_3
      have hb3 := hb2.trans (hw3.mono hb2.size)
      have q3 := hb3.size
      clear hw3 r2_2 c2_2 z2_2 r3_2 c3_2 z3_2 hb2
      go_wp2
      go_roundw
      case rel => exact ⟨i + 1, by omega, (by first | rfl | go_num | (simp; done)), by go_num, (by (repeat (first | exact hb3 | exact Below.refl _ _ | refine Below.alloc ?_ (by first | omega | (simp; try omega)) _ | refine below_setRow ?_ (by omega) _ | refine Below.drew ?_))), ⟨by simp [go_sem, r2_3, c2_3, r3_3, c3_3], (by rw [E2_2.out]; first | exact c2_3 | (simp [go_sem, r2_3, c2_3, r3_3, c3_3]; done))⟩, ⟨by simp [go_sem, r2_3, c2_3, r3_3, c3_3], (by rw [E3_2.out]; first | exact c3_3 | (simp [go_sem, r2_3, c2_3, r3_3, c3_3]; done))⟩⟩
      case measure => simp [intOf]; omega
    · skip
      obtain rfl : n = i := by omega
      have t1 : (dotF n v (coF f)).tmod p = dotF n v (coF f) % p := Int.tmod_eq_emod_of_nonneg d1
      go_wp2_with fail
      go_ret
      exact ⟨rfl, (by (repeat (first | exact hb2 | exact Below.refl _ _ | refine Below.alloc ?_ (by first | omega | (simp; try omega)) _ | refine below_setRow ?_ (by omega) _ | refine Below.drew ?_)))⟩

end Go.Proofs.Ytnjjcimpcnennaa
