/- Products of pairs and the sums of axioms 6 and 7 by the reference model. -/
import Derived.Test.YtnjjcimpcnennaaR2
import Derived.Test.YtnjjcimpcnennaaRegionD
namespace Go.Proofs.Ytnjjcimpcnennaa
open Go.RowKit
set_option linter.unusedSimpArgs false
set_option linter.unusedVariables false
attribute [local irreducible] wpQuiet wpQE

/-! ### products of pairs by the reference model -/
def ppS (p : Int) (n : Nat) (f m q : Nat → Int) (i j : Nat) : Nat → Int := fun t => if t / 8 < n then ppK p n f m q i j t else 0
/-- x rows have the pair i, j too -/
def sxK (p : Int) (n : Nat) (f m q : Nat → Int) (i j x : Nat) : Nat → Int := fun t => if t / 8 < x then ppS p n f m q i (j + 1) t else ppS p n f m q i j t
theorem ppS_zero (p : Int) (n : Nat) (f m q : Nat → Int) : row 64 zf = row 64 (ppS p n f m q 0 0) := row_congr fun t _ => by unfold ppS ppK zf; rw [dsum_zero]; simp
theorem ppS_row (p : Int) (n : Nat) (f m q : Nat → Int) (i : Nat) : row 64 (ppS p n f m q i n) = row 64 (ppS p n f m q (i + 1) 0) := row_congr fun t _ => by unfold ppS ppK; rw [dsum_row]
theorem pp_none (p : Int) (n : Nat) (f m q : Nat → Int) (i j t : Nat) (h : ppT p n f m q (t / 8) (t % 8) i j = 0) : ppK p n f m q i (j + 1) t = ppK p n f m q i j t := by unfold ppK; rw [dsum_step, h, Int.add_zero]
theorem ppS_skip (p : Int) (n : Nat) (f m q : Nat → Int) (i j : Nat) (h : segEq 0 8 (mulF p n (mtab f) (fun t => m (i * 8 + t)) (fun t => q (j * 8 + t))) zf = true) : row 64 (ppS p n f m q i j) = row 64 (ppS p n f m q i (j + 1)) := row_congr fun t _ => by
  unfold ppS
  split
  · rw [pp_none]
    unfold ppT
    have := (segEq_iff 0 8 _ _).1 h (t % 8) (by omega)
    rw [Nat.zero_add] at this
    rw [this]; unfold zf; rw [Int.mul_zero]
  · rfl
theorem sx_zero (p : Int) (n : Nat) (f m q : Nat → Int) (i j : Nat) : row 64 (ppS p n f m q i j) = row 64 (sxK p n f m q i j 0) := row_congr fun t _ => by unfold sxK; rw [if_neg (by omega)]
theorem sx_end (p : Int) (n : Nat) (f m q : Nat → Int) (i j : Nat) : row 64 (sxK p n f m q i j n) = row 64 (ppS p n f m q i (j + 1)) := row_congr fun t _ => by
  unfold sxK
  split
  · rfl
  · rename_i h
    unfold ppS; rw [if_neg h, if_neg h]
theorem sx_skip (p : Int) (n : Nat) (f m q : Nat → Int) (i j x : Nat) (h : mtab f i j x = 0) : row 64 (sxK p n f m q i j x) = row 64 (sxK p n f m q i j (x + 1)) := row_congr fun t _ => by
  unfold sxK
  by_cases h1 : t / 8 < x
  · rw [if_pos h1, if_pos (by omega)]
  · rw [if_neg h1]
    by_cases h2 : t / 8 = x
    · rw [if_pos (by omega)]
      unfold ppS
      rw [pp_none]
      unfold ppT
      rw [h2, h, Int.zero_mul]
    · rw [if_neg (by omega)]
theorem sx_step (p : Int) (n : Nat) (f m q : Nat → Int) (i j x : Nat) (hx : x < n) (hn : n ≤ 8) :
    lay (row 64 (sxK p n f m q i j x)) (x * 8) (row 8 (addm p 0 8 (mtab f i j x) (fun t => sxK p n f m q i j x (x * 8 + t)) (mulF p n (mtab f) (fun t => m (i * 8 + t)) (fun t => q (j * 8 + t))))) = row 64 (sxK p n f m q i j (x + 1)) := by
  rw [lay_row _ _ _ _ _ (by omega)]
  refine row_congr fun t ht => ?_
  by_cases h : x * 8 ≤ t ∧ t < x * 8 + 8
  · rw [if_pos h]
    unfold addm
    rw [if_pos (by omega)]
    dsimp only
    rw [Nat.sub_zero, show x * 8 + (t - x * 8) = t by omega, show t - x * 8 = t % 8 by omega]
    unfold sxK ppS
    rw [if_neg (show ¬ t / 8 < x by omega), if_pos (show t / 8 < x + 1 by omega), if_pos (show t / 8 < n by omega), if_pos (show t / 8 < n by omega)]
    unfold ppK
    rw [Int.emod_add_emod, dsum_step]
    unfold ppT
    rw [show t / 8 = x by omega]
  · rw [if_neg h]
    unfold sxK
    by_cases h2 : t / 8 < x
    · rw [if_pos h2, if_pos (by omega)]
    · rw [if_neg h2, if_neg (by omega)]
theorem ppS_bytes {p : Int} (hp : 0 < p) (hp' : p ≤ 255) (n : Nat) (f m q : Nat → Int) (i j t : Nat) : 0 ≤ ppS p n f m q i j t ∧ ppS p n f m q i j t ≤ 255 := by
  unfold ppS
  split
  · have := pp_range hp n f m q i j t; omega
  · omega
theorem sx_bytes {p : Int} (hp : 0 < p) (hp' : p ≤ 255) (n : Nat) (f m q : Nat → Int) (i j x : Nat) : Bytes 8 fun t => sxK p n f m q i j x (x * 8 + t) := fun t _ => by
  show 0 ≤ sxK p n f m q i j x (x * 8 + t) ∧ sxK p n f m q i j x (x * 8 + t) ≤ 255
  unfold sxK
  split
  · exact ppS_bytes hp hp' n f m q i (j + 1) _
  · exact ppS_bytes hp hp' n f m q i j _

set_option maxRecDepth 100000 in
set_option maxHeartbeats 4000000 in
theorem l03Pairs_any (p : Int) (n : Nat) (f m q : Nat → Int) (w : World) (hp : 0 < p) (hp' : p ≤ 255) (hn : n ≤ 8) (hF : Bytes 1104 f) (hm : Bytes 64 m) (hq : Bytes 64 q) :
    Calls Try.prog 92 #[.agg (hop p n f), .agg (row 64 m), .agg (row 64 q)] w fun e w' => e = .returned (.agg (row 64 (ppS p n f m q n 0))) ∧ Below w.heap.size w w' := by
  have HF := Lib.hid hF; clear hF
  have Hm := Lib.hid hm; clear hm
  have Hq := Lib.hid hq; clear hq
  go_enter Try.func92, Try.ntmps92
  go_wp2
  refine atomW fun W1 e1 => ?_
  have hb1 : Below w.heap.size w W1 := by rw [e1]; (repeat (first | exact Below.refl _ _ | refine Below.alloc ?_ (by first | omega | (simp; try omega)) _ | refine below_setRow ?_ (by omega) _ | refine Below.drew ?_))
  have q1 := hb1.size
  have r3_1 : IsRow W1 (w.heap.size) := by rw [e1]; simp [go_sem]
  have c3_1 := congrArg (fun x => blk x (w.heap.size)) e1; simp [go_sem] at c3_1
  have z3_1 := isRow_lt r3_1
  have r4_1 : IsRow W1 (w.heap.size + 1) := by rw [e1]; simp [go_sem]
  have c4_1 := congrArg (fun x => blk x (w.heap.size + 1)) e1; simp [go_sem] at c4_1
  have z4_1 := isRow_lt r4_1
  have r5_1 : IsRow W1 (w.heap.size + 2) := by rw [e1]; simp [go_sem]
  have c5_1 := congrArg (fun x => blk x (w.heap.size + 2)) e1; simp [go_sem] at c5_1
  have z5_1 := isRow_lt r5_1
  have r6_1 : IsRow W1 (w.heap.size + 3) := by rw [e1]; simp [go_sem]
  have c6_1 := congrArg (fun x => blk x (w.heap.size + 3)) e1; simp [go_sem] at c6_1
  have z6_1 := isRow_lt r6_1
  clear e1
  refine wp_quiet_made1 5 8 _ (row 64 zf) 30 (by kernel_rfl) rfl rfl (by omega) (by kernel_rfl) (fun a W => (xallocLin _ _ _ _ _ _ _).trans (allocLin W)) ?_
  simp only [List.take_succ_cons, List.take_zero, List.drop_succ_cons, List.drop_zero, List.eraseIdx_cons_succ, List.eraseIdx_cons_zero]
  iterate 7 (refine e_plain rfl ?_; apply Exists.intro; refine ⟨fun D hD hK W hW => ?_, ?_⟩; (focus (obtain ⟨x3, y3⟩ := keepB (hD W hW) z3_1 r3_1 c3_1; obtain ⟨x4, y4⟩ := keepB (hD W hW) z4_1 r4_1 c4_1; obtain ⟨x5, y5⟩ := keepB (hD W hW) z5_1 r5_1 c5_1; obtain ⟨x6, y6⟩ := keepB (hD W hW) z6_1 r6_1 c6_1; unfold Oper.quietAt; go_simp; first | done | rfl)); simp only [Act.put, List.setIfInBounds_toArray, List.set_cons_zero, List.set_cons_succ])
  refine e_nil ?_
  intro a2 W2 hW2
  obtain ⟨hw2, hl2, m1_2, m2_2⟩ := hW2
  have n3_9 : (w.heap.size) ≠ (a2) := by have := z3_1; omega
  have n9_3 : (a2) ≠ (w.heap.size) := by have := z3_1; omega
  have n4_9 : (w.heap.size + 1) ≠ (a2) := by have := z4_1; omega
  have n9_4 : (a2) ≠ (w.heap.size + 1) := by have := z4_1; omega
  have n5_9 : (w.heap.size + 2) ≠ (a2) := by have := z5_1; omega
  have n9_5 : (a2) ≠ (w.heap.size + 2) := by have := z5_1; omega
  have n6_9 : (w.heap.size + 3) ≠ (a2) := by have := z6_1; omega
  have n9_6 : (a2) ≠ (w.heap.size + 3) := by have := z6_1; omega
  obtain ⟨r3_2, c3_2⟩ := keepB hw2 z3_1 r3_1 c3_1
  have z3_2 := isRow_lt r3_2
  obtain ⟨r4_2, c4_2⟩ := keepB hw2 z4_1 r4_1 c4_1
  have z4_2 := isRow_lt r4_2
  obtain ⟨r5_2, c5_2⟩ := keepB hw2 z5_1 r5_1 c5_1
  have z5_2 := isRow_lt r5_2
  obtain ⟨r6_2, c6_2⟩ := keepB hw2 z6_1 r6_1 c6_1
  have z6_2 := isRow_lt r6_2
  have hb2 := hb1.trans (hw2.mono hb1.size)
  have q2 := hb2.size
  clear hw2 r3_1 c3_1 z3_1 r4_1 c4_1 z4_1 r5_1 c5_1 z5_1 r6_1 c6_1 z6_1 hb1
  have z9_2 := isRow_lt m1_2
  simp only [Act.put, List.setIfInBounds_toArray, List.set_cons_zero, List.set_cons_succ]
  go_wp2
  refine atomW fun W3 e3 => ?_
  have hb3 : Below w.heap.size w W3 := by rw [e3]; (repeat (first | exact hb2 | exact Below.refl _ _ | refine Below.alloc ?_ (by first | omega | (simp; try omega)) _ | refine below_setRow ?_ (by omega) _ | refine Below.drew ?_))
  have q3 := hb3.size
  have r3_3 : IsRow W3 (w.heap.size) := by rw [e3]; simp [go_sem, r3_2, c3_2, n3_9, r4_2, c4_2, n4_9, r5_2, c5_2, n5_9, r6_2, c6_2, n6_9, m1_2, m2_2, n9_3, n9_4, n9_5, n9_6]
  have c3_3 := congrArg (fun x => blk x (w.heap.size)) e3; simp [go_sem, r3_2, c3_2, n3_9, r4_2, c4_2, n4_9, r5_2, c5_2, n5_9, r6_2, c6_2, n6_9, m1_2, m2_2, n9_3, n9_4, n9_5, n9_6] at c3_3
  have z3_3 := isRow_lt r3_3
  have r4_3 : IsRow W3 (w.heap.size + 1) := by rw [e3]; simp [go_sem, r3_2, c3_2, n3_9, r4_2, c4_2, n4_9, r5_2, c5_2, n5_9, r6_2, c6_2, n6_9, m1_2, m2_2, n9_3, n9_4, n9_5, n9_6]
  have c4_3 := congrArg (fun x => blk x (w.heap.size + 1)) e3; simp [go_sem, r3_2, c3_2, n3_9, r4_2, c4_2, n4_9, r5_2, c5_2, n5_9, r6_2, c6_2, n6_9, m1_2, m2_2, n9_3, n9_4, n9_5, n9_6] at c4_3
  have z4_3 := isRow_lt r4_3
  have r5_3 : IsRow W3 (w.heap.size + 2) := by rw [e3]; simp [go_sem, r3_2, c3_2, n3_9, r4_2, c4_2, n4_9, r5_2, c5_2, n5_9, r6_2, c6_2, n6_9, m1_2, m2_2, n9_3, n9_4, n9_5, n9_6]
  have c5_3 := congrArg (fun x => blk x (w.heap.size + 2)) e3; simp [go_sem, r3_2, c3_2, n3_9, r4_2, c4_2, n4_9, r5_2, c5_2, n5_9, r6_2, c6_2, n6_9, m1_2, m2_2, n9_3, n9_4, n9_5, n9_6] at c5_3
  have z5_3 := isRow_lt r5_3
  have r6_3 : IsRow W3 (w.heap.size + 3) := by rw [e3]; simp [go_sem, r3_2, c3_2, n3_9, r4_2, c4_2, n4_9, r5_2, c5_2, n5_9, r6_2, c6_2, n6_9, m1_2, m2_2, n9_3, n9_4, n9_5, n9_6]
  have c6_3 := congrArg (fun x => blk x (w.heap.size + 3)) e3; simp [go_sem, r3_2, c3_2, n3_9, r4_2, c4_2, n4_9, r5_2, c5_2, n5_9, r6_2, c6_2, n6_9, m1_2, m2_2, n9_3, n9_4, n9_5, n9_6] at c6_3
  have z6_3 := isRow_lt r6_3
  have r9_3 : IsRow W3 (a2) := by rw [e3]; simp [go_sem, r3_2, c3_2, n3_9, r4_2, c4_2, n4_9, r5_2, c5_2, n5_9, r6_2, c6_2, n6_9, m1_2, m2_2, n9_3, n9_4, n9_5, n9_6]
  have c9_3 := congrArg (fun x => blk x (a2)) e3; simp [go_sem, r3_2, c3_2, n3_9, r4_2, c4_2, n4_9, r5_2, c5_2, n5_9, r6_2, c6_2, n6_9, m1_2, m2_2, n9_3, n9_4, n9_5, n9_6] at c9_3
  have z9_3 := isRow_lt r9_3
  clear e3 r3_2 c3_2 z3_2 r4_2 c4_2 z4_2 r5_2 c5_2 z5_2 r6_2 c6_2 z6_2 m1_2 m2_2 z9_2 hb2
  go_loopw [10] (fun s10 wr => ∃ i : Nat, i ≤ n ∧ s10 = .int .i64 i ∧ Below w.heap.size w wr ∧ (IsRow wr (w.heap.size) ∧ blk wr (w.heap.size) = blk W3 (w.heap.size)) ∧ (IsRow wr (w.heap.size + 1) ∧ blk wr (w.heap.size + 1) = blk W3 (w.heap.size + 1)) ∧ (IsRow wr (w.heap.size + 2) ∧ blk wr (w.heap.size + 2) = blk W3 (w.heap.size + 2)) ∧ (IsRow wr (w.heap.size + 3) ∧ blk wr (w.heap.size + 3) = blk W3 (w.heap.size + 3)) ∧ (IsRow wr (a2) ∧ blk wr (a2) = row 64 (ppS p n f m q i 0))) (fun s10 _ => n - (intOf s10).toNat)
  case atStart => exact ⟨0, by omega, rfl, hb3, ⟨r3_3, rfl⟩, ⟨r4_3, rfl⟩, ⟨r5_3, rfl⟩, ⟨r6_3, rfl⟩, ⟨r9_3, c9_3.trans (ppS_zero p n f m q)⟩⟩
  case round =>
    obtain ⟨i, hle4, rfl, hb4, ⟨r3_4, c3_4⟩, ⟨r4_4, c4_4⟩, ⟨r5_4, c5_4⟩, ⟨r6_4, c6_4⟩, ⟨r9_4, c9_4⟩⟩ := hrel
    obtain ⟨W4, rfl⟩ : ∃ W4 : World, W4 = wr := ⟨_, rfl⟩
    have q4 := hb4.size
    have E3_4 := Lib.hid c3_3; replace c3_4 := c3_4.trans c3_3
    have z3_4 := isRow_lt r3_4
    have E4_4 := Lib.hid c4_3; replace c4_4 := c4_4.trans c4_3
    have z4_4 := isRow_lt r4_4
    have E5_4 := Lib.hid c5_3; replace c5_4 := c5_4.trans c5_3
    have z5_4 := isRow_lt r5_4
    have E6_4 := Lib.hid c6_3; replace c6_4 := c6_4.trans c6_3
    have z6_4 := isRow_lt r6_4
    have z9_4 := isRow_lt r9_4
    clear r3_3 c3_3 z3_3 r4_3 c4_3 z4_3 r5_3 c5_3 z5_3 r6_3 c6_3 z6_3 r9_3 c9_3 z9_3 hb3
    by_cases hlt4 : i < n
    · skip
      have i0_4 : (0 : Int) ≤ (i : Int) := by omega
      have i8_4 : (i : Int) < 8 := by omega
      have k8_4 : i < 8 := by omega
      have m8_4 : i * 8 + 8 ≤ 64 := by omega
      have m64_4 : i * 64 + 64 ≤ 512 := by omega
      have l1_4 : 10 + i * 64 + 64 ≤ 522 := by omega
      go_wp2
      go_loopw [11] (fun s11 wr => ∃ j : Nat, j ≤ n ∧ s11 = .int .i64 j ∧ Below w.heap.size w wr ∧ (IsRow wr (w.heap.size) ∧ blk wr (w.heap.size) = blk W4 (w.heap.size)) ∧ (IsRow wr (w.heap.size + 1) ∧ blk wr (w.heap.size + 1) = blk W4 (w.heap.size + 1)) ∧ (IsRow wr (w.heap.size + 2) ∧ blk wr (w.heap.size + 2) = blk W4 (w.heap.size + 2)) ∧ (IsRow wr (w.heap.size + 3) ∧ blk wr (w.heap.size + 3) = blk W4 (w.heap.size + 3)) ∧ (IsRow wr (a2) ∧ blk wr (a2) = row 64 (ppS p n f m q i j))) (fun s11 _ => n - (intOf s11).toNat)
      case atStart => exact ⟨0, by omega, rfl, hb4, ⟨r3_4, rfl⟩, ⟨r4_4, rfl⟩, ⟨r5_4, rfl⟩, ⟨r6_4, rfl⟩, ⟨r9_4, c9_4⟩⟩
      case round =>
        obtain ⟨j, hle5, rfl, hb5, ⟨r3_5, c3_5⟩, ⟨r4_5, c4_5⟩, ⟨r5_5, c5_5⟩, ⟨r6_5, c6_5⟩, ⟨r9_5, c9_5⟩⟩ := hrel
        obtain ⟨W5, rfl⟩ : ∃ W5 : World, W5 = wr := ⟨_, rfl⟩
        have q5 := hb5.size
        have E3_5 := Lib.hid c3_4; replace c3_5 := c3_5.trans c3_4
        have z3_5 := isRow_lt r3_5
        have E4_5 := Lib.hid c4_4; replace c4_5 := c4_5.trans c4_4
        have z4_5 := isRow_lt r4_5
        have E5_5 := Lib.hid c5_4; replace c5_5 := c5_5.trans c5_4
        have z5_5 := isRow_lt r5_5
        have E6_5 := Lib.hid c6_4; replace c6_5 := c6_5.trans c6_4
        have z6_5 := isRow_lt r6_5
        have z9_5 := isRow_lt r9_5
        clear r3_4 c3_4 z3_4 r4_4 c4_4 z4_4 r5_4 c5_4 z5_4 r6_4 c6_4 z6_4 r9_4 c9_4 z9_4 hb4
        by_cases hlt5 : j < n
        · skip
          have i0_5 : (0 : Int) ≤ (j : Int) := by omega
          have i8_5 : (j : Int) < 8 := by omega
          have k8_5 : j < 8 := by omega
          have m8_5 : j * 8 + 8 ≤ 64 := by omega
          have m64_5 : j * 64 + 64 ≤ 512 := by omega
          have l1_5 : 10 + j * 64 + 64 ≤ 522 := by omega
          have l2_5i : 10 + i * 64 + j * 8 + 8 ≤ 522 := by omega
          have l3_5i : 10 + j * 64 + i * 8 + 8 ≤ 522 := by omega
          have l4_5i : i * 64 + j * 8 + 8 ≤ 512 := by omega
          have l5_5i : j * 64 + i * 8 + 8 ≤ 512 := by omega
          have l6_5i : i * 8 + j < 64 := by omega
          have l7_5i : j * 8 + i < 64 := by omega
          cases hz : segEq 0 8 (mulF p n (mtab f) (fun t => m (i * 8 + t)) (fun t => q (j * 8 + t))) zf
          · skip
            have HV : Hid (Bytes 8 fun t => m (i * 8 + t)) := Lib.hid (part_bytes Hm.out i (by omega))
            have HQ : Hid (Bytes 8 fun t => q (j * 8 + t)) := Lib.hid (part_bytes Hq.out j (by omega))
            have HW : Hid (Bytes 8 (mulF p n (mtab f) (fun t => m (i * 8 + t)) (fun t => q (j * 8 + t)))) := Lib.hid (mulF_bytes hp hp' n (mtab f) _ _)
            go_wp2
            refine wp_quiet_alloc 9 _ (.cells (row 8 zf) 28) (Below W5.heap.size W5) (Made W5 (row 8 zf)) (by kernel_rfl) rfl rfl (by kernel_rfl) (fun a W => (xallocVec _ _ _ _ _ _ _).trans (allocVec W)) (closed_below W5) (closed_made W5 _) (fun b W h => h.1) (fun W h => made_new W5 _ _ W h) (Below.refl _ _).drew ?_
            simp only [List.take_succ_cons, List.take_zero, List.drop_succ_cons, List.drop_zero]
            iterate 1 (refine e_plain rfl ?_; apply Exists.intro; refine ⟨fun D hD hK W hW => ?_, ?_⟩; (focus (obtain ⟨x3, y3⟩ := keepB (hD W hW) z3_5 r3_5 c3_5; obtain ⟨x4, y4⟩ := keepB (hD W hW) z4_5 r4_5 c4_5; obtain ⟨x5, y5⟩ := keepB (hD W hW) z5_5 r5_5 c5_5; obtain ⟨x6, y6⟩ := keepB (hD W hW) z6_5 r6_5 c6_5; obtain ⟨x9, y9⟩ := keepB (hD W hW) z9_5 r9_5 c9_5; unfold Oper.quietAt; go_simp; first | done | rfl)); simp only [Act.put, List.setIfInBounds_toArray, List.set_cons_zero, List.set_cons_succ])
            (refine e_plain rfl ?_; apply Exists.intro; refine ⟨fun D hD hK W hW => ?_, ?_⟩; (focus (obtain ⟨x3, y3⟩ := keepB (hD W hW) z3_5 r3_5 c3_5; obtain ⟨x4, y4⟩ := keepB (hD W hW) z4_5 r4_5 c4_5; obtain ⟨x5, y5⟩ := keepB (hD W hW) z5_5 r5_5 c5_5; obtain ⟨x6, y6⟩ := keepB (hD W hW) z6_5 r6_5 c6_5; obtain ⟨x9, y9⟩ := keepB (hD W hW) z9_5 r9_5 c9_5; unfold Oper.quietAt; go_simp; (go_at_call 40; exact (l03Algebra_any _ _ _ _).mono fun e w2 ⟨he, hw2⟩ => ⟨he, hK _ _ hW hw2⟩))); simp only [Act.put, List.setIfInBounds_toArray, List.set_cons_zero, List.set_cons_succ])
            iterate 6 (refine e_plain rfl ?_; apply Exists.intro; refine ⟨fun D hD hK W hW => ?_, ?_⟩; (focus (obtain ⟨x3, y3⟩ := keepB (hD W hW) z3_5 r3_5 c3_5; obtain ⟨x4, y4⟩ := keepB (hD W hW) z4_5 r4_5 c4_5; obtain ⟨x5, y5⟩ := keepB (hD W hW) z5_5 r5_5 c5_5; obtain ⟨x6, y6⟩ := keepB (hD W hW) z6_5 r6_5 c6_5; obtain ⟨x9, y9⟩ := keepB (hD W hW) z9_5 r9_5 c9_5; unfold Oper.quietAt; go_simp; first | done | rfl)); simp only [Act.put, List.setIfInBounds_toArray, List.set_cons_zero, List.set_cons_succ])
            (refine e_plain rfl ?_; apply Exists.intro; refine ⟨fun D hD hK W hW => ?_, ?_⟩; (focus (obtain ⟨x3, y3⟩ := keepB (hD W hW) z3_5 r3_5 c3_5; obtain ⟨x4, y4⟩ := keepB (hD W hW) z4_5 r4_5 c4_5; obtain ⟨x5, y5⟩ := keepB (hD W hW) z5_5 r5_5 c5_5; obtain ⟨x6, y6⟩ := keepB (hD W hW) z6_5 r6_5 c6_5; obtain ⟨x9, y9⟩ := keepB (hD W hW) z9_5 r9_5 c9_5; unfold Oper.quietAt; go_simp; (go_at_call 104; exact (l01Times_any p n f _ _ _ hp hp' hn (hop_bytes HF.out) HV.out HQ.out).mono fun e w2 ⟨he, hw2⟩ => ⟨he, hK _ _ hW hw2⟩))); simp only [Act.put, List.setIfInBounds_toArray, List.set_cons_zero, List.set_cons_succ])
            refine e_nil ?_
            intro a6 W6 hW6
            obtain ⟨hw6, hl6, m1_6, m2_6⟩ := hW6
            have n3_12 : (w.heap.size) ≠ (a6) := by have := z3_5; omega
            have n12_3 : (a6) ≠ (w.heap.size) := by have := z3_5; omega
            have n4_12 : (w.heap.size + 1) ≠ (a6) := by have := z4_5; omega
            have n12_4 : (a6) ≠ (w.heap.size + 1) := by have := z4_5; omega
            have n5_12 : (w.heap.size + 2) ≠ (a6) := by have := z5_5; omega
            have n12_5 : (a6) ≠ (w.heap.size + 2) := by have := z5_5; omega
            have n6_12 : (w.heap.size + 3) ≠ (a6) := by have := z6_5; omega
            have n12_6 : (a6) ≠ (w.heap.size + 3) := by have := z6_5; omega
            have n9_12 : (a2) ≠ (a6) := by have := z9_5; omega
            have n12_9 : (a6) ≠ (a2) := by have := z9_5; omega
            obtain ⟨r3_6, c3_6⟩ := keepB hw6 z3_5 r3_5 c3_5
            have z3_6 := isRow_lt r3_6
            obtain ⟨r4_6, c4_6⟩ := keepB hw6 z4_5 r4_5 c4_5
            have z4_6 := isRow_lt r4_6
            obtain ⟨r5_6, c5_6⟩ := keepB hw6 z5_5 r5_5 c5_5
            have z5_6 := isRow_lt r5_6
            obtain ⟨r6_6, c6_6⟩ := keepB hw6 z6_5 r6_5 c6_5
            have z6_6 := isRow_lt r6_6
            obtain ⟨r9_6, c9_6⟩ := keepB hw6 z9_5 r9_5 c9_5
            have z9_6 := isRow_lt r9_6
            have hb6 := hb5.trans (hw6.mono hb5.size)
            have q6 := hb6.size
            clear hw6 r3_5 c3_5 z3_5 r4_5 c4_5 z4_5 r5_5 c5_5 z5_5 r6_5 c6_5 z6_5 r9_5 c9_5 z9_5 hb5
            have z12_6 := isRow_lt m1_6
            simp only [Act.put, List.setIfInBounds_toArray, List.set_cons_zero, List.set_cons_succ]
            go_wp2_with fail
            refine atomC fun W7 e7 => ?_
            have hb7 : Below w.heap.size w W7 := by rw [e7]; (repeat (first | exact hb6 | exact Below.refl _ _ | refine Below.alloc ?_ (by first | omega | (simp; try omega)) _ | refine below_setRow ?_ (by omega) _ | refine Below.drew ?_))
            have q7 := hb7.size
            have r3_7 : IsRow W7 (w.heap.size) := by rw [e7]; simp [go_sem, r3_6, c3_6, n3_9, n3_12, r4_6, c4_6, n4_9, n4_12, r5_6, c5_6, n5_9, n5_12, r6_6, c6_6, n6_9, n6_12, r9_6, c9_6, n9_3, n9_4, n9_5, n9_6, n9_12, m1_6, m2_6, n12_3, n12_4, n12_5, n12_6, n12_9]
            have c3_7 := congrArg (fun x => blk x (w.heap.size)) e7; simp [go_sem, r3_6, c3_6, n3_9, n3_12, r4_6, c4_6, n4_9, n4_12, r5_6, c5_6, n5_9, n5_12, r6_6, c6_6, n6_9, n6_12, r9_6, c9_6, n9_3, n9_4, n9_5, n9_6, n9_12, m1_6, m2_6, n12_3, n12_4, n12_5, n12_6, n12_9] at c3_7
            have z3_7 := isRow_lt r3_7
            have r4_7 : IsRow W7 (w.heap.size + 1) := by rw [e7]; simp [go_sem, r3_6, c3_6, n3_9, n3_12, r4_6, c4_6, n4_9, n4_12, r5_6, c5_6, n5_9, n5_12, r6_6, c6_6, n6_9, n6_12, r9_6, c9_6, n9_3, n9_4, n9_5, n9_6, n9_12, m1_6, m2_6, n12_3, n12_4, n12_5, n12_6, n12_9]
            have c4_7 := congrArg (fun x => blk x (w.heap.size + 1)) e7; simp [go_sem, r3_6, c3_6, n3_9, n3_12, r4_6, c4_6, n4_9, n4_12, r5_6, c5_6, n5_9, n5_12, r6_6, c6_6, n6_9, n6_12, r9_6, c9_6, n9_3, n9_4, n9_5, n9_6, n9_12, m1_6, m2_6, n12_3, n12_4, n12_5, n12_6, n12_9] at c4_7
            have z4_7 := isRow_lt r4_7
            have r5_7 : IsRow W7 (w.heap.size + 2) := by rw [e7]; simp [go_sem, r3_6, c3_6, n3_9, n3_12, r4_6, c4_6, n4_9, n4_12, r5_6, c5_6, n5_9, n5_12, r6_6, c6_6, n6_9, n6_12, r9_6, c9_6, n9_3, n9_4, n9_5, n9_6, n9_12, m1_6, m2_6, n12_3, n12_4, n12_5, n12_6, n12_9]
            have c5_7 := congrArg (fun x => blk x (w.heap.size + 2)) e7; simp [go_sem, r3_6, c3_6, n3_9, n3_12, r4_6, c4_6, n4_9, n4_12, r5_6, c5_6, n5_9, n5_12, r6_6, c6_6, n6_9, n6_12, r9_6, c9_6, n9_3, n9_4, n9_5, n9_6, n9_12, m1_6, m2_6, n12_3, n12_4, n12_5, n12_6, n12_9] at c5_7
            have z5_7 := isRow_lt r5_7
            have r6_7 : IsRow W7 (w.heap.size + 3) := by rw [e7]; simp [go_sem, r3_6, c3_6, n3_9, n3_12, r4_6, c4_6, n4_9, n4_12, r5_6, c5_6, n5_9, n5_12, r6_6, c6_6, n6_9, n6_12, r9_6, c9_6, n9_3, n9_4, n9_5, n9_6, n9_12, m1_6, m2_6, n12_3, n12_4, n12_5, n12_6, n12_9]
            have c6_7 := congrArg (fun x => blk x (w.heap.size + 3)) e7; simp [go_sem, r3_6, c3_6, n3_9, n3_12, r4_6, c4_6, n4_9, n4_12, r5_6, c5_6, n5_9, n5_12, r6_6, c6_6, n6_9, n6_12, r9_6, c9_6, n9_3, n9_4, n9_5, n9_6, n9_12, m1_6, m2_6, n12_3, n12_4, n12_5, n12_6, n12_9] at c6_7
            have z6_7 := isRow_lt r6_7
            have r9_7 : IsRow W7 (a2) := by rw [e7]; simp [go_sem, r3_6, c3_6, n3_9, n3_12, r4_6, c4_6, n4_9, n4_12, r5_6, c5_6, n5_9, n5_12, r6_6, c6_6, n6_9, n6_12, r9_6, c9_6, n9_3, n9_4, n9_5, n9_6, n9_12, m1_6, m2_6, n12_3, n12_4, n12_5, n12_6, n12_9]
            have c9_7 := congrArg (fun x => blk x (a2)) e7; simp [go_sem, r3_6, c3_6, n3_9, n3_12, r4_6, c4_6, n4_9, n4_12, r5_6, c5_6, n5_9, n5_12, r6_6, c6_6, n6_9, n6_12, r9_6, c9_6, n9_3, n9_4, n9_5, n9_6, n9_12, m1_6, m2_6, n12_3, n12_4, n12_5, n12_6, n12_9] at c9_7
            have z9_7 := isRow_lt r9_7
            have r12_7 : IsRow W7 (a6) := by rw [e7]; simp [go_sem, r3_6, c3_6, n3_9, n3_12, r4_6, c4_6, n4_9, n4_12, r5_6, c5_6, n5_9, n5_12, r6_6, c6_6, n6_9, n6_12, r9_6, c9_6, n9_3, n9_4, n9_5, n9_6, n9_12, m1_6, m2_6, n12_3, n12_4, n12_5, n12_6, n12_9]
            have c12_7 := congrArg (fun x => blk x (a6)) e7; simp [go_sem, r3_6, c3_6, n3_9, n3_12, r4_6, c4_6, n4_9, n4_12, r5_6, c5_6, n5_9, n5_12, r6_6, c6_6, n6_9, n6_12, r9_6, c9_6, n9_3, n9_4, n9_5, n9_6, n9_12, m1_6, m2_6, n12_3, n12_4, n12_5, n12_6, n12_9] at c12_7
            have z12_7 := isRow_lt r12_7
            clear e7 r3_6 c3_6 z3_6 r4_6 c4_6 z4_6 r5_6 c5_6 z5_6 r6_6 c6_6 z6_6 r9_6 c9_6 z9_6 m1_6 m2_6 z12_6 hb6
            refine (l01Zero_any _ _).mono ?_; rintro _ W8 ⟨rfl, hw8⟩
            obtain ⟨r3_8, c3_8⟩ := keepB hw8 z3_7 r3_7 c3_7
            have z3_8 := isRow_lt r3_8
            obtain ⟨r4_8, c4_8⟩ := keepB hw8 z4_7 r4_7 c4_7
            have z4_8 := isRow_lt r4_8
            obtain ⟨r5_8, c5_8⟩ := keepB hw8 z5_7 r5_7 c5_7
            have z5_8 := isRow_lt r5_8
            obtain ⟨r6_8, c6_8⟩ := keepB hw8 z6_7 r6_7 c6_7
            have z6_8 := isRow_lt r6_8
            obtain ⟨r9_8, c9_8⟩ := keepB hw8 z9_7 r9_7 c9_7
            have z9_8 := isRow_lt r9_8
            obtain ⟨r12_8, c12_8⟩ := keepB hw8 z12_7 r12_7 c12_7
            have z12_8 := isRow_lt r12_8
            have hb8 := hb7.trans (hw8.mono hb7.size)
            have q8 := hb8.size
            clear hw8 r3_7 c3_7 z3_7 r4_7 c4_7 z4_7 r5_7 c5_7 z5_7 r6_7 c6_7 z6_7 r9_7 c9_7 z9_7 r12_7 c12_7 z12_7 hb7
            go_wp2
            go_loopw [13] (fun s13 wr => ∃ x : Nat, x ≤ n ∧ s13 = .int .i64 x ∧ Below w.heap.size w wr ∧ (IsRow wr (w.heap.size) ∧ blk wr (w.heap.size) = blk W8 (w.heap.size)) ∧ (IsRow wr (w.heap.size + 1) ∧ blk wr (w.heap.size + 1) = blk W8 (w.heap.size + 1)) ∧ (IsRow wr (w.heap.size + 2) ∧ blk wr (w.heap.size + 2) = blk W8 (w.heap.size + 2)) ∧ (IsRow wr (w.heap.size + 3) ∧ blk wr (w.heap.size + 3) = blk W8 (w.heap.size + 3)) ∧ (IsRow wr (a2) ∧ blk wr (a2) = row 64 (sxK p n f m q i j x)) ∧ (IsRow wr (a6) ∧ blk wr (a6) = blk W8 (a6))) (fun s13 _ => n - (intOf s13).toNat)
            case atStart => exact ⟨0, by omega, rfl, hb8, ⟨r3_8, rfl⟩, ⟨r4_8, rfl⟩, ⟨r5_8, rfl⟩, ⟨r6_8, rfl⟩, ⟨r9_8, c9_8.trans (sx_zero p n f m q i j)⟩, ⟨r12_8, rfl⟩⟩
            case round =>
              obtain ⟨x, hle9, rfl, hb9, ⟨r3_9, c3_9⟩, ⟨r4_9, c4_9⟩, ⟨r5_9, c5_9⟩, ⟨r6_9, c6_9⟩, ⟨r9_9, c9_9⟩, ⟨r12_9, c12_9⟩⟩ := hrel
              obtain ⟨W9, rfl⟩ : ∃ W9 : World, W9 = wr := ⟨_, rfl⟩
              have q9 := hb9.size
              have E3_9 := Lib.hid c3_8; replace c3_9 := c3_9.trans c3_8
              have z3_9 := isRow_lt r3_9
              have E4_9 := Lib.hid c4_8; replace c4_9 := c4_9.trans c4_8
              have z4_9 := isRow_lt r4_9
              have E5_9 := Lib.hid c5_8; replace c5_9 := c5_9.trans c5_8
              have z5_9 := isRow_lt r5_9
              have E6_9 := Lib.hid c6_8; replace c6_9 := c6_9.trans c6_8
              have z6_9 := isRow_lt r6_9
              have z9_9 := isRow_lt r9_9
              have E12_9 := Lib.hid c12_8; replace c12_9 := c12_9.trans c12_8
              have z12_9 := isRow_lt r12_9
              clear r3_8 c3_8 z3_8 r4_8 c4_8 z4_8 r5_8 c5_8 z5_8 r6_8 c6_8 z6_8 r9_8 c9_8 z9_8 r12_8 c12_8 z12_8 hb8
              by_cases hlt9 : x < n
              · skip
                have i0_9 : (0 : Int) ≤ (x : Int) := by omega
                have i8_9 : (x : Int) < 8 := by omega
                have k8_9 : x < 8 := by omega
                have m8_9 : x * 8 + 8 ≤ 64 := by omega
                have m64_9 : x * 64 + 64 ≤ 512 := by omega
                have l1_9 : 10 + x * 64 + 64 ≤ 522 := by omega
                have l2_9i : 10 + i * 64 + x * 8 + 8 ≤ 522 := by omega
                have l3_9i : 10 + x * 64 + i * 8 + 8 ≤ 522 := by omega
                have l4_9i : i * 64 + x * 8 + 8 ≤ 512 := by omega
                have l5_9i : x * 64 + i * 8 + 8 ≤ 512 := by omega
                have l6_9i : i * 8 + x < 64 := by omega
                have l7_9i : x * 8 + i < 64 := by omega
                have l2_9j : 10 + j * 64 + x * 8 + 8 ≤ 522 := by omega
                have l3_9j : 10 + x * 64 + j * 8 + 8 ≤ 522 := by omega
                have l4_9j : j * 64 + x * 8 + 8 ≤ 512 := by omega
                have l5_9j : x * 64 + j * 8 + 8 ≤ 512 := by omega
                have l6_9j : j * 8 + x < 64 := by omega
                have l7_9j : x * 8 + j < 64 := by omega
                by_cases hk : mtab f i j x = 0
                · skip
                  have e9 := hop_me p n f i j x (by omega) (by omega) (by omega)
                  have l9 : 10 + i * 64 + j * 8 + x < 1106 := by omega
                  go_wp2
                  go_roundw
                  case rel => exact ⟨x + 1, by omega, by go_num, (by (repeat (first | exact hb9 | exact Below.refl _ _ | refine Below.alloc ?_ (by first | omega | (simp; try omega)) _ | refine below_setRow ?_ (by omega) _ | refine Below.drew ?_))), ⟨by simp [go_sem, r3_9, c3_9, n3_9, n3_12, r4_9, c4_9, n4_9, n4_12, r5_9, c5_9, n5_9, n5_12, r6_9, c6_9, n6_9, n6_12, r9_9, c9_9, n9_3, n9_4, n9_5, n9_6, n9_12, r12_9, c12_9, n12_3, n12_4, n12_5, n12_6, n12_9], (by rw [E3_9.out]; first | exact c3_9 | (simp [go_sem, r3_9, c3_9, n3_9, n3_12, r4_9, c4_9, n4_9, n4_12, r5_9, c5_9, n5_9, n5_12, r6_9, c6_9, n6_9, n6_12, r9_9, c9_9, n9_3, n9_4, n9_5, n9_6, n9_12, r12_9, c12_9, n12_3, n12_4, n12_5, n12_6, n12_9]; done))⟩, ⟨by simp [go_sem, r3_9, c3_9, n3_9, n3_12, r4_9, c4_9, n4_9, n4_12, r5_9, c5_9, n5_9, n5_12, r6_9, c6_9, n6_9, n6_12, r9_9, c9_9, n9_3, n9_4, n9_5, n9_6, n9_12, r12_9, c12_9, n12_3, n12_4, n12_5, n12_6, n12_9], (by rw [E4_9.out]; first | exact c4_9 | (simp [go_sem, r3_9, c3_9, n3_9, n3_12, r4_9, c4_9, n4_9, n4_12, r5_9, c5_9, n5_9, n5_12, r6_9, c6_9, n6_9, n6_12, r9_9, c9_9, n9_3, n9_4, n9_5, n9_6, n9_12, r12_9, c12_9, n12_3, n12_4, n12_5, n12_6, n12_9]; done))⟩, ⟨by simp [go_sem, r3_9, c3_9, n3_9, n3_12, r4_9, c4_9, n4_9, n4_12, r5_9, c5_9, n5_9, n5_12, r6_9, c6_9, n6_9, n6_12, r9_9, c9_9, n9_3, n9_4, n9_5, n9_6, n9_12, r12_9, c12_9, n12_3, n12_4, n12_5, n12_6, n12_9], (by rw [E5_9.out]; first | exact c5_9 | (simp [go_sem, r3_9, c3_9, n3_9, n3_12, r4_9, c4_9, n4_9, n4_12, r5_9, c5_9, n5_9, n5_12, r6_9, c6_9, n6_9, n6_12, r9_9, c9_9, n9_3, n9_4, n9_5, n9_6, n9_12, r12_9, c12_9, n12_3, n12_4, n12_5, n12_6, n12_9]; done))⟩, ⟨by simp [go_sem, r3_9, c3_9, n3_9, n3_12, r4_9, c4_9, n4_9, n4_12, r5_9, c5_9, n5_9, n5_12, r6_9, c6_9, n6_9, n6_12, r9_9, c9_9, n9_3, n9_4, n9_5, n9_6, n9_12, r12_9, c12_9, n12_3, n12_4, n12_5, n12_6, n12_9], (by rw [E6_9.out]; first | exact c6_9 | (simp [go_sem, r3_9, c3_9, n3_9, n3_12, r4_9, c4_9, n4_9, n4_12, r5_9, c5_9, n5_9, n5_12, r6_9, c6_9, n6_9, n6_12, r9_9, c9_9, n9_3, n9_4, n9_5, n9_6, n9_12, r12_9, c12_9, n12_3, n12_4, n12_5, n12_6, n12_9]; done))⟩, ⟨by simp [go_sem, r3_9, c3_9, n3_9, n3_12, r4_9, c4_9, n4_9, n4_12, r5_9, c5_9, n5_9, n5_12, r6_9, c6_9, n6_9, n6_12, r9_9, c9_9, n9_3, n9_4, n9_5, n9_6, n9_12, r12_9, c12_9, n12_3, n12_4, n12_5, n12_6, n12_9], (by first | exact (c9_9).trans (sx_skip p n f m q i j x hk) | (simp [go_sem, r3_9, c3_9, n3_9, n3_12, r4_9, c4_9, n4_9, n4_12, r5_9, c5_9, n5_9, n5_12, r6_9, c6_9, n6_9, n6_12, r9_9, c9_9, n9_3, n9_4, n9_5, n9_6, n9_12, r12_9, c12_9, n12_3, n12_4, n12_5, n12_6, n12_9]; exact sx_skip p n f m q i j x hk))⟩, ⟨by simp [go_sem, r3_9, c3_9, n3_9, n3_12, r4_9, c4_9, n4_9, n4_12, r5_9, c5_9, n5_9, n5_12, r6_9, c6_9, n6_9, n6_12, r9_9, c9_9, n9_3, n9_4, n9_5, n9_6, n9_12, r12_9, c12_9, n12_3, n12_4, n12_5, n12_6, n12_9], (by rw [E12_9.out]; first | exact c12_9 | (simp [go_sem, r3_9, c3_9, n3_9, n3_12, r4_9, c4_9, n4_9, n4_12, r5_9, c5_9, n5_9, n5_12, r6_9, c6_9, n6_9, n6_12, r9_9, c9_9, n9_3, n9_4, n9_5, n9_6, n9_12, r12_9, c12_9, n12_3, n12_4, n12_5, n12_6, n12_9]; done))⟩⟩
                  case measure => simp [intOf]; omega
                · skip
                  have e9 := hop_me p n f i j x (by omega) (by omega) (by omega)
                  have l9 : 10 + i * 64 + j * 8 + x < 1106 := by omega
                  have b1 := (mtab_range (hop_bytes HF.out) i j x (by omega) (by omega) (by omega)).1; have b2 := (mtab_range (hop_bytes HF.out) i j x (by omega) (by omega) (by omega)).2
                  have q1 : IntKind.i64.wrap (mtab f i j x) = mtab f i j x := IntWalk.i64_in _ (by omega)
                  have HX : Hid (Bytes 8 fun t => sxK p n f m q i j x (x * 8 + t)) := Lib.hid (sx_bytes hp hp' n f m q i j x)
                  go_wp2
                  refine wp_quiet_tail 10 (Below W9.heap.size W9) (by kernel_rfl) (by kernel_rfl) (Below.refl _ _).drew ?_
                  simp only [List.take_succ_cons, List.take_zero, List.drop_succ_cons, List.drop_zero]
                  iterate 8 (refine q_plain rfl ?_; apply Exists.intro; refine ⟨fun W hW => ?_, ?_⟩; (focus (obtain ⟨x3, y3⟩ := keepB hW z3_9 r3_9 c3_9; obtain ⟨x4, y4⟩ := keepB hW z4_9 r4_9 c4_9; obtain ⟨x5, y5⟩ := keepB hW z5_9 r5_9 c5_9; obtain ⟨x6, y6⟩ := keepB hW z6_9 r6_9 c6_9; obtain ⟨x9, y9⟩ := keepB hW z9_9 r9_9 c9_9; obtain ⟨x12, y12⟩ := keepB hW z12_9 r12_9 c12_9; go_simp; first | done | rfl)); simp only [Act.put, List.setIfInBounds_toArray, List.set_cons_zero, List.set_cons_succ])
                  (refine q_plain rfl ?_; apply Exists.intro; refine ⟨fun W hW => ?_, ?_⟩; (focus (obtain ⟨x3, y3⟩ := keepB hW z3_9 r3_9 c3_9; obtain ⟨x4, y4⟩ := keepB hW z4_9 r4_9 c4_9; obtain ⟨x5, y5⟩ := keepB hW z5_9 r5_9 c5_9; obtain ⟨x6, y6⟩ := keepB hW z6_9 r6_9 c6_9; obtain ⟨x9, y9⟩ := keepB hW z9_9 r9_9 c9_9; obtain ⟨x12, y12⟩ := keepB hW z12_9 r12_9 c12_9; go_simp; (go_at_call 74; exact (l01Add_any _ _ _ _ _ hp hp' (by omega) (by omega) HX.out HW.out).mono fun e w2 ⟨he, hw2⟩ => ⟨he, hW.trans (hw2.mono hW.size)⟩))); simp only [Act.put, List.setIfInBounds_toArray, List.set_cons_zero, List.set_cons_succ])
                  iterate 1 (refine q_plain rfl ?_; apply Exists.intro; refine ⟨fun W hW => ?_, ?_⟩; (focus (obtain ⟨x3, y3⟩ := keepB hW z3_9 r3_9 c3_9; obtain ⟨x4, y4⟩ := keepB hW z4_9 r4_9 c4_9; obtain ⟨x5, y5⟩ := keepB hW z5_9 r5_9 c5_9; obtain ⟨x6, y6⟩ := keepB hW z6_9 r6_9 c6_9; obtain ⟨x9, y9⟩ := keepB hW z9_9 r9_9 c9_9; obtain ⟨x12, y12⟩ := keepB hW z12_9 r12_9 c12_9; go_simp; first | done | rfl)); simp only [Act.put, List.setIfInBounds_toArray, List.set_cons_zero, List.set_cons_succ])
                  refine wpQuiet_nil ?_
                  intro W10 hw10
                  obtain ⟨r3_10, c3_10⟩ := keepB hw10 z3_9 r3_9 c3_9
                  have z3_10 := isRow_lt r3_10
                  obtain ⟨r4_10, c4_10⟩ := keepB hw10 z4_9 r4_9 c4_9
                  have z4_10 := isRow_lt r4_10
                  obtain ⟨r5_10, c5_10⟩ := keepB hw10 z5_9 r5_9 c5_9
                  have z5_10 := isRow_lt r5_10
                  obtain ⟨r6_10, c6_10⟩ := keepB hw10 z6_9 r6_9 c6_9
                  have z6_10 := isRow_lt r6_10
                  obtain ⟨r9_10, c9_10⟩ := keepB hw10 z9_9 r9_9 c9_9
                  have z9_10 := isRow_lt r9_10
                  obtain ⟨r12_10, c12_10⟩ := keepB hw10 z12_9 r12_9 c12_9
                  have z12_10 := isRow_lt r12_10
                  have hb10 := hb9.trans (hw10.mono hb9.size)
                  have q10 := hb10.size
                  clear hw10 r3_9 c3_9 z3_9 r4_9 c4_9 z4_9 r5_9 c5_9 z5_9 r6_9 c6_9 z6_9 r9_9 c9_9 z9_9 r12_9 c12_9 z12_9 hb9
                  go_wp2
                  go_roundw
                  case rel => exact ⟨x + 1, by omega, by go_num, (by (repeat (first | exact hb10 | exact Below.refl _ _ | refine Below.alloc ?_ (by first | omega | (simp; try omega)) _ | refine below_setRow ?_ (by omega) _ | refine Below.drew ?_))), ⟨by simp [go_sem, r3_10, c3_10, n3_9, n3_12, r4_10, c4_10, n4_9, n4_12, r5_10, c5_10, n5_9, n5_12, r6_10, c6_10, n6_9, n6_12, r9_10, c9_10, n9_3, n9_4, n9_5, n9_6, n9_12, r12_10, c12_10, n12_3, n12_4, n12_5, n12_6, n12_9], (by rw [E3_9.out]; first | exact c3_10 | (simp [go_sem, r3_10, c3_10, n3_9, n3_12, r4_10, c4_10, n4_9, n4_12, r5_10, c5_10, n5_9, n5_12, r6_10, c6_10, n6_9, n6_12, r9_10, c9_10, n9_3, n9_4, n9_5, n9_6, n9_12, r12_10, c12_10, n12_3, n12_4, n12_5, n12_6, n12_9]; done))⟩, ⟨by simp [go_sem, r3_10, c3_10, n3_9, n3_12, r4_10, c4_10, n4_9, n4_12, r5_10, c5_10, n5_9, n5_12, r6_10, c6_10, n6_9, n6_12, r9_10, c9_10, n9_3, n9_4, n9_5, n9_6, n9_12, r12_10, c12_10, n12_3, n12_4, n12_5, n12_6, n12_9], (by rw [E4_9.out]; first | exact c4_10 | (simp [go_sem, r3_10, c3_10, n3_9, n3_12, r4_10, c4_10, n4_9, n4_12, r5_10, c5_10, n5_9, n5_12, r6_10, c6_10, n6_9, n6_12, r9_10, c9_10, n9_3, n9_4, n9_5, n9_6, n9_12, r12_10, c12_10, n12_3, n12_4, n12_5, n12_6, n12_9]; done))⟩, ⟨by simp [go_sem, r3_10, c3_10, n3_9, n3_12, r4_10, c4_10, n4_9, n4_12, r5_10, c5_10, n5_9, n5_12, r6_10, c6_10, n6_9, n6_12, r9_10, c9_10, n9_3, n9_4, n9_5, n9_6, n9_12, r12_10, c12_10, n12_3, n12_4, n12_5, n12_6, n12_9], (by rw [E5_9.out]; first | exact c5_10 | (simp [go_sem, r3_10, c3_10, n3_9, n3_12, r4_10, c4_10, n4_9, n4_12, r5_10, c5_10, n5_9, n5_12, r6_10, c6_10, n6_9, n6_12, r9_10, c9_10, n9_3, n9_4, n9_5, n9_6, n9_12, r12_10, c12_10, n12_3, n12_4, n12_5, n12_6, n12_9]; done))⟩, ⟨by simp [go_sem, r3_10, c3_10, n3_9, n3_12, r4_10, c4_10, n4_9, n4_12, r5_10, c5_10, n5_9, n5_12, r6_10, c6_10, n6_9, n6_12, r9_10, c9_10, n9_3, n9_4, n9_5, n9_6, n9_12, r12_10, c12_10, n12_3, n12_4, n12_5, n12_6, n12_9], (by rw [E6_9.out]; first | exact c6_10 | (simp [go_sem, r3_10, c3_10, n3_9, n3_12, r4_10, c4_10, n4_9, n4_12, r5_10, c5_10, n5_9, n5_12, r6_10, c6_10, n6_9, n6_12, r9_10, c9_10, n9_3, n9_4, n9_5, n9_6, n9_12, r12_10, c12_10, n12_3, n12_4, n12_5, n12_6, n12_9]; done))⟩, ⟨by simp [go_sem, r3_10, c3_10, n3_9, n3_12, r4_10, c4_10, n4_9, n4_12, r5_10, c5_10, n5_9, n5_12, r6_10, c6_10, n6_9, n6_12, r9_10, c9_10, n9_3, n9_4, n9_5, n9_6, n9_12, r12_10, c12_10, n12_3, n12_4, n12_5, n12_6, n12_9], (by first | (rw [blk_setRow _ _ _ _ r9_10, if_pos rfl]; exact sx_step p n f m q i j x (by omega) hn) | exact (c9_10).trans (sx_step p n f m q i j x (by omega) hn) | (simp [go_sem, r3_10, c3_10, n3_9, n3_12, r4_10, c4_10, n4_9, n4_12, r5_10, c5_10, n5_9, n5_12, r6_10, c6_10, n6_9, n6_12, r9_10, c9_10, n9_3, n9_4, n9_5, n9_6, n9_12, r12_10, c12_10, n12_3, n12_4, n12_5, n12_6, n12_9]; exact sx_step p n f m q i j x (by omega) hn))⟩, ⟨by simp [go_sem, r3_10, c3_10, n3_9, n3_12, r4_10, c4_10, n4_9, n4_12, r5_10, c5_10, n5_9, n5_12, r6_10, c6_10, n6_9, n6_12, r9_10, c9_10, n9_3, n9_4, n9_5, n9_6, n9_12, r12_10, c12_10, n12_3, n12_4, n12_5, n12_6, n12_9], (by rw [E12_9.out]; first | exact c12_10 | (simp [go_sem, r3_10, c3_10, n3_9, n3_12, r4_10, c4_10, n4_9, n4_12, r5_10, c5_10, n5_9, n5_12, r6_10, c6_10, n6_9, n6_12, r9_10, c9_10, n9_3, n9_4, n9_5, n9_6, n9_12, r12_10, c12_10, n12_3, n12_4, n12_5, n12_6, n12_9]; done))⟩⟩
                  case measure => simp [intOf]; omega
              · skip
                obtain rfl : n = x := by omega
                go_wp2
                go_roundw
                case rel => exact ⟨j + 1, by omega, by go_num, (by (repeat (first | exact hb9 | exact Below.refl _ _ | refine Below.alloc ?_ (by first | omega | (simp; try omega)) _ | refine below_setRow ?_ (by omega) _ | refine Below.drew ?_))), ⟨by simp [go_sem, r3_9, c3_9, n3_9, n3_12, r4_9, c4_9, n4_9, n4_12, r5_9, c5_9, n5_9, n5_12, r6_9, c6_9, n6_9, n6_12, r9_9, c9_9, n9_3, n9_4, n9_5, n9_6, n9_12, r12_9, c12_9, n12_3, n12_4, n12_5, n12_6, n12_9], (by rw [E3_5.out]; first | exact c3_9 | (simp [go_sem, r3_9, c3_9, n3_9, n3_12, r4_9, c4_9, n4_9, n4_12, r5_9, c5_9, n5_9, n5_12, r6_9, c6_9, n6_9, n6_12, r9_9, c9_9, n9_3, n9_4, n9_5, n9_6, n9_12, r12_9, c12_9, n12_3, n12_4, n12_5, n12_6, n12_9]; done))⟩, ⟨by simp [go_sem, r3_9, c3_9, n3_9, n3_12, r4_9, c4_9, n4_9, n4_12, r5_9, c5_9, n5_9, n5_12, r6_9, c6_9, n6_9, n6_12, r9_9, c9_9, n9_3, n9_4, n9_5, n9_6, n9_12, r12_9, c12_9, n12_3, n12_4, n12_5, n12_6, n12_9], (by rw [E4_5.out]; first | exact c4_9 | (simp [go_sem, r3_9, c3_9, n3_9, n3_12, r4_9, c4_9, n4_9, n4_12, r5_9, c5_9, n5_9, n5_12, r6_9, c6_9, n6_9, n6_12, r9_9, c9_9, n9_3, n9_4, n9_5, n9_6, n9_12, r12_9, c12_9, n12_3, n12_4, n12_5, n12_6, n12_9]; done))⟩, ⟨by simp [go_sem, r3_9, c3_9, n3_9, n3_12, r4_9, c4_9, n4_9, n4_12, r5_9, c5_9, n5_9, n5_12, r6_9, c6_9, n6_9, n6_12, r9_9, c9_9, n9_3, n9_4, n9_5, n9_6, n9_12, r12_9, c12_9, n12_3, n12_4, n12_5, n12_6, n12_9], (by rw [E5_5.out]; first | exact c5_9 | (simp [go_sem, r3_9, c3_9, n3_9, n3_12, r4_9, c4_9, n4_9, n4_12, r5_9, c5_9, n5_9, n5_12, r6_9, c6_9, n6_9, n6_12, r9_9, c9_9, n9_3, n9_4, n9_5, n9_6, n9_12, r12_9, c12_9, n12_3, n12_4, n12_5, n12_6, n12_9]; done))⟩, ⟨by simp [go_sem, r3_9, c3_9, n3_9, n3_12, r4_9, c4_9, n4_9, n4_12, r5_9, c5_9, n5_9, n5_12, r6_9, c6_9, n6_9, n6_12, r9_9, c9_9, n9_3, n9_4, n9_5, n9_6, n9_12, r12_9, c12_9, n12_3, n12_4, n12_5, n12_6, n12_9], (by rw [E6_5.out]; first | exact c6_9 | (simp [go_sem, r3_9, c3_9, n3_9, n3_12, r4_9, c4_9, n4_9, n4_12, r5_9, c5_9, n5_9, n5_12, r6_9, c6_9, n6_9, n6_12, r9_9, c9_9, n9_3, n9_4, n9_5, n9_6, n9_12, r12_9, c12_9, n12_3, n12_4, n12_5, n12_6, n12_9]; done))⟩, ⟨by simp [go_sem, r3_9, c3_9, n3_9, n3_12, r4_9, c4_9, n4_9, n4_12, r5_9, c5_9, n5_9, n5_12, r6_9, c6_9, n6_9, n6_12, r9_9, c9_9, n9_3, n9_4, n9_5, n9_6, n9_12, r12_9, c12_9, n12_3, n12_4, n12_5, n12_6, n12_9], (by first | exact (c9_9).trans (sx_end p n f m q i j) | (simp [go_sem, r3_9, c3_9, n3_9, n3_12, r4_9, c4_9, n4_9, n4_12, r5_9, c5_9, n5_9, n5_12, r6_9, c6_9, n6_9, n6_12, r9_9, c9_9, n9_3, n9_4, n9_5, n9_6, n9_12, r12_9, c12_9, n12_3, n12_4, n12_5, n12_6, n12_9]; exact sx_end p n f m q i j))⟩⟩
                case measure => simp [intOf]; omega
          · skip
            have HV : Hid (Bytes 8 fun t => m (i * 8 + t)) := Lib.hid (part_bytes Hm.out i (by omega))
            have HQ : Hid (Bytes 8 fun t => q (j * 8 + t)) := Lib.hid (part_bytes Hq.out j (by omega))
            have HW : Hid (Bytes 8 (mulF p n (mtab f) (fun t => m (i * 8 + t)) (fun t => q (j * 8 + t)))) := Lib.hid (mulF_bytes hp hp' n (mtab f) _ _)
            go_wp2
            refine wp_quiet_alloc 9 _ (.cells (row 8 zf) 28) (Below W5.heap.size W5) (Made W5 (row 8 zf)) (by kernel_rfl) rfl rfl (by kernel_rfl) (fun a W => (xallocVec _ _ _ _ _ _ _).trans (allocVec W)) (closed_below W5) (closed_made W5 _) (fun b W h => h.1) (fun W h => made_new W5 _ _ W h) (Below.refl _ _).drew ?_
            simp only [List.take_succ_cons, List.take_zero, List.drop_succ_cons, List.drop_zero]
            iterate 1 (refine e_plain rfl ?_; apply Exists.intro; refine ⟨fun D hD hK W hW => ?_, ?_⟩; (focus (obtain ⟨x3, y3⟩ := keepB (hD W hW) z3_5 r3_5 c3_5; obtain ⟨x4, y4⟩ := keepB (hD W hW) z4_5 r4_5 c4_5; obtain ⟨x5, y5⟩ := keepB (hD W hW) z5_5 r5_5 c5_5; obtain ⟨x6, y6⟩ := keepB (hD W hW) z6_5 r6_5 c6_5; obtain ⟨x9, y9⟩ := keepB (hD W hW) z9_5 r9_5 c9_5; unfold Oper.quietAt; go_simp; first | done | rfl)); simp only [Act.put, List.setIfInBounds_toArray, List.set_cons_zero, List.set_cons_succ])
            (refine e_plain rfl ?_; apply Exists.intro; refine ⟨fun D hD hK W hW => ?_, ?_⟩; (focus (obtain ⟨x3, y3⟩ := keepB (hD W hW) z3_5 r3_5 c3_5; obtain ⟨x4, y4⟩ := keepB (hD W hW) z4_5 r4_5 c4_5; obtain ⟨x5, y5⟩ := keepB (hD W hW) z5_5 r5_5 c5_5; obtain ⟨x6, y6⟩ := keepB (hD W hW) z6_5 r6_5 c6_5; obtain ⟨x9, y9⟩ := keepB (hD W hW) z9_5 r9_5 c9_5; unfold Oper.quietAt; go_simp; (go_at_call 40; exact (l03Algebra_any _ _ _ _).mono fun e w2 ⟨he, hw2⟩ => ⟨he, hK _ _ hW hw2⟩))); simp only [Act.put, List.setIfInBounds_toArray, List.set_cons_zero, List.set_cons_succ])
            iterate 6 (refine e_plain rfl ?_; apply Exists.intro; refine ⟨fun D hD hK W hW => ?_, ?_⟩; (focus (obtain ⟨x3, y3⟩ := keepB (hD W hW) z3_5 r3_5 c3_5; obtain ⟨x4, y4⟩ := keepB (hD W hW) z4_5 r4_5 c4_5; obtain ⟨x5, y5⟩ := keepB (hD W hW) z5_5 r5_5 c5_5; obtain ⟨x6, y6⟩ := keepB (hD W hW) z6_5 r6_5 c6_5; obtain ⟨x9, y9⟩ := keepB (hD W hW) z9_5 r9_5 c9_5; unfold Oper.quietAt; go_simp; first | done | rfl)); simp only [Act.put, List.setIfInBounds_toArray, List.set_cons_zero, List.set_cons_succ])
            (refine e_plain rfl ?_; apply Exists.intro; refine ⟨fun D hD hK W hW => ?_, ?_⟩; (focus (obtain ⟨x3, y3⟩ := keepB (hD W hW) z3_5 r3_5 c3_5; obtain ⟨x4, y4⟩ := keepB (hD W hW) z4_5 r4_5 c4_5; obtain ⟨x5, y5⟩ := keepB (hD W hW) z5_5 r5_5 c5_5; obtain ⟨x6, y6⟩ := keepB (hD W hW) z6_5 r6_5 c6_5; obtain ⟨x9, y9⟩ := keepB (hD W hW) z9_5 r9_5 c9_5; unfold Oper.quietAt; go_simp; (go_at_call 104; exact (l01Times_any p n f _ _ _ hp hp' hn (hop_bytes HF.out) HV.out HQ.out).mono fun e w2 ⟨he, hw2⟩ => ⟨he, hK _ _ hW hw2⟩))); simp only [Act.put, List.setIfInBounds_toArray, List.set_cons_zero, List.set_cons_succ])
            refine e_nil ?_
            intro a11 W11 hW11
            obtain ⟨hw11, hl11, m1_11, m2_11⟩ := hW11
            have n3_12 : (w.heap.size) ≠ (a11) := by have := z3_5; omega
            have n12_3 : (a11) ≠ (w.heap.size) := by have := z3_5; omega
            have n4_12 : (w.heap.size + 1) ≠ (a11) := by have := z4_5; omega
            have n12_4 : (a11) ≠ (w.heap.size + 1) := by have := z4_5; omega
            have n5_12 : (w.heap.size + 2) ≠ (a11) := by have := z5_5; omega
            have n12_5 : (a11) ≠ (w.heap.size + 2) := by have := z5_5; omega
            have n6_12 : (w.heap.size + 3) ≠ (a11) := by have := z6_5; omega
            have n12_6 : (a11) ≠ (w.heap.size + 3) := by have := z6_5; omega
            have n9_12 : (a2) ≠ (a11) := by have := z9_5; omega
            have n12_9 : (a11) ≠ (a2) := by have := z9_5; omega
            obtain ⟨r3_11, c3_11⟩ := keepB hw11 z3_5 r3_5 c3_5
            have z3_11 := isRow_lt r3_11
            obtain ⟨r4_11, c4_11⟩ := keepB hw11 z4_5 r4_5 c4_5
            have z4_11 := isRow_lt r4_11
            obtain ⟨r5_11, c5_11⟩ := keepB hw11 z5_5 r5_5 c5_5
            have z5_11 := isRow_lt r5_11
            obtain ⟨r6_11, c6_11⟩ := keepB hw11 z6_5 r6_5 c6_5
            have z6_11 := isRow_lt r6_11
            obtain ⟨r9_11, c9_11⟩ := keepB hw11 z9_5 r9_5 c9_5
            have z9_11 := isRow_lt r9_11
            have hb11 := hb5.trans (hw11.mono hb5.size)
            have q11 := hb11.size
            clear hw11 r3_5 c3_5 z3_5 r4_5 c4_5 z4_5 r5_5 c5_5 z5_5 r6_5 c6_5 z6_5 r9_5 c9_5 z9_5 hb5
            have z12_11 := isRow_lt m1_11
            simp only [Act.put, List.setIfInBounds_toArray, List.set_cons_zero, List.set_cons_succ]
            go_wp2_with fail
            refine atomC fun W12 e12 => ?_
            have hb12 : Below w.heap.size w W12 := by rw [e12]; (repeat (first | exact hb11 | exact Below.refl _ _ | refine Below.alloc ?_ (by first | omega | (simp; try omega)) _ | refine below_setRow ?_ (by omega) _ | refine Below.drew ?_))
            have q12 := hb12.size
            have r3_12 : IsRow W12 (w.heap.size) := by rw [e12]; simp [go_sem, r3_11, c3_11, n3_9, n3_12, r4_11, c4_11, n4_9, n4_12, r5_11, c5_11, n5_9, n5_12, r6_11, c6_11, n6_9, n6_12, r9_11, c9_11, n9_3, n9_4, n9_5, n9_6, n9_12, m1_11, m2_11, n12_3, n12_4, n12_5, n12_6, n12_9]
            have c3_12 := congrArg (fun x => blk x (w.heap.size)) e12; simp [go_sem, r3_11, c3_11, n3_9, n3_12, r4_11, c4_11, n4_9, n4_12, r5_11, c5_11, n5_9, n5_12, r6_11, c6_11, n6_9, n6_12, r9_11, c9_11, n9_3, n9_4, n9_5, n9_6, n9_12, m1_11, m2_11, n12_3, n12_4, n12_5, n12_6, n12_9] at c3_12
            have z3_12 := isRow_lt r3_12
            have r4_12 : IsRow W12 (w.heap.size + 1) := by rw [e12]; simp [go_sem, r3_11, c3_11, n3_9, n3_12, r4_11, c4_11, n4_9, n4_12, r5_11, c5_11, n5_9, n5_12, r6_11, c6_11, n6_9, n6_12, r9_11, c9_11, n9_3, n9_4, n9_5, n9_6, n9_12, m1_11, m2_11, n12_3, n12_4, n12_5, n12_6, n12_9]
            have c4_12 := congrArg (fun x => blk x (w.heap.size + 1)) e12; simp [go_sem, r3_11, c3_11, n3_9, n3_12, r4_11, c4_11, n4_9, n4_12, r5_11, c5_11, n5_9, n5_12, r6_11, c6_11, n6_9, n6_12, r9_11, c9_11, n9_3, n9_4, n9_5, n9_6, n9_12, m1_11, m2_11, n12_3, n12_4, n12_5, n12_6, n12_9] at c4_12
            have z4_12 := isRow_lt r4_12
            have r5_12 : IsRow W12 (w.heap.size + 2) := by rw [e12]; simp [go_sem, r3_11, c3_11, n3_9, n3_12, r4_11, c4_11, n4_9, n4_12, r5_11, c5_11, n5_9, n5_12, r6_11, c6_11, n6_9, n6_12, r9_11, c9_11, n9_3, n9_4, n9_5, n9_6, n9_12, m1_11, m2_11, n12_3, n12_4, n12_5, n12_6, n12_9]
            have c5_12 := congrArg (fun x => blk x (w.heap.size + 2)) e12; simp [go_sem, r3_11, c3_11, n3_9, n3_12, r4_11, c4_11, n4_9, n4_12, r5_11, c5_11, n5_9, n5_12, r6_11, c6_11, n6_9, n6_12, r9_11, c9_11, n9_3, n9_4, n9_5, n9_6, n9_12, m1_11, m2_11, n12_3, n12_4, n12_5, n12_6, n12_9] at c5_12
            have z5_12 := isRow_lt r5_12
            have r6_12 : IsRow W12 (w.heap.size + 3) := by rw [e12]; simp [go_sem, r3_11, c3_11, n3_9, n3_12, r4_11, c4_11, n4_9, n4_12, r5_11, c5_11, n5_9, n5_12, r6_11, c6_11, n6_9, n6_12, r9_11, c9_11, n9_3, n9_4, n9_5, n9_6, n9_12, m1_11, m2_11, n12_3, n12_4, n12_5, n12_6, n12_9]
            have c6_12 := congrArg (fun x => blk x (w.heap.size + 3)) e12; simp [go_sem, r3_11, c3_11, n3_9, n3_12, r4_11, c4_11, n4_9, n4_12, r5_11, c5_11, n5_9, n5_12, r6_11, c6_11, n6_9, n6_12, r9_11, c9_11, n9_3, n9_4, n9_5, n9_6, n9_12, m1_11, m2_11, n12_3, n12_4, n12_5, n12_6, n12_9] at c6_12
            have z6_12 := isRow_lt r6_12
            have r9_12 : IsRow W12 (a2) := by rw [e12]; simp [go_sem, r3_11, c3_11, n3_9, n3_12, r4_11, c4_11, n4_9, n4_12, r5_11, c5_11, n5_9, n5_12, r6_11, c6_11, n6_9, n6_12, r9_11, c9_11, n9_3, n9_4, n9_5, n9_6, n9_12, m1_11, m2_11, n12_3, n12_4, n12_5, n12_6, n12_9]
            have c9_12 := congrArg (fun x => blk x (a2)) e12; simp [go_sem, r3_11, c3_11, n3_9, n3_12, r4_11, c4_11, n4_9, n4_12, r5_11, c5_11, n5_9, n5_12, r6_11, c6_11, n6_9, n6_12, r9_11, c9_11, n9_3, n9_4, n9_5, n9_6, n9_12, m1_11, m2_11, n12_3, n12_4, n12_5, n12_6, n12_9] at c9_12
            have z9_12 := isRow_lt r9_12
            have r12_12 : IsRow W12 (a11) := by rw [e12]; simp [go_sem, r3_11, c3_11, n3_9, n3_12, r4_11, c4_11, n4_9, n4_12, r5_11, c5_11, n5_9, n5_12, r6_11, c6_11, n6_9, n6_12, r9_11, c9_11, n9_3, n9_4, n9_5, n9_6, n9_12, m1_11, m2_11, n12_3, n12_4, n12_5, n12_6, n12_9]
            have c12_12 := congrArg (fun x => blk x (a11)) e12; simp [go_sem, r3_11, c3_11, n3_9, n3_12, r4_11, c4_11, n4_9, n4_12, r5_11, c5_11, n5_9, n5_12, r6_11, c6_11, n6_9, n6_12, r9_11, c9_11, n9_3, n9_4, n9_5, n9_6, n9_12, m1_11, m2_11, n12_3, n12_4, n12_5, n12_6, n12_9] at c12_12
            have z12_12 := isRow_lt r12_12
            clear e12 r3_11 c3_11 z3_11 r4_11 c4_11 z4_11 r5_11 c5_11 z5_11 r6_11 c6_11 z6_11 r9_11 c9_11 z9_11 m1_11 m2_11 z12_11 hb11
            refine (l01Zero_any _ _).mono ?_; rintro _ W13 ⟨rfl, hw13⟩
            obtain ⟨r3_13, c3_13⟩ := keepB hw13 z3_12 r3_12 c3_12
            have z3_13 := isRow_lt r3_13
            obtain ⟨r4_13, c4_13⟩ := keepB hw13 z4_12 r4_12 c4_12
            have z4_13 := isRow_lt r4_13
            obtain ⟨r5_13, c5_13⟩ := keepB hw13 z5_12 r5_12 c5_12
            have z5_13 := isRow_lt r5_13
            obtain ⟨r6_13, c6_13⟩ := keepB hw13 z6_12 r6_12 c6_12
            have z6_13 := isRow_lt r6_13
            obtain ⟨r9_13, c9_13⟩ := keepB hw13 z9_12 r9_12 c9_12
            have z9_13 := isRow_lt r9_13
            obtain ⟨r12_13, c12_13⟩ := keepB hw13 z12_12 r12_12 c12_12
            have z12_13 := isRow_lt r12_13
            have hb13 := hb12.trans (hw13.mono hb12.size)
            have q13 := hb13.size
            clear hw13 r3_12 c3_12 z3_12 r4_12 c4_12 z4_12 r5_12 c5_12 z5_12 r6_12 c6_12 z6_12 r9_12 c9_12 z9_12 r12_12 c12_12 z12_12 hb12
            go_wp2
            go_roundw
            case rel => exact ⟨j + 1, by omega, by go_num, (by (repeat (first | exact hb13 | exact Below.refl _ _ | refine Below.alloc ?_ (by first | omega | (simp; try omega)) _ | refine below_setRow ?_ (by omega) _ | refine Below.drew ?_))), ⟨by simp [go_sem, r3_13, c3_13, n3_9, n3_12, r4_13, c4_13, n4_9, n4_12, r5_13, c5_13, n5_9, n5_12, r6_13, c6_13, n6_9, n6_12, r9_13, c9_13, n9_3, n9_4, n9_5, n9_6, n9_12, r12_13, c12_13, n12_3, n12_4, n12_5, n12_6, n12_9], (by rw [E3_5.out]; first | exact c3_13 | (simp [go_sem, r3_13, c3_13, n3_9, n3_12, r4_13, c4_13, n4_9, n4_12, r5_13, c5_13, n5_9, n5_12, r6_13, c6_13, n6_9, n6_12, r9_13, c9_13, n9_3, n9_4, n9_5, n9_6, n9_12, r12_13, c12_13, n12_3, n12_4, n12_5, n12_6, n12_9]; done))⟩, ⟨by simp [go_sem, r3_13, c3_13, n3_9, n3_12, r4_13, c4_13, n4_9, n4_12, r5_13, c5_13, n5_9, n5_12, r6_13, c6_13, n6_9, n6_12, r9_13, c9_13, n9_3, n9_4, n9_5, n9_6, n9_12, r12_13, c12_13, n12_3, n12_4, n12_5, n12_6, n12_9], (by rw [E4_5.out]; first | exact c4_13 | (simp [go_sem, r3_13, c3_13, n3_9, n3_12, r4_13, c4_13, n4_9, n4_12, r5_13, c5_13, n5_9, n5_12, r6_13, c6_13, n6_9, n6_12, r9_13, c9_13, n9_3, n9_4, n9_5, n9_6, n9_12, r12_13, c12_13, n12_3, n12_4, n12_5, n12_6, n12_9]; done))⟩, ⟨by simp [go_sem, r3_13, c3_13, n3_9, n3_12, r4_13, c4_13, n4_9, n4_12, r5_13, c5_13, n5_9, n5_12, r6_13, c6_13, n6_9, n6_12, r9_13, c9_13, n9_3, n9_4, n9_5, n9_6, n9_12, r12_13, c12_13, n12_3, n12_4, n12_5, n12_6, n12_9], (by rw [E5_5.out]; first | exact c5_13 | (simp [go_sem, r3_13, c3_13, n3_9, n3_12, r4_13, c4_13, n4_9, n4_12, r5_13, c5_13, n5_9, n5_12, r6_13, c6_13, n6_9, n6_12, r9_13, c9_13, n9_3, n9_4, n9_5, n9_6, n9_12, r12_13, c12_13, n12_3, n12_4, n12_5, n12_6, n12_9]; done))⟩, ⟨by simp [go_sem, r3_13, c3_13, n3_9, n3_12, r4_13, c4_13, n4_9, n4_12, r5_13, c5_13, n5_9, n5_12, r6_13, c6_13, n6_9, n6_12, r9_13, c9_13, n9_3, n9_4, n9_5, n9_6, n9_12, r12_13, c12_13, n12_3, n12_4, n12_5, n12_6, n12_9], (by rw [E6_5.out]; first | exact c6_13 | (simp [go_sem, r3_13, c3_13, n3_9, n3_12, r4_13, c4_13, n4_9, n4_12, r5_13, c5_13, n5_9, n5_12, r6_13, c6_13, n6_9, n6_12, r9_13, c9_13, n9_3, n9_4, n9_5, n9_6, n9_12, r12_13, c12_13, n12_3, n12_4, n12_5, n12_6, n12_9]; done))⟩, ⟨by simp [go_sem, r3_13, c3_13, n3_9, n3_12, r4_13, c4_13, n4_9, n4_12, r5_13, c5_13, n5_9, n5_12, r6_13, c6_13, n6_9, n6_12, r9_13, c9_13, n9_3, n9_4, n9_5, n9_6, n9_12, r12_13, c12_13, n12_3, n12_4, n12_5, n12_6, n12_9], (by first | exact (c9_13).trans (ppS_skip p n f m q i j hz) | (simp [go_sem, r3_13, c3_13, n3_9, n3_12, r4_13, c4_13, n4_9, n4_12, r5_13, c5_13, n5_9, n5_12, r6_13, c6_13, n6_9, n6_12, r9_13, c9_13, n9_3, n9_4, n9_5, n9_6, n9_12, r12_13, c12_13, n12_3, n12_4, n12_5, n12_6, n12_9]; exact ppS_skip p n f m q i j hz))⟩⟩
            case measure => simp [intOf]; omega
        · skip
          obtain rfl : n = j := by omega
          go_wp2
          go_roundw
          case rel => exact ⟨i + 1, by omega, by go_num, (by (repeat (first | exact hb5 | exact Below.refl _ _ | refine Below.alloc ?_ (by first | omega | (simp; try omega)) _ | refine below_setRow ?_ (by omega) _ | refine Below.drew ?_))), ⟨by simp [go_sem, r3_5, c3_5, n3_9, r4_5, c4_5, n4_9, r5_5, c5_5, n5_9, r6_5, c6_5, n6_9, r9_5, c9_5, n9_3, n9_4, n9_5, n9_6], (by rw [E3_4.out]; first | exact c3_5 | (simp [go_sem, r3_5, c3_5, n3_9, r4_5, c4_5, n4_9, r5_5, c5_5, n5_9, r6_5, c6_5, n6_9, r9_5, c9_5, n9_3, n9_4, n9_5, n9_6]; done))⟩, ⟨by simp [go_sem, r3_5, c3_5, n3_9, r4_5, c4_5, n4_9, r5_5, c5_5, n5_9, r6_5, c6_5, n6_9, r9_5, c9_5, n9_3, n9_4, n9_5, n9_6], (by rw [E4_4.out]; first | exact c4_5 | (simp [go_sem, r3_5, c3_5, n3_9, r4_5, c4_5, n4_9, r5_5, c5_5, n5_9, r6_5, c6_5, n6_9, r9_5, c9_5, n9_3, n9_4, n9_5, n9_6]; done))⟩, ⟨by simp [go_sem, r3_5, c3_5, n3_9, r4_5, c4_5, n4_9, r5_5, c5_5, n5_9, r6_5, c6_5, n6_9, r9_5, c9_5, n9_3, n9_4, n9_5, n9_6], (by rw [E5_4.out]; first | exact c5_5 | (simp [go_sem, r3_5, c3_5, n3_9, r4_5, c4_5, n4_9, r5_5, c5_5, n5_9, r6_5, c6_5, n6_9, r9_5, c9_5, n9_3, n9_4, n9_5, n9_6]; done))⟩, ⟨by simp [go_sem, r3_5, c3_5, n3_9, r4_5, c4_5, n4_9, r5_5, c5_5, n5_9, r6_5, c6_5, n6_9, r9_5, c9_5, n9_3, n9_4, n9_5, n9_6], (by rw [E6_4.out]; first | exact c6_5 | (simp [go_sem, r3_5, c3_5, n3_9, r4_5, c4_5, n4_9, r5_5, c5_5, n5_9, r6_5, c6_5, n6_9, r9_5, c9_5, n9_3, n9_4, n9_5, n9_6]; done))⟩, ⟨by simp [go_sem, r3_5, c3_5, n3_9, r4_5, c4_5, n4_9, r5_5, c5_5, n5_9, r6_5, c6_5, n6_9, r9_5, c9_5, n9_3, n9_4, n9_5, n9_6], (by first | exact (c9_5).trans (ppS_row p n f m q i) | (simp [go_sem, r3_5, c3_5, n3_9, r4_5, c4_5, n4_9, r5_5, c5_5, n5_9, r6_5, c6_5, n6_9, r9_5, c9_5, n9_3, n9_4, n9_5, n9_6]; exact ppS_row p n f m q i))⟩⟩
          case measure => simp [intOf]; omega
    · skip
      obtain rfl : n = i := by omega
      go_wp2_with fail
      refine bodyPost_ret (result_cell rfl aggLin _ _ (row 64 (ppS p n f m q n 0)) _ rfl ?_ ?_) rfl ⟨rfl, ?_⟩
      · simp [go_sem, r3_4, c3_4, n3_9, r4_4, c4_4, n4_9, r5_4, c5_4, n5_9, r6_4, c6_4, n6_9, r9_4, c9_4, n9_3, n9_4, n9_5, n9_6]
      · simp [go_sem, r3_4, c3_4, n3_9, r4_4, c4_4, n4_9, r5_4, c5_4, n5_9, r6_4, c6_4, n6_9, r9_4, c9_4, n9_3, n9_4, n9_5, n9_6]
      · repeat (first | exact hb4 | exact Below.refl _ _ | refine Below.alloc ?_ (by first | omega | (simp; try omega)) _ | refine below_setRow ?_ (by omega) _ | refine Below.drew ?_)

/-! ### the sums of axioms 6 and 7 -/
/-- S(e(a)) e(b), or e(a) S(e(b)) -/
def ownF (p : Int) (n : Nat) (A S : Nat → Int) (beh : Bool) (a b : Nat) : Nat → Int := match beh with | false => mulF p n (mtab A) (fun t => S (a * 8 + t)) (ebas b) | true => mulF p n (mtab A) (ebas a) (fun t => S (b * 8 + t))
def fdK (p : Int) (n : Nat) (f S : Nat → Int) (beh : Bool) (i j k : Nat) : Nat → Int := fun t => dsumK (fun a b => mtab (coF f) i a b * ownF p n f S beh a b t) n j k % p
theorem fd_zero (p : Int) (n : Nat) (f S : Nat → Int) (beh : Bool) (i : Nat) : row 8 zf = row 8 (fdK p n f S beh i 0 0) := row_congr fun t _ => by unfold fdK zf; rw [dsum_zero]; simp
theorem fd_step (p : Int) (n : Nat) (f S : Nat → Int) (beh : Bool) (i j k : Nat) : row 8 (addm p 0 8 (mtab (coF f) i j k) (fdK p n f S beh i j k) (ownF p n f S beh j k)) = row 8 (fdK p n f S beh i j (k + 1)) := addm_row fun t _ => by unfold fdK; rw [Int.emod_add_emod, dsum_step]
theorem fd_skip (p : Int) (n : Nat) (f S : Nat → Int) (beh : Bool) (i j k : Nat) (h : mtab (coF f) i j k = 0) : row 8 (fdK p n f S beh i j k) = row 8 (fdK p n f S beh i j (k + 1)) := row_congr fun t _ => by unfold fdK; rw [dsum_step]; simp only [h, Int.zero_mul, Int.add_zero]
theorem fd_row (p : Int) (n : Nat) (f S : Nat → Int) (beh : Bool) (i j : Nat) : row 8 (fdK p n f S beh i j n) = row 8 (fdK p n f S beh i (j + 1) 0) := row_congr fun t _ => by unfold fdK; rw [dsum_row]
theorem own_bytes {p : Int} (hp : 0 < p) (hp' : p ≤ 255) (n : Nat) (A S : Nat → Int) (beh : Bool) (a b : Nat) : Bytes 8 (ownF p n A S beh a b) := by
  cases beh <;> exact mulF_bytes hp hp' n (mtab A) _ _

set_option maxRecDepth 100000 in
set_option maxHeartbeats 4000000 in
theorem l03Folded_false (p : Int) (n : Nat) (f S : Nat → Int) (i : Nat) (w : World) (hp : 0 < p) (hp' : p ≤ 255) (hn : n ≤ 8) (hi : i < 8) (hF : Bytes 1104 f) (hS : Bytes 64 S) :
    Calls Try.prog 93 #[.agg (hop p n f), .int .i64 i, .agg (row 64 S), .bool false] w fun e w' => e = .returned (.agg (row 8 (fdK p n f S false i n 0))) ∧ Below w.heap.size w w' := by
  have HF := Lib.hid hF; clear hF
  have HS := Lib.hid hS; clear hS
  have xi : (i : Int) < 8 := by omega
  go_enter Try.func93, Try.ntmps93
  go_wp2_with fail
  refine atomC fun W1 e1 => ?_
  have hb1 : Below w.heap.size w W1 := by rw [e1]; (repeat (first | exact Below.refl _ _ | refine Below.alloc ?_ (by first | omega | (simp; try omega)) _ | refine below_setRow ?_ (by omega) _ | refine Below.drew ?_))
  have q1 := hb1.size
  have r4_1 : IsRow W1 (w.heap.size) := by rw [e1]; simp [go_sem]
  have c4_1 := congrArg (fun x => blk x (w.heap.size)) e1; simp [go_sem] at c4_1
  have z4_1 := isRow_lt r4_1
  have r6_1 : IsRow W1 (w.heap.size + 1) := by rw [e1]; simp [go_sem]
  have c6_1 := congrArg (fun x => blk x (w.heap.size + 1)) e1; simp [go_sem] at c6_1
  have z6_1 := isRow_lt r6_1
  have r8_1 : IsRow W1 (w.heap.size + 2) := by rw [e1]; simp [go_sem]
  have c8_1 := congrArg (fun x => blk x (w.heap.size + 2)) e1; simp [go_sem] at c8_1
  have z8_1 := isRow_lt r8_1
  clear e1
  refine (l03Algebra_any _ _ _ _).mono ?_; rintro _ W2 ⟨rfl, hw2⟩
  obtain ⟨r4_2, c4_2⟩ := keepB hw2 z4_1 r4_1 c4_1
  have z4_2 := isRow_lt r4_2
  obtain ⟨r6_2, c6_2⟩ := keepB hw2 z6_1 r6_1 c6_1
  have z6_2 := isRow_lt r6_2
  obtain ⟨r8_2, c8_2⟩ := keepB hw2 z8_1 r8_1 c8_1
  have z8_2 := isRow_lt r8_2
  have hb2 := hb1.trans (hw2.mono hb1.size)
  have q2 := hb2.size
  clear hw2 r4_1 c4_1 z4_1 r6_1 c6_1 z6_1 r8_1 c8_1 z8_1 hb1
  go_wp2
  have nw4_W2_0 : (w.heap.size) ≠ W2.heap.size := by omega
  have nw4_W2_1 : (w.heap.size) ≠ W2.heap.size + 1 := by omega
  have nw6_W2_0 : (w.heap.size + 1) ≠ W2.heap.size := by omega
  have nw6_W2_1 : (w.heap.size + 1) ≠ W2.heap.size + 1 := by omega
  have nw8_W2_0 : (w.heap.size + 2) ≠ W2.heap.size := by omega
  have nw8_W2_1 : (w.heap.size + 2) ≠ W2.heap.size + 1 := by omega
  refine atomW fun W3 e3 => ?_
  have hb3 : Below w.heap.size w W3 := by rw [e3]; (repeat (first | exact hb2 | exact Below.refl _ _ | refine Below.alloc ?_ (by first | omega | (simp; try omega)) _ | refine below_setRow ?_ (by omega) _ | refine Below.drew ?_))
  have q3 := hb3.size
  have r4_3 : IsRow W3 (w.heap.size) := by rw [e3]; simp [go_sem, r4_2, c4_2, r6_2, c6_2, r8_2, c8_2, nw4_W2_0, nw4_W2_1, nw6_W2_0, nw6_W2_1, nw8_W2_0, nw8_W2_1]
  have c4_3 := congrArg (fun x => blk x (w.heap.size)) e3; simp [go_sem, r4_2, c4_2, r6_2, c6_2, r8_2, c8_2, nw4_W2_0, nw4_W2_1, nw6_W2_0, nw6_W2_1, nw8_W2_0, nw8_W2_1] at c4_3
  have z4_3 := isRow_lt r4_3
  have r6_3 : IsRow W3 (w.heap.size + 1) := by rw [e3]; simp [go_sem, r4_2, c4_2, r6_2, c6_2, r8_2, c8_2, nw4_W2_0, nw4_W2_1, nw6_W2_0, nw6_W2_1, nw8_W2_0, nw8_W2_1]
  have c6_3 := congrArg (fun x => blk x (w.heap.size + 1)) e3; simp [go_sem, r4_2, c4_2, r6_2, c6_2, r8_2, c8_2, nw4_W2_0, nw4_W2_1, nw6_W2_0, nw6_W2_1, nw8_W2_0, nw8_W2_1] at c6_3
  have z6_3 := isRow_lt r6_3
  have r8_3 : IsRow W3 (w.heap.size + 2) := by rw [e3]; simp [go_sem, r4_2, c4_2, r6_2, c6_2, r8_2, c8_2, nw4_W2_0, nw4_W2_1, nw6_W2_0, nw6_W2_1, nw8_W2_0, nw8_W2_1]
  have c8_3 := congrArg (fun x => blk x (w.heap.size + 2)) e3; simp [go_sem, r4_2, c4_2, r6_2, c6_2, r8_2, c8_2, nw4_W2_0, nw4_W2_1, nw6_W2_0, nw6_W2_1, nw8_W2_0, nw8_W2_1] at c8_3
  have z8_3 := isRow_lt r8_3
  have r9_3 : IsRow W3 (W2.heap.size) := by rw [e3]; simp [go_sem, r4_2, c4_2, r6_2, c6_2, r8_2, c8_2, nw4_W2_0, nw4_W2_1, nw6_W2_0, nw6_W2_1, nw8_W2_0, nw8_W2_1]
  have c9_3 := congrArg (fun x => blk x (W2.heap.size)) e3; simp [go_sem, r4_2, c4_2, r6_2, c6_2, r8_2, c8_2, nw4_W2_0, nw4_W2_1, nw6_W2_0, nw6_W2_1, nw8_W2_0, nw8_W2_1] at c9_3
  have z9_3 := isRow_lt r9_3
  have r10_3 : IsRow W3 (W2.heap.size + 1) := by rw [e3]; simp [go_sem, r4_2, c4_2, r6_2, c6_2, r8_2, c8_2, nw4_W2_0, nw4_W2_1, nw6_W2_0, nw6_W2_1, nw8_W2_0, nw8_W2_1]
  have c10_3 := congrArg (fun x => blk x (W2.heap.size + 1)) e3; simp [go_sem, r4_2, c4_2, r6_2, c6_2, r8_2, c8_2, nw4_W2_0, nw4_W2_1, nw6_W2_0, nw6_W2_1, nw8_W2_0, nw8_W2_1] at c10_3
  have z10_3 := isRow_lt r10_3
  have n4_9 : (w.heap.size) ≠ (W2.heap.size) := by omega
  have n4_10 : (w.heap.size) ≠ (W2.heap.size + 1) := by omega
  have n6_9 : (w.heap.size + 1) ≠ (W2.heap.size) := by omega
  have n6_10 : (w.heap.size + 1) ≠ (W2.heap.size + 1) := by omega
  have n8_9 : (w.heap.size + 2) ≠ (W2.heap.size) := by omega
  have n8_10 : (w.heap.size + 2) ≠ (W2.heap.size + 1) := by omega
  have n9_4 : (W2.heap.size) ≠ (w.heap.size) := by omega
  have n9_6 : (W2.heap.size) ≠ (w.heap.size + 1) := by omega
  have n9_8 : (W2.heap.size) ≠ (w.heap.size + 2) := by omega
  have n10_4 : (W2.heap.size + 1) ≠ (w.heap.size) := by omega
  have n10_6 : (W2.heap.size + 1) ≠ (w.heap.size + 1) := by omega
  have n10_8 : (W2.heap.size + 1) ≠ (w.heap.size + 2) := by omega
  clear e3 nw4_W2_0 nw4_W2_1 nw6_W2_0 nw6_W2_1 nw8_W2_0 nw8_W2_1 r4_2 c4_2 z4_2 r6_2 c6_2 z6_2 r8_2 c8_2 z8_2 hb2
  go_loopw [11] (fun s11 wr => ∃ j : Nat, j ≤ n ∧ s11 = .int .i64 j ∧ Below w.heap.size w wr ∧ (IsRow wr (w.heap.size) ∧ blk wr (w.heap.size) = blk W3 (w.heap.size)) ∧ (IsRow wr (w.heap.size + 1) ∧ blk wr (w.heap.size + 1) = blk W3 (w.heap.size + 1)) ∧ (IsRow wr (w.heap.size + 2) ∧ blk wr (w.heap.size + 2) = blk W3 (w.heap.size + 2)) ∧ (IsRow wr (W2.heap.size) ∧ blk wr (W2.heap.size) = row 8 (fdK p n f S false i j 0)) ∧ (IsRow wr (W2.heap.size + 1) ∧ blk wr (W2.heap.size + 1) = blk W3 (W2.heap.size + 1))) (fun s11 _ => n - (intOf s11).toNat)
  case atStart => exact ⟨0, by omega, rfl, hb3, ⟨r4_3, rfl⟩, ⟨r6_3, rfl⟩, ⟨r8_3, rfl⟩, ⟨r9_3, c9_3.trans (fd_zero p n f S false i)⟩, ⟨r10_3, rfl⟩⟩
  case round =>
    obtain ⟨j, hle4, rfl, hb4, ⟨r4_4, c4_4⟩, ⟨r6_4, c6_4⟩, ⟨r8_4, c8_4⟩, ⟨r9_4, c9_4⟩, ⟨r10_4, c10_4⟩⟩ := hrel
    obtain ⟨W4, rfl⟩ : ∃ W4 : World, W4 = wr := ⟨_, rfl⟩
    have q4 := hb4.size
    have E4_4 := Lib.hid c4_3; replace c4_4 := c4_4.trans c4_3
    have z4_4 := isRow_lt r4_4
    have E6_4 := Lib.hid c6_3; replace c6_4 := c6_4.trans c6_3
    have z6_4 := isRow_lt r6_4
    have E8_4 := Lib.hid c8_3; replace c8_4 := c8_4.trans c8_3
    have z8_4 := isRow_lt r8_4
    have z9_4 := isRow_lt r9_4
    have E10_4 := Lib.hid c10_3; replace c10_4 := c10_4.trans c10_3
    have z10_4 := isRow_lt r10_4
    clear r4_3 c4_3 z4_3 r6_3 c6_3 z6_3 r8_3 c8_3 z8_3 r9_3 c9_3 z9_3 r10_3 c10_3 z10_3 hb3
    by_cases hlt4 : j < n
    · skip
      have i0_4 : (0 : Int) ≤ (j : Int) := by omega
      have i8_4 : (j : Int) < 8 := by omega
      have k8_4 : j < 8 := by omega
      have m8_4 : j * 8 + 8 ≤ 64 := by omega
      have m64_4 : j * 64 + 64 ≤ 512 := by omega
      have l1_4 : 10 + j * 64 + 64 ≤ 522 := by omega
      go_wp2
      go_loopw [12] (fun s12 wr => ∃ k : Nat, k ≤ n ∧ s12 = .int .i64 k ∧ Below w.heap.size w wr ∧ (IsRow wr (w.heap.size) ∧ blk wr (w.heap.size) = blk W4 (w.heap.size)) ∧ (IsRow wr (w.heap.size + 1) ∧ blk wr (w.heap.size + 1) = blk W4 (w.heap.size + 1)) ∧ (IsRow wr (w.heap.size + 2) ∧ blk wr (w.heap.size + 2) = blk W4 (w.heap.size + 2)) ∧ (IsRow wr (W2.heap.size) ∧ blk wr (W2.heap.size) = row 8 (fdK p n f S false i j k)) ∧ (IsRow wr (W2.heap.size + 1) ∧ blk wr (W2.heap.size + 1) = blk W4 (W2.heap.size + 1))) (fun s12 _ => n - (intOf s12).toNat)
      case atStart => exact ⟨0, by omega, rfl, hb4, ⟨r4_4, rfl⟩, ⟨r6_4, rfl⟩, ⟨r8_4, rfl⟩, ⟨r9_4, c9_4⟩, ⟨r10_4, rfl⟩⟩
      case round =>
        obtain ⟨k, hle5, rfl, hb5, ⟨r4_5, c4_5⟩, ⟨r6_5, c6_5⟩, ⟨r8_5, c8_5⟩, ⟨r9_5, c9_5⟩, ⟨r10_5, c10_5⟩⟩ := hrel
        obtain ⟨W5, rfl⟩ : ∃ W5 : World, W5 = wr := ⟨_, rfl⟩
        have q5 := hb5.size
        have E4_5 := Lib.hid c4_4; replace c4_5 := c4_5.trans c4_4
        have z4_5 := isRow_lt r4_5
        have E6_5 := Lib.hid c6_4; replace c6_5 := c6_5.trans c6_4
        have z6_5 := isRow_lt r6_5
        have E8_5 := Lib.hid c8_4; replace c8_5 := c8_5.trans c8_4
        have z8_5 := isRow_lt r8_5
        have z9_5 := isRow_lt r9_5
        have E10_5 := Lib.hid c10_4; replace c10_5 := c10_5.trans c10_4
        have z10_5 := isRow_lt r10_5
        clear r4_4 c4_4 z4_4 r6_4 c6_4 z6_4 r8_4 c8_4 z8_4 r9_4 c9_4 z9_4 r10_4 c10_4 z10_4 hb4
        by_cases hlt5 : k < n
        · skip
          have i0_5 : (0 : Int) ≤ (k : Int) := by omega
          have i8_5 : (k : Int) < 8 := by omega
          have k8_5 : k < 8 := by omega
          have m8_5 : k * 8 + 8 ≤ 64 := by omega
          have m64_5 : k * 64 + 64 ≤ 512 := by omega
          have l1_5 : 10 + k * 64 + 64 ≤ 522 := by omega
          have l2_5j : 10 + j * 64 + k * 8 + 8 ≤ 522 := by omega
          have l3_5j : 10 + k * 64 + j * 8 + 8 ≤ 522 := by omega
          have l4_5j : j * 64 + k * 8 + 8 ≤ 512 := by omega
          have l5_5j : k * 64 + j * 8 + 8 ≤ 512 := by omega
          have l6_5j : j * 8 + k < 64 := by omega
          have l7_5j : k * 8 + j < 64 := by omega
          by_cases hk : mtab (coF f) i j k = 0
          · skip
            have e9 := hop_come p n f i j k (by omega) (by omega) (by omega)
            have l9 : 530 + i * 64 + j * 8 + k < 1106 := by omega
            have q1 : IntKind.i64.wrap 0 = 0 := rfl
            go_wp2
            go_roundw
            case rel => exact ⟨k + 1, by omega, by go_num, (by (repeat (first | exact hb5 | exact Below.refl _ _ | refine Below.alloc ?_ (by first | omega | (simp; try omega)) _ | refine below_setRow ?_ (by omega) _ | refine Below.drew ?_))), ⟨by simp [go_sem, r4_5, c4_5, n4_9, n4_10, r6_5, c6_5, n6_9, n6_10, r8_5, c8_5, n8_9, n8_10, r9_5, c9_5, n9_4, n9_6, n9_8, r10_5, c10_5, n10_4, n10_6, n10_8], (by rw [E4_5.out]; first | exact c4_5 | (simp [go_sem, r4_5, c4_5, n4_9, n4_10, r6_5, c6_5, n6_9, n6_10, r8_5, c8_5, n8_9, n8_10, r9_5, c9_5, n9_4, n9_6, n9_8, r10_5, c10_5, n10_4, n10_6, n10_8]; done))⟩, ⟨by simp [go_sem, r4_5, c4_5, n4_9, n4_10, r6_5, c6_5, n6_9, n6_10, r8_5, c8_5, n8_9, n8_10, r9_5, c9_5, n9_4, n9_6, n9_8, r10_5, c10_5, n10_4, n10_6, n10_8], (by rw [E6_5.out]; first | exact c6_5 | (simp [go_sem, r4_5, c4_5, n4_9, n4_10, r6_5, c6_5, n6_9, n6_10, r8_5, c8_5, n8_9, n8_10, r9_5, c9_5, n9_4, n9_6, n9_8, r10_5, c10_5, n10_4, n10_6, n10_8]; done))⟩, ⟨by simp [go_sem, r4_5, c4_5, n4_9, n4_10, r6_5, c6_5, n6_9, n6_10, r8_5, c8_5, n8_9, n8_10, r9_5, c9_5, n9_4, n9_6, n9_8, r10_5, c10_5, n10_4, n10_6, n10_8], (by rw [E8_5.out]; first | exact c8_5 | (simp [go_sem, r4_5, c4_5, n4_9, n4_10, r6_5, c6_5, n6_9, n6_10, r8_5, c8_5, n8_9, n8_10, r9_5, c9_5, n9_4, n9_6, n9_8, r10_5, c10_5, n10_4, n10_6, n10_8]; done))⟩, ⟨by simp [go_sem, r4_5, c4_5, n4_9, n4_10, r6_5, c6_5, n6_9, n6_10, r8_5, c8_5, n8_9, n8_10, r9_5, c9_5, n9_4, n9_6, n9_8, r10_5, c10_5, n10_4, n10_6, n10_8], (by first | exact (c9_5).trans (fd_skip p n f S false i j k hk) | (simp [go_sem, r4_5, c4_5, n4_9, n4_10, r6_5, c6_5, n6_9, n6_10, r8_5, c8_5, n8_9, n8_10, r9_5, c9_5, n9_4, n9_6, n9_8, r10_5, c10_5, n10_4, n10_6, n10_8]; exact fd_skip p n f S false i j k hk))⟩, ⟨by simp [go_sem, r4_5, c4_5, n4_9, n4_10, r6_5, c6_5, n6_9, n6_10, r8_5, c8_5, n8_9, n8_10, r9_5, c9_5, n9_4, n9_6, n9_8, r10_5, c10_5, n10_4, n10_6, n10_8], (by rw [E10_5.out]; first | exact c10_5 | (simp [go_sem, r4_5, c4_5, n4_9, n4_10, r6_5, c6_5, n6_9, n6_10, r8_5, c8_5, n8_9, n8_10, r9_5, c9_5, n9_4, n9_6, n9_8, r10_5, c10_5, n10_4, n10_6, n10_8]; done))⟩⟩
            case measure => simp [intOf]; omega
          · skip
            have e9 := hop_come p n f i j k (by omega) (by omega) (by omega)
            have l9 : 530 + i * 64 + j * 8 + k < 1106 := by omega
            have b1 := (mtab_range (co_bytes HF.out) i j k (by omega) (by omega) (by omega)).1; have b2 := (mtab_range (co_bytes HF.out) i j k (by omega) (by omega) (by omega)).2
            have q1 : IntKind.i64.wrap (mtab (coF f) i j k) = mtab (coF f) i j k := IntWalk.i64_in _ (by omega)
            have HX : Hid (Bytes 8 (fdK p n f S false i j k)) := Lib.hid (bytes_mod hp hp' _)
            have HJ : Hid (Bytes 8 fun t => S (j * 8 + t)) := Lib.hid (part_bytes HS.out j (by omega))
            have HK : Hid (Bytes 8 fun t => S (k * 8 + t)) := Lib.hid (part_bytes HS.out k (by omega))
            have HW : Hid (Bytes 8 (ownF p n f S false j k)) := Lib.hid (own_bytes hp hp' n f S false j k)
            go_wp2
            refine wp_quiet_alloc 7 _ (.cells (row 8 zf) 28) (Below W5.heap.size W5) (Made W5 (row 8 zf)) (by kernel_rfl) rfl rfl (by kernel_rfl) (fun a W => (xallocVec _ _ _ _ _ _ _).trans (allocVec W)) (closed_below W5) (closed_made W5 _) (fun b W h => h.1) (fun W h => made_new W5 _ _ W h) (Below.refl _ _).drew ?_
            simp only [List.take_succ_cons, List.take_zero, List.drop_succ_cons, List.drop_zero]
            iterate 5 (refine e_plain rfl ?_; apply Exists.intro; refine ⟨fun D hD hK W hW => ?_, ?_⟩; (focus (obtain ⟨x4, y4⟩ := keepB (hD W hW) z4_5 r4_5 c4_5; obtain ⟨x6, y6⟩ := keepB (hD W hW) z6_5 r6_5 c6_5; obtain ⟨x8, y8⟩ := keepB (hD W hW) z8_5 r8_5 c8_5; obtain ⟨x9, y9⟩ := keepB (hD W hW) z9_5 r9_5 c9_5; obtain ⟨x10, y10⟩ := keepB (hD W hW) z10_5 r10_5 c10_5; unfold Oper.quietAt; go_simp; first | done | rfl)); simp only [Act.put, List.setIfInBounds_toArray, List.set_cons_zero, List.set_cons_succ])
            (refine e_plain rfl ?_; apply Exists.intro; refine ⟨fun D hD hK W hW => ?_, ?_⟩; (focus (obtain ⟨x4, y4⟩ := keepB (hD W hW) z4_5 r4_5 c4_5; obtain ⟨x6, y6⟩ := keepB (hD W hW) z6_5 r6_5 c6_5; obtain ⟨x8, y8⟩ := keepB (hD W hW) z8_5 r8_5 c8_5; obtain ⟨x9, y9⟩ := keepB (hD W hW) z9_5 r9_5 c9_5; obtain ⟨x10, y10⟩ := keepB (hD W hW) z10_5 r10_5 c10_5; unfold Oper.quietAt; go_simp; (go_at_call 77; exact (l01BasisAt k (by omega) _).mono fun e w2 ⟨he, hw2⟩ => ⟨he, hK _ _ hW hw2⟩))); simp only [Act.put, List.setIfInBounds_toArray, List.set_cons_zero, List.set_cons_succ])
            (refine e_plain rfl ?_; apply Exists.intro; refine ⟨fun D hD hK W hW => ?_, ?_⟩; (focus (obtain ⟨x4, y4⟩ := keepB (hD W hW) z4_5 r4_5 c4_5; obtain ⟨x6, y6⟩ := keepB (hD W hW) z6_5 r6_5 c6_5; obtain ⟨x8, y8⟩ := keepB (hD W hW) z8_5 r8_5 c8_5; obtain ⟨x9, y9⟩ := keepB (hD W hW) z9_5 r9_5 c9_5; obtain ⟨x10, y10⟩ := keepB (hD W hW) z10_5 r10_5 c10_5; unfold Oper.quietAt; go_simp; (go_at_call 104; exact (l01Times_any p n f _ _ _ hp hp' hn (hop_bytes HF.out) HJ.out (ebas_bytes k)).mono fun e w2 ⟨he, hw2⟩ => ⟨he, hK _ _ hW hw2⟩))); simp only [Act.put, List.setIfInBounds_toArray, List.set_cons_zero, List.set_cons_succ])
            refine e_nil ?_
            intro a6 W6 hW6
            obtain ⟨hw6, hl6, m1_6, m2_6⟩ := hW6
            have n4_14 : (w.heap.size) ≠ (a6) := by have := z4_5; omega
            have n14_4 : (a6) ≠ (w.heap.size) := by have := z4_5; omega
            have n6_14 : (w.heap.size + 1) ≠ (a6) := by have := z6_5; omega
            have n14_6 : (a6) ≠ (w.heap.size + 1) := by have := z6_5; omega
            have n8_14 : (w.heap.size + 2) ≠ (a6) := by have := z8_5; omega
            have n14_8 : (a6) ≠ (w.heap.size + 2) := by have := z8_5; omega
            have n9_14 : (W2.heap.size) ≠ (a6) := by have := z9_5; omega
            have n14_9 : (a6) ≠ (W2.heap.size) := by have := z9_5; omega
            have n10_14 : (W2.heap.size + 1) ≠ (a6) := by have := z10_5; omega
            have n14_10 : (a6) ≠ (W2.heap.size + 1) := by have := z10_5; omega
            obtain ⟨r4_6, c4_6⟩ := keepB hw6 z4_5 r4_5 c4_5
            have z4_6 := isRow_lt r4_6
            obtain ⟨r6_6, c6_6⟩ := keepB hw6 z6_5 r6_5 c6_5
            have z6_6 := isRow_lt r6_6
            obtain ⟨r8_6, c8_6⟩ := keepB hw6 z8_5 r8_5 c8_5
            have z8_6 := isRow_lt r8_6
            obtain ⟨r9_6, c9_6⟩ := keepB hw6 z9_5 r9_5 c9_5
            have z9_6 := isRow_lt r9_6
            obtain ⟨r10_6, c10_6⟩ := keepB hw6 z10_5 r10_5 c10_5
            have z10_6 := isRow_lt r10_6
            have hb6 := hb5.trans (hw6.mono hb5.size)
            have q6 := hb6.size
            clear hw6 r4_5 c4_5 z4_5 r6_5 c6_5 z6_5 r8_5 c8_5 z8_5 r9_5 c9_5 z9_5 r10_5 c10_5 z10_5 hb5
            have z14_6 := isRow_lt m1_6
            simp only [Act.put, List.setIfInBounds_toArray, List.set_cons_zero, List.set_cons_succ]
            go_wp2_with fail
            refine atomC fun W7 e7 => ?_
            have hb7 : Below w.heap.size w W7 := by rw [e7]; (repeat (first | exact hb6 | exact Below.refl _ _ | refine Below.alloc ?_ (by first | omega | (simp; try omega)) _ | refine below_setRow ?_ (by omega) _ | refine Below.drew ?_))
            have q7 := hb7.size
            have r4_7 : IsRow W7 (w.heap.size) := by rw [e7]; simp [go_sem, r4_6, c4_6, n4_9, n4_10, n4_14, r6_6, c6_6, n6_9, n6_10, n6_14, r8_6, c8_6, n8_9, n8_10, n8_14, r9_6, c9_6, n9_4, n9_6, n9_8, n9_14, r10_6, c10_6, n10_4, n10_6, n10_8, n10_14, m1_6]
            have c4_7 := congrArg (fun x => blk x (w.heap.size)) e7; simp [go_sem, r4_6, c4_6, n4_9, n4_10, n4_14, r6_6, c6_6, n6_9, n6_10, n6_14, r8_6, c8_6, n8_9, n8_10, n8_14, r9_6, c9_6, n9_4, n9_6, n9_8, n9_14, r10_6, c10_6, n10_4, n10_6, n10_8, n10_14, m1_6] at c4_7
            have z4_7 := isRow_lt r4_7
            have r6_7 : IsRow W7 (w.heap.size + 1) := by rw [e7]; simp [go_sem, r4_6, c4_6, n4_9, n4_10, n4_14, r6_6, c6_6, n6_9, n6_10, n6_14, r8_6, c8_6, n8_9, n8_10, n8_14, r9_6, c9_6, n9_4, n9_6, n9_8, n9_14, r10_6, c10_6, n10_4, n10_6, n10_8, n10_14, m1_6]
            have c6_7 := congrArg (fun x => blk x (w.heap.size + 1)) e7; simp [go_sem, r4_6, c4_6, n4_9, n4_10, n4_14, r6_6, c6_6, n6_9, n6_10, n6_14, r8_6, c8_6, n8_9, n8_10, n8_14, r9_6, c9_6, n9_4, n9_6, n9_8, n9_14, r10_6, c10_6, n10_4, n10_6, n10_8, n10_14, m1_6] at c6_7
            have z6_7 := isRow_lt r6_7
            have r8_7 : IsRow W7 (w.heap.size + 2) := by rw [e7]; simp [go_sem, r4_6, c4_6, n4_9, n4_10, n4_14, r6_6, c6_6, n6_9, n6_10, n6_14, r8_6, c8_6, n8_9, n8_10, n8_14, r9_6, c9_6, n9_4, n9_6, n9_8, n9_14, r10_6, c10_6, n10_4, n10_6, n10_8, n10_14, m1_6]
            have c8_7 := congrArg (fun x => blk x (w.heap.size + 2)) e7; simp [go_sem, r4_6, c4_6, n4_9, n4_10, n4_14, r6_6, c6_6, n6_9, n6_10, n6_14, r8_6, c8_6, n8_9, n8_10, n8_14, r9_6, c9_6, n9_4, n9_6, n9_8, n9_14, r10_6, c10_6, n10_4, n10_6, n10_8, n10_14, m1_6] at c8_7
            have z8_7 := isRow_lt r8_7
            have r9_7 : IsRow W7 (W2.heap.size) := by rw [e7]; simp [go_sem, r4_6, c4_6, n4_9, n4_10, n4_14, r6_6, c6_6, n6_9, n6_10, n6_14, r8_6, c8_6, n8_9, n8_10, n8_14, r9_6, c9_6, n9_4, n9_6, n9_8, n9_14, r10_6, c10_6, n10_4, n10_6, n10_8, n10_14, m1_6]
            have c9_7 := congrArg (fun x => blk x (W2.heap.size)) e7; simp [go_sem, r4_6, c4_6, n4_9, n4_10, n4_14, r6_6, c6_6, n6_9, n6_10, n6_14, r8_6, c8_6, n8_9, n8_10, n8_14, r9_6, c9_6, n9_4, n9_6, n9_8, n9_14, r10_6, c10_6, n10_4, n10_6, n10_8, n10_14, m1_6] at c9_7
            have z9_7 := isRow_lt r9_7
            have r10_7 : IsRow W7 (W2.heap.size + 1) := by rw [e7]; simp [go_sem, r4_6, c4_6, n4_9, n4_10, n4_14, r6_6, c6_6, n6_9, n6_10, n6_14, r8_6, c8_6, n8_9, n8_10, n8_14, r9_6, c9_6, n9_4, n9_6, n9_8, n9_14, r10_6, c10_6, n10_4, n10_6, n10_8, n10_14, m1_6]
            have c10_7 := congrArg (fun x => blk x (W2.heap.size + 1)) e7; simp [go_sem, r4_6, c4_6, n4_9, n4_10, n4_14, r6_6, c6_6, n6_9, n6_10, n6_14, r8_6, c8_6, n8_9, n8_10, n8_14, r9_6, c9_6, n9_4, n9_6, n9_8, n9_14, r10_6, c10_6, n10_4, n10_6, n10_8, n10_14, m1_6] at c10_7
            have z10_7 := isRow_lt r10_7
            clear e7 r4_6 c4_6 z4_6 r6_6 c6_6 z6_6 r8_6 c8_6 z8_6 r9_6 c9_6 z9_6 r10_6 c10_6 z10_6 hb6
            refine (l01Add_any _ _ _ (ownF p n f S false j k) _ hp hp' (by omega) (by omega) HX.out HW.out).mono ?_; rintro _ W8 ⟨rfl, hw8⟩
            obtain ⟨r4_8, c4_8⟩ := keepB hw8 z4_7 r4_7 c4_7
            have z4_8 := isRow_lt r4_8
            obtain ⟨r6_8, c6_8⟩ := keepB hw8 z6_7 r6_7 c6_7
            have z6_8 := isRow_lt r6_8
            obtain ⟨r8_8, c8_8⟩ := keepB hw8 z8_7 r8_7 c8_7
            have z8_8 := isRow_lt r8_8
            obtain ⟨r9_8, c9_8⟩ := keepB hw8 z9_7 r9_7 c9_7
            have z9_8 := isRow_lt r9_8
            obtain ⟨r10_8, c10_8⟩ := keepB hw8 z10_7 r10_7 c10_7
            have z10_8 := isRow_lt r10_8
            have hb8 := hb7.trans (hw8.mono hb7.size)
            have q8 := hb8.size
            clear hw8 r4_7 c4_7 z4_7 r6_7 c6_7 z6_7 r8_7 c8_7 z8_7 r9_7 c9_7 z9_7 r10_7 c10_7 z10_7 hb7
            go_wp2
            go_roundw
            case rel => exact ⟨k + 1, by omega, by go_num, (by (repeat (first | exact hb8 | exact Below.refl _ _ | refine Below.alloc ?_ (by first | omega | (simp; try omega)) _ | refine below_setRow ?_ (by omega) _ | refine Below.drew ?_))), ⟨by simp [go_sem, r4_8, c4_8, n4_9, n4_10, r6_8, c6_8, n6_9, n6_10, r8_8, c8_8, n8_9, n8_10, r9_8, c9_8, n9_4, n9_6, n9_8, r10_8, c10_8, n10_4, n10_6, n10_8], (by rw [E4_5.out]; first | exact c4_8 | (simp [go_sem, r4_8, c4_8, n4_9, n4_10, r6_8, c6_8, n6_9, n6_10, r8_8, c8_8, n8_9, n8_10, r9_8, c9_8, n9_4, n9_6, n9_8, r10_8, c10_8, n10_4, n10_6, n10_8]; done))⟩, ⟨by simp [go_sem, r4_8, c4_8, n4_9, n4_10, r6_8, c6_8, n6_9, n6_10, r8_8, c8_8, n8_9, n8_10, r9_8, c9_8, n9_4, n9_6, n9_8, r10_8, c10_8, n10_4, n10_6, n10_8], (by rw [E6_5.out]; first | exact c6_8 | (simp [go_sem, r4_8, c4_8, n4_9, n4_10, r6_8, c6_8, n6_9, n6_10, r8_8, c8_8, n8_9, n8_10, r9_8, c9_8, n9_4, n9_6, n9_8, r10_8, c10_8, n10_4, n10_6, n10_8]; done))⟩, ⟨by simp [go_sem, r4_8, c4_8, n4_9, n4_10, r6_8, c6_8, n6_9, n6_10, r8_8, c8_8, n8_9, n8_10, r9_8, c9_8, n9_4, n9_6, n9_8, r10_8, c10_8, n10_4, n10_6, n10_8], (by rw [E8_5.out]; first | exact c8_8 | (simp [go_sem, r4_8, c4_8, n4_9, n4_10, r6_8, c6_8, n6_9, n6_10, r8_8, c8_8, n8_9, n8_10, r9_8, c9_8, n9_4, n9_6, n9_8, r10_8, c10_8, n10_4, n10_6, n10_8]; done))⟩, ⟨by simp [go_sem, r4_8, c4_8, n4_9, n4_10, r6_8, c6_8, n6_9, n6_10, r8_8, c8_8, n8_9, n8_10, r9_8, c9_8, n9_4, n9_6, n9_8, r10_8, c10_8, n10_4, n10_6, n10_8], (by first | (rw [blk_setRow _ _ _ _ r9_8, if_pos rfl]; exact fd_step p n f S false i j k) | exact (c9_8).trans (fd_step p n f S false i j k) | (simp [go_sem, r4_8, c4_8, n4_9, n4_10, r6_8, c6_8, n6_9, n6_10, r8_8, c8_8, n8_9, n8_10, r9_8, c9_8, n9_4, n9_6, n9_8, r10_8, c10_8, n10_4, n10_6, n10_8]; exact fd_step p n f S false i j k))⟩, ⟨by simp [go_sem, r4_8, c4_8, n4_9, n4_10, r6_8, c6_8, n6_9, n6_10, r8_8, c8_8, n8_9, n8_10, r9_8, c9_8, n9_4, n9_6, n9_8, r10_8, c10_8, n10_4, n10_6, n10_8], (by rw [E10_5.out]; first | exact c10_8 | (simp [go_sem, r4_8, c4_8, n4_9, n4_10, r6_8, c6_8, n6_9, n6_10, r8_8, c8_8, n8_9, n8_10, r9_8, c9_8, n9_4, n9_6, n9_8, r10_8, c10_8, n10_4, n10_6, n10_8]; done))⟩⟩
            case measure => simp [intOf]; omega
        · skip
          obtain rfl : n = k := by omega
          go_wp2
          go_roundw
          case rel => exact ⟨j + 1, by omega, by go_num, (by (repeat (first | exact hb5 | exact Below.refl _ _ | refine Below.alloc ?_ (by first | omega | (simp; try omega)) _ | refine below_setRow ?_ (by omega) _ | refine Below.drew ?_))), ⟨by simp [go_sem, r4_5, c4_5, n4_9, n4_10, r6_5, c6_5, n6_9, n6_10, r8_5, c8_5, n8_9, n8_10, r9_5, c9_5, n9_4, n9_6, n9_8, r10_5, c10_5, n10_4, n10_6, n10_8], (by rw [E4_4.out]; first | exact c4_5 | (simp [go_sem, r4_5, c4_5, n4_9, n4_10, r6_5, c6_5, n6_9, n6_10, r8_5, c8_5, n8_9, n8_10, r9_5, c9_5, n9_4, n9_6, n9_8, r10_5, c10_5, n10_4, n10_6, n10_8]; done))⟩, ⟨by simp [go_sem, r4_5, c4_5, n4_9, n4_10, r6_5, c6_5, n6_9, n6_10, r8_5, c8_5, n8_9, n8_10, r9_5, c9_5, n9_4, n9_6, n9_8, r10_5, c10_5, n10_4, n10_6, n10_8], (by rw [E6_4.out]; first | exact c6_5 | (simp [go_sem, r4_5, c4_5, n4_9, n4_10, r6_5, c6_5, n6_9, n6_10, r8_5, c8_5, n8_9, n8_10, r9_5, c9_5, n9_4, n9_6, n9_8, r10_5, c10_5, n10_4, n10_6, n10_8]; done))⟩, ⟨by simp [go_sem, r4_5, c4_5, n4_9, n4_10, r6_5, c6_5, n6_9, n6_10, r8_5, c8_5, n8_9, n8_10, r9_5, c9_5, n9_4, n9_6, n9_8, r10_5, c10_5, n10_4, n10_6, n10_8], (by rw [E8_4.out]; first | exact c8_5 | (simp [go_sem, r4_5, c4_5, n4_9, n4_10, r6_5, c6_5, n6_9, n6_10, r8_5, c8_5, n8_9, n8_10, r9_5, c9_5, n9_4, n9_6, n9_8, r10_5, c10_5, n10_4, n10_6, n10_8]; done))⟩, ⟨by simp [go_sem, r4_5, c4_5, n4_9, n4_10, r6_5, c6_5, n6_9, n6_10, r8_5, c8_5, n8_9, n8_10, r9_5, c9_5, n9_4, n9_6, n9_8, r10_5, c10_5, n10_4, n10_6, n10_8], (by first | exact (c9_5).trans (fd_row p n f S false i j) | (simp [go_sem, r4_5, c4_5, n4_9, n4_10, r6_5, c6_5, n6_9, n6_10, r8_5, c8_5, n8_9, n8_10, r9_5, c9_5, n9_4, n9_6, n9_8, r10_5, c10_5, n10_4, n10_6, n10_8]; exact fd_row p n f S false i j))⟩, ⟨by simp [go_sem, r4_5, c4_5, n4_9, n4_10, r6_5, c6_5, n6_9, n6_10, r8_5, c8_5, n8_9, n8_10, r9_5, c9_5, n9_4, n9_6, n9_8, r10_5, c10_5, n10_4, n10_6, n10_8], (by rw [E10_4.out]; first | exact c10_5 | (simp [go_sem, r4_5, c4_5, n4_9, n4_10, r6_5, c6_5, n6_9, n6_10, r8_5, c8_5, n8_9, n8_10, r9_5, c9_5, n9_4, n9_6, n9_8, r10_5, c10_5, n10_4, n10_6, n10_8]; done))⟩⟩
          case measure => simp [intOf]; omega
    · skip
      obtain rfl : n = j := by omega
      go_wp2_with fail
      refine bodyPost_ret (result_cell rfl aggVec _ _ (row 8 (fdK p n f S false i n 0)) _ rfl ?_ ?_) rfl ⟨rfl, ?_⟩
      · simp [go_sem, r4_4, c4_4, n4_9, n4_10, r6_4, c6_4, n6_9, n6_10, r8_4, c8_4, n8_9, n8_10, r9_4, c9_4, n9_4, n9_6, n9_8, r10_4, c10_4, n10_4, n10_6, n10_8]
      · simp [go_sem, r4_4, c4_4, n4_9, n4_10, r6_4, c6_4, n6_9, n6_10, r8_4, c8_4, n8_9, n8_10, r9_4, c9_4, n9_4, n9_6, n9_8, r10_4, c10_4, n10_4, n10_6, n10_8]
      · repeat (first | exact hb4 | exact Below.refl _ _ | refine Below.alloc ?_ (by first | omega | (simp; try omega)) _ | refine below_setRow ?_ (by omega) _ | refine Below.drew ?_)

set_option maxRecDepth 100000 in
set_option maxHeartbeats 4000000 in
theorem l03Folded_true (p : Int) (n : Nat) (f S : Nat → Int) (i : Nat) (w : World) (hp : 0 < p) (hp' : p ≤ 255) (hn : n ≤ 8) (hi : i < 8) (hF : Bytes 1104 f) (hS : Bytes 64 S) :
    Calls Try.prog 93 #[.agg (hop p n f), .int .i64 i, .agg (row 64 S), .bool true] w fun e w' => e = .returned (.agg (row 8 (fdK p n f S true i n 0))) ∧ Below w.heap.size w w' := by
  have HF := Lib.hid hF; clear hF
  have HS := Lib.hid hS; clear hS
  have xi : (i : Int) < 8 := by omega
  go_enter Try.func93, Try.ntmps93
  go_wp2_with fail
  refine atomC fun W1 e1 => ?_
  have hb1 : Below w.heap.size w W1 := by rw [e1]; (repeat (first | exact Below.refl _ _ | refine Below.alloc ?_ (by first | omega | (simp; try omega)) _ | refine below_setRow ?_ (by omega) _ | refine Below.drew ?_))
  have q1 := hb1.size
  have r4_1 : IsRow W1 (w.heap.size) := by rw [e1]; simp [go_sem]
  have c4_1 := congrArg (fun x => blk x (w.heap.size)) e1; simp [go_sem] at c4_1
  have z4_1 := isRow_lt r4_1
  have r6_1 : IsRow W1 (w.heap.size + 1) := by rw [e1]; simp [go_sem]
  have c6_1 := congrArg (fun x => blk x (w.heap.size + 1)) e1; simp [go_sem] at c6_1
  have z6_1 := isRow_lt r6_1
  have r8_1 : IsRow W1 (w.heap.size + 2) := by rw [e1]; simp [go_sem]
  have c8_1 := congrArg (fun x => blk x (w.heap.size + 2)) e1; simp [go_sem] at c8_1
  have z8_1 := isRow_lt r8_1
  clear e1
  refine (l03Algebra_any _ _ _ _).mono ?_; rintro _ W2 ⟨rfl, hw2⟩
  obtain ⟨r4_2, c4_2⟩ := keepB hw2 z4_1 r4_1 c4_1
  have z4_2 := isRow_lt r4_2
  obtain ⟨r6_2, c6_2⟩ := keepB hw2 z6_1 r6_1 c6_1
  have z6_2 := isRow_lt r6_2
  obtain ⟨r8_2, c8_2⟩ := keepB hw2 z8_1 r8_1 c8_1
  have z8_2 := isRow_lt r8_2
  have hb2 := hb1.trans (hw2.mono hb1.size)
  have q2 := hb2.size
  clear hw2 r4_1 c4_1 z4_1 r6_1 c6_1 z6_1 r8_1 c8_1 z8_1 hb1
  go_wp2
  have nw4_W2_0 : (w.heap.size) ≠ W2.heap.size := by omega
  have nw4_W2_1 : (w.heap.size) ≠ W2.heap.size + 1 := by omega
  have nw6_W2_0 : (w.heap.size + 1) ≠ W2.heap.size := by omega
  have nw6_W2_1 : (w.heap.size + 1) ≠ W2.heap.size + 1 := by omega
  have nw8_W2_0 : (w.heap.size + 2) ≠ W2.heap.size := by omega
  have nw8_W2_1 : (w.heap.size + 2) ≠ W2.heap.size + 1 := by omega
  refine atomW fun W3 e3 => ?_
  have hb3 : Below w.heap.size w W3 := by rw [e3]; (repeat (first | exact hb2 | exact Below.refl _ _ | refine Below.alloc ?_ (by first | omega | (simp; try omega)) _ | refine below_setRow ?_ (by omega) _ | refine Below.drew ?_))
  have q3 := hb3.size
  have r4_3 : IsRow W3 (w.heap.size) := by rw [e3]; simp [go_sem, r4_2, c4_2, r6_2, c6_2, r8_2, c8_2, nw4_W2_0, nw4_W2_1, nw6_W2_0, nw6_W2_1, nw8_W2_0, nw8_W2_1]
  have c4_3 := congrArg (fun x => blk x (w.heap.size)) e3; simp [go_sem, r4_2, c4_2, r6_2, c6_2, r8_2, c8_2, nw4_W2_0, nw4_W2_1, nw6_W2_0, nw6_W2_1, nw8_W2_0, nw8_W2_1] at c4_3
  have z4_3 := isRow_lt r4_3
  have r6_3 : IsRow W3 (w.heap.size + 1) := by rw [e3]; simp [go_sem, r4_2, c4_2, r6_2, c6_2, r8_2, c8_2, nw4_W2_0, nw4_W2_1, nw6_W2_0, nw6_W2_1, nw8_W2_0, nw8_W2_1]
  have c6_3 := congrArg (fun x => blk x (w.heap.size + 1)) e3; simp [go_sem, r4_2, c4_2, r6_2, c6_2, r8_2, c8_2, nw4_W2_0, nw4_W2_1, nw6_W2_0, nw6_W2_1, nw8_W2_0, nw8_W2_1] at c6_3
  have z6_3 := isRow_lt r6_3
  have r8_3 : IsRow W3 (w.heap.size + 2) := by rw [e3]; simp [go_sem, r4_2, c4_2, r6_2, c6_2, r8_2, c8_2, nw4_W2_0, nw4_W2_1, nw6_W2_0, nw6_W2_1, nw8_W2_0, nw8_W2_1]
  have c8_3 := congrArg (fun x => blk x (w.heap.size + 2)) e3; simp [go_sem, r4_2, c4_2, r6_2, c6_2, r8_2, c8_2, nw4_W2_0, nw4_W2_1, nw6_W2_0, nw6_W2_1, nw8_W2_0, nw8_W2_1] at c8_3
  have z8_3 := isRow_lt r8_3
  have r9_3 : IsRow W3 (W2.heap.size) := by rw [e3]; simp [go_sem, r4_2, c4_2, r6_2, c6_2, r8_2, c8_2, nw4_W2_0, nw4_W2_1, nw6_W2_0, nw6_W2_1, nw8_W2_0, nw8_W2_1]
  have c9_3 := congrArg (fun x => blk x (W2.heap.size)) e3; simp [go_sem, r4_2, c4_2, r6_2, c6_2, r8_2, c8_2, nw4_W2_0, nw4_W2_1, nw6_W2_0, nw6_W2_1, nw8_W2_0, nw8_W2_1] at c9_3
  have z9_3 := isRow_lt r9_3
  have r10_3 : IsRow W3 (W2.heap.size + 1) := by rw [e3]; simp [go_sem, r4_2, c4_2, r6_2, c6_2, r8_2, c8_2, nw4_W2_0, nw4_W2_1, nw6_W2_0, nw6_W2_1, nw8_W2_0, nw8_W2_1]
  have c10_3 := congrArg (fun x => blk x (W2.heap.size + 1)) e3; simp [go_sem, r4_2, c4_2, r6_2, c6_2, r8_2, c8_2, nw4_W2_0, nw4_W2_1, nw6_W2_0, nw6_W2_1, nw8_W2_0, nw8_W2_1] at c10_3
  have z10_3 := isRow_lt r10_3
  have n4_9 : (w.heap.size) ≠ (W2.heap.size) := by omega
  have n4_10 : (w.heap.size) ≠ (W2.heap.size + 1) := by omega
  have n6_9 : (w.heap.size + 1) ≠ (W2.heap.size) := by omega
  have n6_10 : (w.heap.size + 1) ≠ (W2.heap.size + 1) := by omega
  have n8_9 : (w.heap.size + 2) ≠ (W2.heap.size) := by omega
  have n8_10 : (w.heap.size + 2) ≠ (W2.heap.size + 1) := by omega
  have n9_4 : (W2.heap.size) ≠ (w.heap.size) := by omega
  have n9_6 : (W2.heap.size) ≠ (w.heap.size + 1) := by omega
  have n9_8 : (W2.heap.size) ≠ (w.heap.size + 2) := by omega
  have n10_4 : (W2.heap.size + 1) ≠ (w.heap.size) := by omega
  have n10_6 : (W2.heap.size + 1) ≠ (w.heap.size + 1) := by omega
  have n10_8 : (W2.heap.size + 1) ≠ (w.heap.size + 2) := by omega
  clear e3 nw4_W2_0 nw4_W2_1 nw6_W2_0 nw6_W2_1 nw8_W2_0 nw8_W2_1 r4_2 c4_2 z4_2 r6_2 c6_2 z6_2 r8_2 c8_2 z8_2 hb2
  go_loopw [11] (fun s11 wr => ∃ j : Nat, j ≤ n ∧ s11 = .int .i64 j ∧ Below w.heap.size w wr ∧ (IsRow wr (w.heap.size) ∧ blk wr (w.heap.size) = blk W3 (w.heap.size)) ∧ (IsRow wr (w.heap.size + 1) ∧ blk wr (w.heap.size + 1) = blk W3 (w.heap.size + 1)) ∧ (IsRow wr (w.heap.size + 2) ∧ blk wr (w.heap.size + 2) = blk W3 (w.heap.size + 2)) ∧ (IsRow wr (W2.heap.size) ∧ blk wr (W2.heap.size) = row 8 (fdK p n f S true i j 0)) ∧ (IsRow wr (W2.heap.size + 1) ∧ blk wr (W2.heap.size + 1) = blk W3 (W2.heap.size + 1))) (fun s11 _ => n - (intOf s11).toNat)
  case atStart => exact ⟨0, by omega, rfl, hb3, ⟨r4_3, rfl⟩, ⟨r6_3, rfl⟩, ⟨r8_3, rfl⟩, ⟨r9_3, c9_3.trans (fd_zero p n f S true i)⟩, ⟨r10_3, rfl⟩⟩
  case round =>
    obtain ⟨j, hle4, rfl, hb4, ⟨r4_4, c4_4⟩, ⟨r6_4, c6_4⟩, ⟨r8_4, c8_4⟩, ⟨r9_4, c9_4⟩, ⟨r10_4, c10_4⟩⟩ := hrel
    obtain ⟨W4, rfl⟩ : ∃ W4 : World, W4 = wr := ⟨_, rfl⟩
    have q4 := hb4.size
    have E4_4 := Lib.hid c4_3; replace c4_4 := c4_4.trans c4_3
    have z4_4 := isRow_lt r4_4
    have E6_4 := Lib.hid c6_3; replace c6_4 := c6_4.trans c6_3
    have z6_4 := isRow_lt r6_4
    have E8_4 := Lib.hid c8_3; replace c8_4 := c8_4.trans c8_3
    have z8_4 := isRow_lt r8_4
    have z9_4 := isRow_lt r9_4
    have E10_4 := Lib.hid c10_3; replace c10_4 := c10_4.trans c10_3
    have z10_4 := isRow_lt r10_4
    clear r4_3 c4_3 z4_3 r6_3 c6_3 z6_3 r8_3 c8_3 z8_3 r9_3 c9_3 z9_3 r10_3 c10_3 z10_3 hb3
    by_cases hlt4 : j < n
    · skip
      have i0_4 : (0 : Int) ≤ (j : Int) := by omega
      have i8_4 : (j : Int) < 8 := by omega
      have k8_4 : j < 8 := by omega
      have m8_4 : j * 8 + 8 ≤ 64 := by omega
      have m64_4 : j * 64 + 64 ≤ 512 := by omega
      have l1_4 : 10 + j * 64 + 64 ≤ 522 := by omega
      go_wp2
      go_loopw [12] (fun s12 wr => ∃ k : Nat, k ≤ n ∧ s12 = .int .i64 k ∧ Below w.heap.size w wr ∧ (IsRow wr (w.heap.size) ∧ blk wr (w.heap.size) = blk W4 (w.heap.size)) ∧ (IsRow wr (w.heap.size + 1) ∧ blk wr (w.heap.size + 1) = blk W4 (w.heap.size + 1)) ∧ (IsRow wr (w.heap.size + 2) ∧ blk wr (w.heap.size + 2) = blk W4 (w.heap.size + 2)) ∧ (IsRow wr (W2.heap.size) ∧ blk wr (W2.heap.size) = row 8 (fdK p n f S true i j k)) ∧ (IsRow wr (W2.heap.size + 1) ∧ blk wr (W2.heap.size + 1) = blk W4 (W2.heap.size + 1))) (fun s12 _ => n - (intOf s12).toNat)
      case atStart => exact ⟨0, by omega, rfl, hb4, ⟨r4_4, rfl⟩, ⟨r6_4, rfl⟩, ⟨r8_4, rfl⟩, ⟨r9_4, c9_4⟩, ⟨r10_4, rfl⟩⟩
      case round =>
        obtain ⟨k, hle5, rfl, hb5, ⟨r4_5, c4_5⟩, ⟨r6_5, c6_5⟩, ⟨r8_5, c8_5⟩, ⟨r9_5, c9_5⟩, ⟨r10_5, c10_5⟩⟩ := hrel
        obtain ⟨W5, rfl⟩ : ∃ W5 : World, W5 = wr := ⟨_, rfl⟩
        have q5 := hb5.size
        have E4_5 := Lib.hid c4_4; replace c4_5 := c4_5.trans c4_4
        have z4_5 := isRow_lt r4_5
        have E6_5 := Lib.hid c6_4; replace c6_5 := c6_5.trans c6_4
        have z6_5 := isRow_lt r6_5
        have E8_5 := Lib.hid c8_4; replace c8_5 := c8_5.trans c8_4
        have z8_5 := isRow_lt r8_5
        have z9_5 := isRow_lt r9_5
        have E10_5 := Lib.hid c10_4; replace c10_5 := c10_5.trans c10_4
        have z10_5 := isRow_lt r10_5
        clear r4_4 c4_4 z4_4 r6_4 c6_4 z6_4 r8_4 c8_4 z8_4 r9_4 c9_4 z9_4 r10_4 c10_4 z10_4 hb4
        by_cases hlt5 : k < n
        · skip
          have i0_5 : (0 : Int) ≤ (k : Int) := by omega
          have i8_5 : (k : Int) < 8 := by omega
          have k8_5 : k < 8 := by omega
          have m8_5 : k * 8 + 8 ≤ 64 := by omega
          have m64_5 : k * 64 + 64 ≤ 512 := by omega
          have l1_5 : 10 + k * 64 + 64 ≤ 522 := by omega
          have l2_5j : 10 + j * 64 + k * 8 + 8 ≤ 522 := by omega
          have l3_5j : 10 + k * 64 + j * 8 + 8 ≤ 522 := by omega
          have l4_5j : j * 64 + k * 8 + 8 ≤ 512 := by omega
          have l5_5j : k * 64 + j * 8 + 8 ≤ 512 := by omega
          have l6_5j : j * 8 + k < 64 := by omega
          have l7_5j : k * 8 + j < 64 := by omega
          by_cases hk : mtab (coF f) i j k = 0
          · skip
            have e9 := hop_come p n f i j k (by omega) (by omega) (by omega)
            have l9 : 530 + i * 64 + j * 8 + k < 1106 := by omega
            have q1 : IntKind.i64.wrap 0 = 0 := rfl
            go_wp2
            go_roundw
            case rel => exact ⟨k + 1, by omega, by go_num, (by (repeat (first | exact hb5 | exact Below.refl _ _ | refine Below.alloc ?_ (by first | omega | (simp; try omega)) _ | refine below_setRow ?_ (by omega) _ | refine Below.drew ?_))), ⟨by simp [go_sem, r4_5, c4_5, n4_9, n4_10, r6_5, c6_5, n6_9, n6_10, r8_5, c8_5, n8_9, n8_10, r9_5, c9_5, n9_4, n9_6, n9_8, r10_5, c10_5, n10_4, n10_6, n10_8], (by rw [E4_5.out]; first | exact c4_5 | (simp [go_sem, r4_5, c4_5, n4_9, n4_10, r6_5, c6_5, n6_9, n6_10, r8_5, c8_5, n8_9, n8_10, r9_5, c9_5, n9_4, n9_6, n9_8, r10_5, c10_5, n10_4, n10_6, n10_8]; done))⟩, ⟨by simp [go_sem, r4_5, c4_5, n4_9, n4_10, r6_5, c6_5, n6_9, n6_10, r8_5, c8_5, n8_9, n8_10, r9_5, c9_5, n9_4, n9_6, n9_8, r10_5, c10_5, n10_4, n10_6, n10_8], (by rw [E6_5.out]; first | exact c6_5 | (simp [go_sem, r4_5, c4_5, n4_9, n4_10, r6_5, c6_5, n6_9, n6_10, r8_5, c8_5, n8_9, n8_10, r9_5, c9_5, n9_4, n9_6, n9_8, r10_5, c10_5, n10_4, n10_6, n10_8]; done))⟩, ⟨by simp [go_sem, r4_5, c4_5, n4_9, n4_10, r6_5, c6_5, n6_9, n6_10, r8_5, c8_5, n8_9, n8_10, r9_5, c9_5, n9_4, n9_6, n9_8, r10_5, c10_5, n10_4, n10_6, n10_8], (by rw [E8_5.out]; first | exact c8_5 | (simp [go_sem, r4_5, c4_5, n4_9, n4_10, r6_5, c6_5, n6_9, n6_10, r8_5, c8_5, n8_9, n8_10, r9_5, c9_5, n9_4, n9_6, n9_8, r10_5, c10_5, n10_4, n10_6, n10_8]; done))⟩, ⟨by simp [go_sem, r4_5, c4_5, n4_9, n4_10, r6_5, c6_5, n6_9, n6_10, r8_5, c8_5, n8_9, n8_10, r9_5, c9_5, n9_4, n9_6, n9_8, r10_5, c10_5, n10_4, n10_6, n10_8], (by first | exact (c9_5).trans (fd_skip p n f S true i j k hk) | (simp [go_sem, r4_5, c4_5, n4_9, n4_10, r6_5, c6_5, n6_9, n6_10, r8_5, c8_5, n8_9, n8_10, r9_5, c9_5, n9_4, n9_6, n9_8, r10_5, c10_5, n10_4, n10_6, n10_8]; exact fd_skip p n f S true i j k hk))⟩, ⟨by simp [go_sem, r4_5, c4_5, n4_9, n4_10, r6_5, c6_5, n6_9, n6_10, r8_5, c8_5, n8_9, n8_10, r9_5, c9_5, n9_4, n9_6, n9_8, r10_5, c10_5, n10_4, n10_6, n10_8], (by rw [E10_5.out]; first | exact c10_5 | (simp [go_sem, r4_5, c4_5, n4_9, n4_10, r6_5, c6_5, n6_9, n6_10, r8_5, c8_5, n8_9, n8_10, r9_5, c9_5, n9_4, n9_6, n9_8, r10_5, c10_5, n10_4, n10_6, n10_8]; done))⟩⟩
            case measure => simp [intOf]; omega
          · skip
            have e9 := hop_come p n f i j k (by omega) (by omega) (by omega)
            have l9 : 530 + i * 64 + j * 8 + k < 1106 := by omega
            have b1 := (mtab_range (co_bytes HF.out) i j k (by omega) (by omega) (by omega)).1; have b2 := (mtab_range (co_bytes HF.out) i j k (by omega) (by omega) (by omega)).2
            have q1 : IntKind.i64.wrap (mtab (coF f) i j k) = mtab (coF f) i j k := IntWalk.i64_in _ (by omega)
            have HX : Hid (Bytes 8 (fdK p n f S true i j k)) := Lib.hid (bytes_mod hp hp' _)
            have HJ : Hid (Bytes 8 fun t => S (j * 8 + t)) := Lib.hid (part_bytes HS.out j (by omega))
            have HK : Hid (Bytes 8 fun t => S (k * 8 + t)) := Lib.hid (part_bytes HS.out k (by omega))
            have HW : Hid (Bytes 8 (ownF p n f S true j k)) := Lib.hid (own_bytes hp hp' n f S true j k)
            go_wp2
            refine wp_quiet_alloc 7 _ (.cells (row 8 zf) 28) (Below W5.heap.size W5) (Made W5 (row 8 zf)) (by kernel_rfl) rfl rfl (by kernel_rfl) (fun a W => (xallocVec _ _ _ _ _ _ _).trans (allocVec W)) (closed_below W5) (closed_made W5 _) (fun b W h => h.1) (fun W h => made_new W5 _ _ W h) (Below.refl _ _).drew ?_
            simp only [List.take_succ_cons, List.take_zero, List.drop_succ_cons, List.drop_zero]
            iterate 5 (refine e_plain rfl ?_; apply Exists.intro; refine ⟨fun D hD hK W hW => ?_, ?_⟩; (focus (obtain ⟨x4, y4⟩ := keepB (hD W hW) z4_5 r4_5 c4_5; obtain ⟨x6, y6⟩ := keepB (hD W hW) z6_5 r6_5 c6_5; obtain ⟨x8, y8⟩ := keepB (hD W hW) z8_5 r8_5 c8_5; obtain ⟨x9, y9⟩ := keepB (hD W hW) z9_5 r9_5 c9_5; obtain ⟨x10, y10⟩ := keepB (hD W hW) z10_5 r10_5 c10_5; unfold Oper.quietAt; go_simp; first | done | rfl)); simp only [Act.put, List.setIfInBounds_toArray, List.set_cons_zero, List.set_cons_succ])
            (refine e_plain rfl ?_; apply Exists.intro; refine ⟨fun D hD hK W hW => ?_, ?_⟩; (focus (obtain ⟨x4, y4⟩ := keepB (hD W hW) z4_5 r4_5 c4_5; obtain ⟨x6, y6⟩ := keepB (hD W hW) z6_5 r6_5 c6_5; obtain ⟨x8, y8⟩ := keepB (hD W hW) z8_5 r8_5 c8_5; obtain ⟨x9, y9⟩ := keepB (hD W hW) z9_5 r9_5 c9_5; obtain ⟨x10, y10⟩ := keepB (hD W hW) z10_5 r10_5 c10_5; unfold Oper.quietAt; go_simp; (go_at_call 77; exact (l01BasisAt k (by omega) _).mono fun e w2 ⟨he, hw2⟩ => ⟨he, hK _ _ hW hw2⟩))); simp only [Act.put, List.setIfInBounds_toArray, List.set_cons_zero, List.set_cons_succ])
            (refine e_plain rfl ?_; apply Exists.intro; refine ⟨fun D hD hK W hW => ?_, ?_⟩; (focus (obtain ⟨x4, y4⟩ := keepB (hD W hW) z4_5 r4_5 c4_5; obtain ⟨x6, y6⟩ := keepB (hD W hW) z6_5 r6_5 c6_5; obtain ⟨x8, y8⟩ := keepB (hD W hW) z8_5 r8_5 c8_5; obtain ⟨x9, y9⟩ := keepB (hD W hW) z9_5 r9_5 c9_5; obtain ⟨x10, y10⟩ := keepB (hD W hW) z10_5 r10_5 c10_5; unfold Oper.quietAt; go_simp; (go_at_call 104; exact (l01Times_any p n f _ _ _ hp hp' hn (hop_bytes HF.out) HJ.out (ebas_bytes k)).mono fun e w2 ⟨he, hw2⟩ => ⟨he, hK _ _ hW hw2⟩))); simp only [Act.put, List.setIfInBounds_toArray, List.set_cons_zero, List.set_cons_succ])
            refine e_nil ?_
            intro a6 W6 hW6
            obtain ⟨hw6, hl6, m1_6, m2_6⟩ := hW6
            have n4_14 : (w.heap.size) ≠ (a6) := by have := z4_5; omega
            have n14_4 : (a6) ≠ (w.heap.size) := by have := z4_5; omega
            have n6_14 : (w.heap.size + 1) ≠ (a6) := by have := z6_5; omega
            have n14_6 : (a6) ≠ (w.heap.size + 1) := by have := z6_5; omega
            have n8_14 : (w.heap.size + 2) ≠ (a6) := by have := z8_5; omega
            have n14_8 : (a6) ≠ (w.heap.size + 2) := by have := z8_5; omega
            have n9_14 : (W2.heap.size) ≠ (a6) := by have := z9_5; omega
            have n14_9 : (a6) ≠ (W2.heap.size) := by have := z9_5; omega
            have n10_14 : (W2.heap.size + 1) ≠ (a6) := by have := z10_5; omega
            have n14_10 : (a6) ≠ (W2.heap.size + 1) := by have := z10_5; omega
            obtain ⟨r4_6, c4_6⟩ := keepB hw6 z4_5 r4_5 c4_5
            have z4_6 := isRow_lt r4_6
            obtain ⟨r6_6, c6_6⟩ := keepB hw6 z6_5 r6_5 c6_5
            have z6_6 := isRow_lt r6_6
            obtain ⟨r8_6, c8_6⟩ := keepB hw6 z8_5 r8_5 c8_5
            have z8_6 := isRow_lt r8_6
            obtain ⟨r9_6, c9_6⟩ := keepB hw6 z9_5 r9_5 c9_5
            have z9_6 := isRow_lt r9_6
            obtain ⟨r10_6, c10_6⟩ := keepB hw6 z10_5 r10_5 c10_5
            have z10_6 := isRow_lt r10_6
            have hb6 := hb5.trans (hw6.mono hb5.size)
            have q6 := hb6.size
            clear hw6 r4_5 c4_5 z4_5 r6_5 c6_5 z6_5 r8_5 c8_5 z8_5 r9_5 c9_5 z9_5 r10_5 c10_5 z10_5 hb5
            have z14_6 := isRow_lt m1_6
            simp only [Act.put, List.setIfInBounds_toArray, List.set_cons_zero, List.set_cons_succ]
            go_wp2
            refine atomW fun W7 e7 => ?_
            have hb7 : Below w.heap.size w W7 := by rw [e7]; (repeat (first | exact hb6 | exact Below.refl _ _ | refine Below.alloc ?_ (by first | omega | (simp; try omega)) _ | refine below_setRow ?_ (by omega) _ | refine Below.drew ?_))
            have q7 := hb7.size
            have r4_7 : IsRow W7 (w.heap.size) := by rw [e7]; simp [go_sem, r4_6, c4_6, n4_9, n4_10, n4_14, r6_6, c6_6, n6_9, n6_10, n6_14, r8_6, c8_6, n8_9, n8_10, n8_14, r9_6, c9_6, n9_4, n9_6, n9_8, n9_14, r10_6, c10_6, n10_4, n10_6, n10_8, n10_14, m1_6, m2_6, n14_4, n14_6, n14_8, n14_9, n14_10]
            have c4_7 := congrArg (fun x => blk x (w.heap.size)) e7; simp [go_sem, r4_6, c4_6, n4_9, n4_10, n4_14, r6_6, c6_6, n6_9, n6_10, n6_14, r8_6, c8_6, n8_9, n8_10, n8_14, r9_6, c9_6, n9_4, n9_6, n9_8, n9_14, r10_6, c10_6, n10_4, n10_6, n10_8, n10_14, m1_6, m2_6, n14_4, n14_6, n14_8, n14_9, n14_10] at c4_7
            have z4_7 := isRow_lt r4_7
            have r6_7 : IsRow W7 (w.heap.size + 1) := by rw [e7]; simp [go_sem, r4_6, c4_6, n4_9, n4_10, n4_14, r6_6, c6_6, n6_9, n6_10, n6_14, r8_6, c8_6, n8_9, n8_10, n8_14, r9_6, c9_6, n9_4, n9_6, n9_8, n9_14, r10_6, c10_6, n10_4, n10_6, n10_8, n10_14, m1_6, m2_6, n14_4, n14_6, n14_8, n14_9, n14_10]
            have c6_7 := congrArg (fun x => blk x (w.heap.size + 1)) e7; simp [go_sem, r4_6, c4_6, n4_9, n4_10, n4_14, r6_6, c6_6, n6_9, n6_10, n6_14, r8_6, c8_6, n8_9, n8_10, n8_14, r9_6, c9_6, n9_4, n9_6, n9_8, n9_14, r10_6, c10_6, n10_4, n10_6, n10_8, n10_14, m1_6, m2_6, n14_4, n14_6, n14_8, n14_9, n14_10] at c6_7
            have z6_7 := isRow_lt r6_7
            have r8_7 : IsRow W7 (w.heap.size + 2) := by rw [e7]; simp [go_sem, r4_6, c4_6, n4_9, n4_10, n4_14, r6_6, c6_6, n6_9, n6_10, n6_14, r8_6, c8_6, n8_9, n8_10, n8_14, r9_6, c9_6, n9_4, n9_6, n9_8, n9_14, r10_6, c10_6, n10_4, n10_6, n10_8, n10_14, m1_6, m2_6, n14_4, n14_6, n14_8, n14_9, n14_10]
            have c8_7 := congrArg (fun x => blk x (w.heap.size + 2)) e7; simp [go_sem, r4_6, c4_6, n4_9, n4_10, n4_14, r6_6, c6_6, n6_9, n6_10, n6_14, r8_6, c8_6, n8_9, n8_10, n8_14, r9_6, c9_6, n9_4, n9_6, n9_8, n9_14, r10_6, c10_6, n10_4, n10_6, n10_8, n10_14, m1_6, m2_6, n14_4, n14_6, n14_8, n14_9, n14_10] at c8_7
            have z8_7 := isRow_lt r8_7
            have r9_7 : IsRow W7 (W2.heap.size) := by rw [e7]; simp [go_sem, r4_6, c4_6, n4_9, n4_10, n4_14, r6_6, c6_6, n6_9, n6_10, n6_14, r8_6, c8_6, n8_9, n8_10, n8_14, r9_6, c9_6, n9_4, n9_6, n9_8, n9_14, r10_6, c10_6, n10_4, n10_6, n10_8, n10_14, m1_6, m2_6, n14_4, n14_6, n14_8, n14_9, n14_10]
            have c9_7 := congrArg (fun x => blk x (W2.heap.size)) e7; simp [go_sem, r4_6, c4_6, n4_9, n4_10, n4_14, r6_6, c6_6, n6_9, n6_10, n6_14, r8_6, c8_6, n8_9, n8_10, n8_14, r9_6, c9_6, n9_4, n9_6, n9_8, n9_14, r10_6, c10_6, n10_4, n10_6, n10_8, n10_14, m1_6, m2_6, n14_4, n14_6, n14_8, n14_9, n14_10] at c9_7
            have z9_7 := isRow_lt r9_7
            have r10_7 : IsRow W7 (W2.heap.size + 1) := by rw [e7]; simp [go_sem, r4_6, c4_6, n4_9, n4_10, n4_14, r6_6, c6_6, n6_9, n6_10, n6_14, r8_6, c8_6, n8_9, n8_10, n8_14, r9_6, c9_6, n9_4, n9_6, n9_8, n9_14, r10_6, c10_6, n10_4, n10_6, n10_8, n10_14, m1_6, m2_6, n14_4, n14_6, n14_8, n14_9, n14_10]
            have c10_7 := congrArg (fun x => blk x (W2.heap.size + 1)) e7; simp [go_sem, r4_6, c4_6, n4_9, n4_10, n4_14, r6_6, c6_6, n6_9, n6_10, n6_14, r8_6, c8_6, n8_9, n8_10, n8_14, r9_6, c9_6, n9_4, n9_6, n9_8, n9_14, r10_6, c10_6, n10_4, n10_6, n10_8, n10_14, m1_6, m2_6, n14_4, n14_6, n14_8, n14_9, n14_10] at c10_7
            have z10_7 := isRow_lt r10_7
            have r14_7 : IsRow W7 (a6) := by rw [e7]; simp [go_sem, r4_6, c4_6, n4_9, n4_10, n4_14, r6_6, c6_6, n6_9, n6_10, n6_14, r8_6, c8_6, n8_9, n8_10, n8_14, r9_6, c9_6, n9_4, n9_6, n9_8, n9_14, r10_6, c10_6, n10_4, n10_6, n10_8, n10_14, m1_6, m2_6, n14_4, n14_6, n14_8, n14_9, n14_10]
            have c14_7 := congrArg (fun x => blk x (a6)) e7; simp [go_sem, r4_6, c4_6, n4_9, n4_10, n4_14, r6_6, c6_6, n6_9, n6_10, n6_14, r8_6, c8_6, n8_9, n8_10, n8_14, r9_6, c9_6, n9_4, n9_6, n9_8, n9_14, r10_6, c10_6, n10_4, n10_6, n10_8, n10_14, m1_6, m2_6, n14_4, n14_6, n14_8, n14_9, n14_10] at c14_7
            have z14_7 := isRow_lt r14_7
            clear e7 r4_6 c4_6 z4_6 r6_6 c6_6 z6_6 r8_6 c8_6 z8_6 r9_6 c9_6 z9_6 r10_6 c10_6 z10_6 m1_6 m2_6 z14_6 hb6
            refine wp_quiet_tail 7 (Below W7.heap.size W7) (by kernel_rfl) (by kernel_rfl) (Below.refl _ _).drew ?_
            simp only [List.take_succ_cons, List.take_zero, List.drop_succ_cons, List.drop_zero]
            iterate 2 (refine q_plain rfl ?_; apply Exists.intro; refine ⟨fun W hW => ?_, ?_⟩; (focus (obtain ⟨x4, y4⟩ := keepB hW z4_7 r4_7 c4_7; obtain ⟨x6, y6⟩ := keepB hW z6_7 r6_7 c6_7; obtain ⟨x8, y8⟩ := keepB hW z8_7 r8_7 c8_7; obtain ⟨x9, y9⟩ := keepB hW z9_7 r9_7 c9_7; obtain ⟨x10, y10⟩ := keepB hW z10_7 r10_7 c10_7; obtain ⟨x14, y14⟩ := keepB hW z14_7 r14_7 c14_7; go_simp; first | done | rfl)); simp only [Act.put, List.setIfInBounds_toArray, List.set_cons_zero, List.set_cons_succ])
            (refine q_plain rfl ?_; apply Exists.intro; refine ⟨fun W hW => ?_, ?_⟩; (focus (obtain ⟨x4, y4⟩ := keepB hW z4_7 r4_7 c4_7; obtain ⟨x6, y6⟩ := keepB hW z6_7 r6_7 c6_7; obtain ⟨x8, y8⟩ := keepB hW z8_7 r8_7 c8_7; obtain ⟨x9, y9⟩ := keepB hW z9_7 r9_7 c9_7; obtain ⟨x10, y10⟩ := keepB hW z10_7 r10_7 c10_7; obtain ⟨x14, y14⟩ := keepB hW z14_7 r14_7 c14_7; go_simp; (go_at_call 77; exact (l01BasisAt j (by omega) _).mono fun e w2 ⟨he, hw2⟩ => ⟨he, hW.trans (hw2.mono hW.size)⟩))); simp only [Act.put, List.setIfInBounds_toArray, List.set_cons_zero, List.set_cons_succ])
            iterate 3 (refine q_plain rfl ?_; apply Exists.intro; refine ⟨fun W hW => ?_, ?_⟩; (focus (obtain ⟨x4, y4⟩ := keepB hW z4_7 r4_7 c4_7; obtain ⟨x6, y6⟩ := keepB hW z6_7 r6_7 c6_7; obtain ⟨x8, y8⟩ := keepB hW z8_7 r8_7 c8_7; obtain ⟨x9, y9⟩ := keepB hW z9_7 r9_7 c9_7; obtain ⟨x10, y10⟩ := keepB hW z10_7 r10_7 c10_7; obtain ⟨x14, y14⟩ := keepB hW z14_7 r14_7 c14_7; go_simp; first | done | rfl)); simp only [Act.put, List.setIfInBounds_toArray, List.set_cons_zero, List.set_cons_succ])
            (refine q_plain rfl ?_; apply Exists.intro; refine ⟨fun W hW => ?_, ?_⟩; (focus (obtain ⟨x4, y4⟩ := keepB hW z4_7 r4_7 c4_7; obtain ⟨x6, y6⟩ := keepB hW z6_7 r6_7 c6_7; obtain ⟨x8, y8⟩ := keepB hW z8_7 r8_7 c8_7; obtain ⟨x9, y9⟩ := keepB hW z9_7 r9_7 c9_7; obtain ⟨x10, y10⟩ := keepB hW z10_7 r10_7 c10_7; obtain ⟨x14, y14⟩ := keepB hW z14_7 r14_7 c14_7; go_simp; (go_at_call 104; exact (l01Times_any p n f _ _ _ hp hp' hn (hop_bytes HF.out) (ebas_bytes j) HK.out).mono fun e w2 ⟨he, hw2⟩ => ⟨he, hW.trans (hw2.mono hW.size)⟩))); simp only [Act.put, List.setIfInBounds_toArray, List.set_cons_zero, List.set_cons_succ])
            refine wpQuiet_nil ?_
            intro W8 hw8
            obtain ⟨r4_8, c4_8⟩ := keepB hw8 z4_7 r4_7 c4_7
            have z4_8 := isRow_lt r4_8
            obtain ⟨r6_8, c6_8⟩ := keepB hw8 z6_7 r6_7 c6_7
            have z6_8 := isRow_lt r6_8
            obtain ⟨r8_8, c8_8⟩ := keepB hw8 z8_7 r8_7 c8_7
            have z8_8 := isRow_lt r8_8
            obtain ⟨r9_8, c9_8⟩ := keepB hw8 z9_7 r9_7 c9_7
            have z9_8 := isRow_lt r9_8
            obtain ⟨r10_8, c10_8⟩ := keepB hw8 z10_7 r10_7 c10_7
            have z10_8 := isRow_lt r10_8
            obtain ⟨r14_8, c14_8⟩ := keepB hw8 z14_7 r14_7 c14_7
            have z14_8 := isRow_lt r14_8
            have hb8 := hb7.trans (hw8.mono hb7.size)
            have q8 := hb8.size
            clear hw8 r4_7 c4_7 z4_7 r6_7 c6_7 z6_7 r8_7 c8_7 z8_7 r9_7 c9_7 z9_7 r10_7 c10_7 z10_7 r14_7 c14_7 z14_7 hb7
            go_wp2_with fail
            refine atomC fun W9 e9 => ?_
            have hb9 : Below w.heap.size w W9 := by rw [e9]; (repeat (first | exact hb8 | exact Below.refl _ _ | refine Below.alloc ?_ (by first | omega | (simp; try omega)) _ | refine below_setRow ?_ (by omega) _ | refine Below.drew ?_))
            have q9 := hb9.size
            have r4_9 : IsRow W9 (w.heap.size) := by rw [e9]; simp [go_sem, r4_8, c4_8, n4_9, n4_10, n4_14, r6_8, c6_8, n6_9, n6_10, n6_14, r8_8, c8_8, n8_9, n8_10, n8_14, r9_8, c9_8, n9_4, n9_6, n9_8, n9_14, r10_8, c10_8, n10_4, n10_6, n10_8, n10_14, r14_8]
            have c4_9 := congrArg (fun x => blk x (w.heap.size)) e9; simp [go_sem, r4_8, c4_8, n4_9, n4_10, n4_14, r6_8, c6_8, n6_9, n6_10, n6_14, r8_8, c8_8, n8_9, n8_10, n8_14, r9_8, c9_8, n9_4, n9_6, n9_8, n9_14, r10_8, c10_8, n10_4, n10_6, n10_8, n10_14, r14_8] at c4_9
            have z4_9 := isRow_lt r4_9
            have r6_9 : IsRow W9 (w.heap.size + 1) := by rw [e9]; simp [go_sem, r4_8, c4_8, n4_9, n4_10, n4_14, r6_8, c6_8, n6_9, n6_10, n6_14, r8_8, c8_8, n8_9, n8_10, n8_14, r9_8, c9_8, n9_4, n9_6, n9_8, n9_14, r10_8, c10_8, n10_4, n10_6, n10_8, n10_14, r14_8]
            have c6_9 := congrArg (fun x => blk x (w.heap.size + 1)) e9; simp [go_sem, r4_8, c4_8, n4_9, n4_10, n4_14, r6_8, c6_8, n6_9, n6_10, n6_14, r8_8, c8_8, n8_9, n8_10, n8_14, r9_8, c9_8, n9_4, n9_6, n9_8, n9_14, r10_8, c10_8, n10_4, n10_6, n10_8, n10_14, r14_8] at c6_9
            have z6_9 := isRow_lt r6_9
            have r8_9 : IsRow W9 (w.heap.size + 2) := by rw [e9]; simp [go_sem, r4_8, c4_8, n4_9, n4_10, n4_14, r6_8, c6_8, n6_9, n6_10, n6_14, r8_8, c8_8, n8_9, n8_10, n8_14, r9_8, c9_8, n9_4, n9_6, n9_8, n9_14, r10_8, c10_8, n10_4, n10_6, n10_8, n10_14, r14_8]
            have c8_9 := congrArg (fun x => blk x (w.heap.size + 2)) e9; simp [go_sem, r4_8, c4_8, n4_9, n4_10, n4_14, r6_8, c6_8, n6_9, n6_10, n6_14, r8_8, c8_8, n8_9, n8_10, n8_14, r9_8, c9_8, n9_4, n9_6, n9_8, n9_14, r10_8, c10_8, n10_4, n10_6, n10_8, n10_14, r14_8] at c8_9
            have z8_9 := isRow_lt r8_9
            have r9_9 : IsRow W9 (W2.heap.size) := by rw [e9]; simp [go_sem, r4_8, c4_8, n4_9, n4_10, n4_14, r6_8, c6_8, n6_9, n6_10, n6_14, r8_8, c8_8, n8_9, n8_10, n8_14, r9_8, c9_8, n9_4, n9_6, n9_8, n9_14, r10_8, c10_8, n10_4, n10_6, n10_8, n10_14, r14_8]
            have c9_9 := congrArg (fun x => blk x (W2.heap.size)) e9; simp [go_sem, r4_8, c4_8, n4_9, n4_10, n4_14, r6_8, c6_8, n6_9, n6_10, n6_14, r8_8, c8_8, n8_9, n8_10, n8_14, r9_8, c9_8, n9_4, n9_6, n9_8, n9_14, r10_8, c10_8, n10_4, n10_6, n10_8, n10_14, r14_8] at c9_9
            have z9_9 := isRow_lt r9_9
            have r10_9 : IsRow W9 (W2.heap.size + 1) := by rw [e9]; simp [go_sem, r4_8, c4_8, n4_9, n4_10, n4_14, r6_8, c6_8, n6_9, n6_10, n6_14, r8_8, c8_8, n8_9, n8_10, n8_14, r9_8, c9_8, n9_4, n9_6, n9_8, n9_14, r10_8, c10_8, n10_4, n10_6, n10_8, n10_14, r14_8]
            have c10_9 := congrArg (fun x => blk x (W2.heap.size + 1)) e9; simp [go_sem, r4_8, c4_8, n4_9, n4_10, n4_14, r6_8, c6_8, n6_9, n6_10, n6_14, r8_8, c8_8, n8_9, n8_10, n8_14, r9_8, c9_8, n9_4, n9_6, n9_8, n9_14, r10_8, c10_8, n10_4, n10_6, n10_8, n10_14, r14_8] at c10_9
            have z10_9 := isRow_lt r10_9
            clear e9 r4_8 c4_8 z4_8 r6_8 c6_8 z6_8 r8_8 c8_8 z8_8 r9_8 c9_8 z9_8 r10_8 c10_8 z10_8 hb8
            refine (l01Add_any _ _ _ (ownF p n f S true j k) _ hp hp' (by omega) (by omega) HX.out HW.out).mono ?_; rintro _ W10 ⟨rfl, hw10⟩
            obtain ⟨r4_10, c4_10⟩ := keepB hw10 z4_9 r4_9 c4_9
            have z4_10 := isRow_lt r4_10
            obtain ⟨r6_10, c6_10⟩ := keepB hw10 z6_9 r6_9 c6_9
            have z6_10 := isRow_lt r6_10
            obtain ⟨r8_10, c8_10⟩ := keepB hw10 z8_9 r8_9 c8_9
            have z8_10 := isRow_lt r8_10
            obtain ⟨r9_10, c9_10⟩ := keepB hw10 z9_9 r9_9 c9_9
            have z9_10 := isRow_lt r9_10
            obtain ⟨r10_10, c10_10⟩ := keepB hw10 z10_9 r10_9 c10_9
            have z10_10 := isRow_lt r10_10
            have hb10 := hb9.trans (hw10.mono hb9.size)
            have q10 := hb10.size
            clear hw10 r4_9 c4_9 z4_9 r6_9 c6_9 z6_9 r8_9 c8_9 z8_9 r9_9 c9_9 z9_9 r10_9 c10_9 z10_9 hb9
            go_wp2
            go_roundw
            case rel => exact ⟨k + 1, by omega, by go_num, (by (repeat (first | exact hb10 | exact Below.refl _ _ | refine Below.alloc ?_ (by first | omega | (simp; try omega)) _ | refine below_setRow ?_ (by omega) _ | refine Below.drew ?_))), ⟨by simp [go_sem, r4_10, c4_10, n4_9, n4_10, r6_10, c6_10, n6_9, n6_10, r8_10, c8_10, n8_9, n8_10, r9_10, c9_10, n9_4, n9_6, n9_8, r10_10, c10_10, n10_4, n10_6, n10_8], (by rw [E4_5.out]; first | exact c4_10 | (simp [go_sem, r4_10, c4_10, n4_9, n4_10, r6_10, c6_10, n6_9, n6_10, r8_10, c8_10, n8_9, n8_10, r9_10, c9_10, n9_4, n9_6, n9_8, r10_10, c10_10, n10_4, n10_6, n10_8]; done))⟩, ⟨by simp [go_sem, r4_10, c4_10, n4_9, n4_10, r6_10, c6_10, n6_9, n6_10, r8_10, c8_10, n8_9, n8_10, r9_10, c9_10, n9_4, n9_6, n9_8, r10_10, c10_10, n10_4, n10_6, n10_8], (by rw [E6_5.out]; first | exact c6_10 | (simp [go_sem, r4_10, c4_10, n4_9, n4_10, r6_10, c6_10, n6_9, n6_10, r8_10, c8_10, n8_9, n8_10, r9_10, c9_10, n9_4, n9_6, n9_8, r10_10, c10_10, n10_4, n10_6, n10_8]; done))⟩, ⟨by simp [go_sem, r4_10, c4_10, n4_9, n4_10, r6_10, c6_10, n6_9, n6_10, r8_10, c8_10, n8_9, n8_10, r9_10, c9_10, n9_4, n9_6, n9_8, r10_10, c10_10, n10_4, n10_6, n10_8], (by rw [E8_5.out]; first | exact c8_10 | (simp [go_sem, r4_10, c4_10, n4_9, n4_10, r6_10, c6_10, n6_9, n6_10, r8_10, c8_10, n8_9, n8_10, r9_10, c9_10, n9_4, n9_6, n9_8, r10_10, c10_10, n10_4, n10_6, n10_8]; done))⟩, ⟨by simp [go_sem, r4_10, c4_10, n4_9, n4_10, r6_10, c6_10, n6_9, n6_10, r8_10, c8_10, n8_9, n8_10, r9_10, c9_10, n9_4, n9_6, n9_8, r10_10, c10_10, n10_4, n10_6, n10_8], (by first | (rw [blk_setRow _ _ _ _ r9_10, if_pos rfl]; exact fd_step p n f S true i j k) | exact (c9_10).trans (fd_step p n f S true i j k) | (simp [go_sem, r4_10, c4_10, n4_9, n4_10, r6_10, c6_10, n6_9, n6_10, r8_10, c8_10, n8_9, n8_10, r9_10, c9_10, n9_4, n9_6, n9_8, r10_10, c10_10, n10_4, n10_6, n10_8]; exact fd_step p n f S true i j k))⟩, ⟨by simp [go_sem, r4_10, c4_10, n4_9, n4_10, r6_10, c6_10, n6_9, n6_10, r8_10, c8_10, n8_9, n8_10, r9_10, c9_10, n9_4, n9_6, n9_8, r10_10, c10_10, n10_4, n10_6, n10_8], (by rw [E10_5.out]; first | exact c10_10 | (simp [go_sem, r4_10, c4_10, n4_9, n4_10, r6_10, c6_10, n6_9, n6_10, r8_10, c8_10, n8_9, n8_10, r9_10, c9_10, n9_4, n9_6, n9_8, r10_10, c10_10, n10_4, n10_6, n10_8]; done))⟩⟩
            case measure => simp [intOf]; omega
        · skip
          obtain rfl : n = k := by omega
          go_wp2
          go_roundw
          case rel => exact ⟨j + 1, by omega, by go_num, (by (repeat (first | exact hb5 | exact Below.refl _ _ | refine Below.alloc ?_ (by first | omega | (simp; try omega)) _ | refine below_setRow ?_ (by omega) _ | refine Below.drew ?_))), ⟨by simp [go_sem, r4_5, c4_5, n4_9, n4_10, r6_5, c6_5, n6_9, n6_10, r8_5, c8_5, n8_9, n8_10, r9_5, c9_5, n9_4, n9_6, n9_8, r10_5, c10_5, n10_4, n10_6, n10_8], (by rw [E4_4.out]; first | exact c4_5 | (simp [go_sem, r4_5, c4_5, n4_9, n4_10, r6_5, c6_5, n6_9, n6_10, r8_5, c8_5, n8_9, n8_10, r9_5, c9_5, n9_4, n9_6, n9_8, r10_5, c10_5, n10_4, n10_6, n10_8]; done))⟩, ⟨by simp [go_sem, r4_5, c4_5, n4_9, n4_10, r6_5, c6_5, n6_9, n6_10, r8_5, c8_5, n8_9, n8_10, r9_5, c9_5, n9_4, n9_6, n9_8, r10_5, c10_5, n10_4, n10_6, n10_8], (by rw [E6_4.out]; first | exact c6_5 | (simp [go_sem, r4_5, c4_5, n4_9, n4_10, r6_5, c6_5, n6_9, n6_10, r8_5, c8_5, n8_9, n8_10, r9_5, c9_5, n9_4, n9_6, n9_8, r10_5, c10_5, n10_4, n10_6, n10_8]; done))⟩, ⟨by simp [go_sem, r4_5, c4_5, n4_9, n4_10, r6_5, c6_5, n6_9, n6_10, r8_5, c8_5, n8_9, n8_10, r9_5, c9_5, n9_4, n9_6, n9_8, r10_5, c10_5, n10_4, n10_6, n10_8], (by rw [E8_4.out]; first | exact c8_5 | (simp [go_sem, r4_5, c4_5, n4_9, n4_10, r6_5, c6_5, n6_9, n6_10, r8_5, c8_5, n8_9, n8_10, r9_5, c9_5, n9_4, n9_6, n9_8, r10_5, c10_5, n10_4, n10_6, n10_8]; done))⟩, ⟨by simp [go_sem, r4_5, c4_5, n4_9, n4_10, r6_5, c6_5, n6_9, n6_10, r8_5, c8_5, n8_9, n8_10, r9_5, c9_5, n9_4, n9_6, n9_8, r10_5, c10_5, n10_4, n10_6, n10_8], (by first | exact (c9_5).trans (fd_row p n f S true i j) | (simp [go_sem, r4_5, c4_5, n4_9, n4_10, r6_5, c6_5, n6_9, n6_10, r8_5, c8_5, n8_9, n8_10, r9_5, c9_5, n9_4, n9_6, n9_8, r10_5, c10_5, n10_4, n10_6, n10_8]; exact fd_row p n f S true i j))⟩, ⟨by simp [go_sem, r4_5, c4_5, n4_9, n4_10, r6_5, c6_5, n6_9, n6_10, r8_5, c8_5, n8_9, n8_10, r9_5, c9_5, n9_4, n9_6, n9_8, r10_5, c10_5, n10_4, n10_6, n10_8], (by rw [E10_4.out]; first | exact c10_5 | (simp [go_sem, r4_5, c4_5, n4_9, n4_10, r6_5, c6_5, n6_9, n6_10, r8_5, c8_5, n8_9, n8_10, r9_5, c9_5, n9_4, n9_6, n9_8, r10_5, c10_5, n10_4, n10_6, n10_8]; done))⟩⟩
          case measure => simp [intOf]; omega
    · skip
      obtain rfl : n = j := by omega
      go_wp2_with fail
      refine bodyPost_ret (result_cell rfl aggVec _ _ (row 8 (fdK p n f S true i n 0)) _ rfl ?_ ?_) rfl ⟨rfl, ?_⟩
      · simp [go_sem, r4_4, c4_4, n4_9, n4_10, r6_4, c6_4, n6_9, n6_10, r8_4, c8_4, n8_9, n8_10, r9_4, c9_4, n9_4, n9_6, n9_8, r10_4, c10_4, n10_4, n10_6, n10_8]
      · simp [go_sem, r4_4, c4_4, n4_9, n4_10, r6_4, c6_4, n6_9, n6_10, r8_4, c8_4, n8_9, n8_10, r9_4, c9_4, n9_4, n9_6, n9_8, r10_4, c10_4, n10_4, n10_6, n10_8]
      · repeat (first | exact hb4 | exact Below.refl _ _ | refine Below.alloc ?_ (by first | omega | (simp; try omega)) _ | refine below_setRow ?_ (by omega) _ | refine Below.drew ?_)

end Go.Proofs.Ytnjjcimpcnennaa
