/- OppositeAlgebra of both, and the walk of the law. -/
import Derived.Test.YtkcddfpchkjcgaaP23
import Derived.Test.YtkcddfpchkjcgaaP21
namespace Go.Proofs.Ytkcddfpchkjcgaa
open Go.RowKit
set_option linter.unusedSimpArgs false
set_option linter.unusedVariables false
attribute [local irreducible] wpQuiet wpQE

/-- as oppK, of a table, with zeros elsewhere -/
def outK (n i j : Nat) (F : Nat → Int) : Nat → Int := fun u =>
  if (u / 64 < i ∧ u / 8 % 8 < n) ∨ (u / 64 = i ∧ u / 8 % 8 < j) then F (u / 8 % 8 * 64 + (u / 64 * 8 + u % 8)) else 0
theorem out_zero (n : Nat) (F : Nat → Int) : outK n 0 0 F = zf := by
  funext t; unfold outK zf; rw [if_neg (by omega)]
theorem out_row (n i : Nat) (F : Nat → Int) : outK n i n F = outK n (i + 1) 0 F := by
  funext t
  unfold outK
  by_cases h : (t / 64 < i ∧ t / 8 % 8 < n) ∨ (t / 64 = i ∧ t / 8 % 8 < n)
  · rw [if_pos h, if_pos (by omega)]
  · rw [if_neg h, if_neg (by omega)]
theorem out_step (n i j : Nat) (F : Nat → Int) (hi : i < 8) (hj : j < 8) : lay (row 512 (outK n i j F)) (i * 64 + j * 8) (row 8 fun r => F (j * 64 + i * 8 + r)) = row 512 (outK n i (j + 1) F) := by
  rw [lay_row _ _ _ _ _ (by omega)]
  refine row_congr fun t _ => ?_
  unfold outK
  by_cases h : i * 64 + j * 8 ≤ t ∧ t < i * 64 + j * 8 + 8
  · rw [if_pos h, if_pos (by omega)]
    congr 1
    omega
  · rw [if_neg h]
    by_cases h2 : (t / 64 < i ∧ t / 8 % 8 < n) ∨ (t / 64 = i ∧ t / 8 % 8 < j)
    · rw [if_pos h2, if_pos (by omega)]
    · rw [if_neg h2, if_neg (by omega)]
/-- on an algebra's table both are the same -/
theorem opp_agree {p : Int} {n : Nat} {f : Nat → Int} (h : shapeB p n f = true) : lay (alg p n f) 10 (row 512 (outK n n 0 (tab f))) = alg p n (oppK n n 0 f) := by
  rw [show (10 : Nat) = 2 + 8 from rfl, lay_alg _ _ _ _ _ _ (by omega)]
  refine alg_congr fun t ht => ?_
  by_cases h8 : 8 ≤ t
  · rw [if_pos ⟨h8, by omega⟩]
    unfold outK oppK
    by_cases hc : ((t - 8) / 64 < n ∧ (t - 8) / 8 % 8 < n) ∨ ((t - 8) / 64 = n ∧ (t - 8) / 8 % 8 < 0)
    · rw [if_pos hc, if_pos ⟨h8, hc⟩]; rfl
    · rw [if_neg hc, if_neg (by omega)]
      have := tab_zero h (t - 8) (by omega) (by omega)
      unfold tab at this
      rw [show 8 + (t - 8) = t by omega] at this
      exact this.symm
  · rw [if_neg (by omega)]
    unfold oppK
    rw [if_neg (by omega)]

set_option maxRecDepth 100000 in
set_option maxHeartbeats 1000000 in
theorem l01Opposite_any (n : Nat) (F : Nat → Int) (w : World) (hn : n ≤ 8) :
    Calls Try.prog 127 #[.int .i64 n, .agg (row 512 F)] w fun e w' => e = .returned (.agg (row 512 (outK n n 0 F))) ∧ Below w.heap.size w w' := by
  go_enter Try.func127, Try.ntmps127
  go_wp2
  go_loopw [6] (fun s wr => ∃ i : Nat, i ≤ n ∧ s = .int .i64 i ∧ Below w.heap.size w wr ∧ (IsRow wr w.heap.size ∧ blk wr w.heap.size = row 512 F) ∧ (IsRow wr (w.heap.size + 1) ∧ blk wr (w.heap.size + 1) = row 512 zf) ∧
      (IsRow wr (w.heap.size + 2) ∧ blk wr (w.heap.size + 2) = row 512 (outK n i 0 F))) (fun s _ => n - (intOf s).toNat)
  case atStart =>
    refine ⟨0, by omega, rfl, ?_, by simp [go_sem], by simp [go_sem], by simp [go_sem], ?_⟩
    · first | exact (((Below.refl _ _).alloc (Nat.le_refl _) _).alloc (by simp) _).alloc (by simp; omega) _ | exact below_setRow ((((Below.refl _ _).alloc (Nat.le_refl _) _).alloc (by simp) _).alloc (by simp; omega) _) (by omega) _
    · rw [out_zero]; simp [go_sem]
  case round =>
    obtain ⟨i, hi, rfl, hb, ⟨r0, c0⟩, ⟨r1, c1⟩, ⟨r2, c2⟩⟩ := hrel
    by_cases hlt : i < n
    · have hi8 : (i : Int) < 8 := by omega
      have hi8' : i < 8 := by omega
      go_wp2
      obtain ⟨wo, rfl⟩ : ∃ wo : World, wo = wr := ⟨_, rfl⟩
      go_loopw [7] (fun s wr => ∃ j : Nat, j ≤ n ∧ s = .int .i64 j ∧ Below w.heap.size w wr ∧ (IsRow wr w.heap.size ∧ blk wr w.heap.size = row 512 F) ∧ (IsRow wr (w.heap.size + 1) ∧ blk wr (w.heap.size + 1) = row 512 zf) ∧
          (IsRow wr (w.heap.size + 2) ∧ blk wr (w.heap.size + 2) = row 512 (outK n i j F))) (fun s _ => n - (intOf s).toNat)
      case atStart => exact ⟨0, by omega, rfl, hb, ⟨r0, c0⟩, ⟨r1, c1⟩, r2, c2⟩
      case round =>
        obtain ⟨j, hj, rfl, hb', ⟨s0, d0⟩, ⟨s1, d1⟩, ⟨s2, d2⟩⟩ := hrel
        clear hb r0 c0 r1 c1 r2 c2
        have z0 := isRow_lt s0
        have z1 := isRow_lt s1
        have z2 := isRow_lt s2
        by_cases hjt : j < n
        · have hj8 : (j : Int) < 8 := by omega
          have hj8' : j < 8 := by omega
          have l1 : j * 64 + i * 8 + 8 ≤ 512 := by omega
          have l2 : i * 64 + j * 8 + 8 ≤ 512 := by omega
          have e1 : (row 512 F).extract (j * 64 + i * 8) (j * 64 + i * 8 + 8) = row 8 fun r => F (j * 64 + i * 8 + r) := by rw [row_extract _ _ _ _ l1, Nat.add_sub_cancel_left]
          have HS := Lib.hid (out_step n i j F hi8' hj8')
          have HC : ∀ W, Below wr.heap.size wr W → (IsRow W w.heap.size ∧ blk W w.heap.size = row 512 F) ∧ (IsRow W (w.heap.size + 2) ∧ blk W (w.heap.size + 2) = row 512 (outK n i j F)) := fun W h => ⟨keepB h z0 s0 d0, keepB h z2 s2 d2⟩
          go_wp2
          refine wp_quiet_tail 9 (Below wr.heap.size wr) (by kernel_rfl) (by kernel_rfl) (Below.refl _ _).drew ?_
          simp only [List.take_succ_cons, List.take_zero, List.drop_succ_cons, List.drop_zero]
          repeat (first | (refine q_plain rfl ?_; apply Exists.intro; refine ⟨fun W hW => ?_, ?_⟩; (focus (obtain ⟨⟨x1, x2⟩, x3, x4⟩ := HC W hW; go_simp; first | done | rfl | (fail))); simp only [Act.put, List.setIfInBounds_toArray, List.set_cons_zero, List.set_cons_succ]) | (refine q_skip (by rfl) ?_; simp only [Act.put, List.setIfInBounds_toArray, List.set_cons_zero, List.set_cons_succ]) | (refine q_want (by rfl) ?_; apply Exists.intro; refine ⟨fun W hW => ?_, ?_⟩; (focus (obtain ⟨⟨x1, x2⟩, x3, x4⟩ := HC W hW; go_simp; first | done | rfl | (fail))); simp only [Act.put, List.setIfInBounds_toArray, List.set_cons_zero, List.set_cons_succ]))
          refine wpQuiet_nil ?_
          intro W hW
          obtain ⟨⟨x1, x2⟩, x3, x4⟩ := HC W hW
          have y1 := keepB hW z1 s1 d1
          go_wp2
          go_roundw
          case rel =>
            refine ⟨j + 1, by omega, by go_num, below_setRow (hb'.trans (hW.mono hb'.size)) (by omega) _, by simp [go_sem, x1, x2, x3], by simp [go_sem, y1, x3], by simp [go_sem, x3], ?_⟩
            rw [blk_setRow _ _ _ _ x3, if_pos rfl]
            exact HS.out
          case measure => simp [intOf]; omega
        · obtain rfl : j = n := by omega
          have HT := Lib.hid (out_row j i F)
          rw [HT.out] at d2
          go_wp2
          go_roundw
          case rel => exact ⟨i + 1, by omega, by go_num, hb', ⟨s0, d0⟩, ⟨s1, d1⟩, s2, d2⟩
          case measure => simp [intOf]; omega
    · obtain rfl : i = n := by omega
      go_wp2
      refine bodyPost_ret (result_cell rfl aggTab _ _ (row 512 (outK i i 0 F)) _ rfl ?_ ?_) rfl ⟨rfl, ?_⟩
      · simp [go_sem, r1, c1]
      · simp [go_sem, r1, c1]
      · exact below_setRow hb (by omega) _

set_option maxRecDepth 100000 in
theorem eqTable_same (v : Nat → Int) (w : World) :
    Calls Try.prog 187 #[.agg (row 512 v), .agg (row 512 v)] w fun e w' => e = .returned (.bool true) ∧ Below w.heap.size w w' := by
  go_enter Try.func187, Try.ntmps187
  go_wp2
  go_loopw [5] (fun i wr => ∃ k : Nat, k ≤ 8 ∧ i = .int .i64 k ∧ Below w.heap.size w wr ∧ (IsRow wr w.heap.size ∧ blk wr w.heap.size = row 512 v) ∧ (IsRow wr (w.heap.size + 1) ∧ blk wr (w.heap.size + 1) = row 512 v)) (fun i _ => 8 - (intOf i).toNat)
  case atStart => exact ⟨0, by omega, rfl, ((Below.refl _ _).alloc (Nat.le_refl _) _).alloc (by simp) _, by simp [go_sem], by simp [go_sem]⟩
  case round =>
    obtain ⟨k, hk, rfl, hb, ⟨r0, c0⟩, ⟨r1, c1⟩⟩ := hrel
    by_cases hlt : k < 8
    · have hi8 : (k : Int) < 8 := by omega
      have hk8 : k * 64 + 64 ≤ 512 := by omega
      have z0 := isRow_lt r0
      have z1 := isRow_lt r1
      have HC : ∀ W, Below wr.heap.size wr W → (IsRow W w.heap.size ∧ blk W w.heap.size = row 512 v) ∧ (IsRow W (w.heap.size + 1) ∧ blk W (w.heap.size + 1) = row 512 v) := fun W h => ⟨keepB h z0 r0 c0, keepB h z1 r1 c1⟩
      have hbz := hb.size
      go_wp2
      refine wp_quiet_all (Below wr.heap.size wr) (by kernel_rfl) (by kernel_rfl) (Below.refl _ _).drew ?_
      repeat (first | (refine q_plain rfl ?_; apply Exists.intro; refine ⟨fun W hW => ?_, ?_⟩; (focus (obtain ⟨⟨x1, x2⟩, x3, x4⟩ := HC W hW; go_simp; first | done | rfl | ((go_at_call 104; exact (eqLinear_same _ _).mono fun e w2 ⟨he, hw2⟩ => ⟨he, hW.trans (hw2.mono hW.size)⟩)))); simp only [Act.put, List.setIfInBounds_toArray, List.set_cons_zero, List.set_cons_succ]) | (refine q_skip (by rfl) ?_; simp only [Act.put, List.setIfInBounds_toArray, List.set_cons_zero, List.set_cons_succ]) | (refine q_want (by rfl) ?_; apply Exists.intro; refine ⟨fun W hW => ?_, ?_⟩; (focus (obtain ⟨⟨x1, x2⟩, x3, x4⟩ := HC W hW; go_simp; first | done | rfl | ((go_at_call 104; exact (eqLinear_same _ _).mono fun e w2 ⟨he, hw2⟩ => ⟨he, hW.trans (hw2.mono hW.size)⟩)))); simp only [Act.put, List.setIfInBounds_toArray, List.set_cons_zero, List.set_cons_succ]))
      refine wpQuiet_nil ?_
      intro W hW
      obtain ⟨⟨x1, x2⟩, x3, x4⟩ := HC W hW
      have hb2 := hb.trans (hW.mono hbz)
      go_wp2
      go_roundw
      case rel => exact ⟨k + 1, by omega, by go_num, hb2, ⟨x1, x2⟩, x3, x4⟩
      case measure => simp [intOf]; omega
    · go_wp2
      go_ret
      exact ⟨rfl, hb⟩


set_option maxRecDepth 100000 in
theorem eqAlgebra_same (p n : Int) (f : Nat → Int) (w : World) :
    Calls Try.prog 107 #[.agg (alg p n f), .agg (alg p n f)] w fun e w' => e = .returned (.bool true) ∧ Below w.heap.size w w' := by
  go_enter Try.func107, Try.ntmps107
  go_wp2_with fail
  refine (eqVector_same _ _).mono ?_; rintro e w1 ⟨rfl, hw1⟩
  obtain ⟨x0, y0⟩ := keepB (b := w.heap.size) (c := alg p n f) hw1 (by simp <;> omega) (by simp [go_sem]) (by simp [go_sem])
  obtain ⟨x1, y1⟩ := keepB (b := w.heap.size + 1) (c := alg p n f) hw1 (by simp <;> omega) (by simp [go_sem]) (by simp [go_sem])
  have hb1 : Below w.heap.size w w1 := Below.trans (((Below.refl w.heap.size w).alloc (Nat.le_refl _) (.cells (alg p n f) 31)).alloc (by simp) (.cells (alg p n f) 31)) (hw1.mono (by simp <;> omega))
  clear hw1
  go_wp2_with fail
  refine (eqTable_same _ _).mono ?_; rintro e w2 ⟨rfl, hw2⟩
  have hb2 := hb1.trans (hw2.mono hb1.size)
  go_wp2_with fail
  go_ret
  exact ⟨rfl, hb2⟩

set_option maxRecDepth 100000 in
theorem specOpposite_bad (p n : Int) (f : Nat → Int) (w : World) (hF : Bytes 520 f) (ha : algB p n f = false) :
    Calls Try.prog 35 #[.agg (alg p n f)] w fun e w' => e = .returned (.tuple #[.agg (alg 0 0 zf), .int .i64 1]) ∧ Below w.heap.size w w' := by
  have HF := Lib.hid hF
  clear hF
  go_enter Try.func35, Try.ntmps35
  go_wp2_with fail
  refine (l01Is_any _ _ _ _ HF.out).mono ?_
  rintro e w1 ⟨rfl, hw1⟩
  obtain ⟨x0, y0⟩ := keepB (b := w.heap.size) (c := alg p n f) hw1 (by simp <;> omega) (by simp [go_sem]) (by simp [go_sem])
  obtain ⟨x1, y1⟩ := keepB (b := w.heap.size + 1) (c := alg 0 0 zf) hw1 (by simp <;> omega) (by simp [go_sem]) (by simp [go_sem])
  have hb1 : Below w.heap.size w w1 := Below.trans (((Below.refl w.heap.size w).alloc (Nat.le_refl _) (.cells (alg p n f) 31)).alloc (by simp) (.cells (alg 0 0 zf) 31)) (hw1.mono (by simp <;> omega))
  clear hw1
  have z1 := isRow_lt x1
  have z0 := isRow_lt x0
  go_wp2_with fail
  refine bodyPost_ret (result_cell_tmp rfl aggAlg _ _ (alg 0 0 zf) _ _ rfl rfl ?_ ?_) rfl ⟨rfl, ?_⟩
  · simp [go_sem, x1, y1]
  · simp [go_sem, x1, y1]
  · exact below_setRow hb1 (by omega) _
set_option maxRecDepth 100000 in
theorem specOpposite_good (p : Int) (n : Nat) (f : Nat → Int) (w : World) (hF : Bytes 520 f) (ha : algB p n f = true) (hn : n ≤ 8) (hs : shapeB p n f = true) :
    Calls Try.prog 35 #[.agg (alg p n f)] w fun e w' => e = .returned (.tuple #[.agg (alg p n (oppK n n 0 f)), .int .i64 0]) ∧ Below w.heap.size w w' := by
  have HF := Lib.hid hF
  have HO := opp_agree hs
  clear hF hs
  go_enter Try.func35, Try.ntmps35
  go_wp2_with fail
  refine (l01Is_any _ _ _ _ HF.out).mono ?_
  rintro e w1 ⟨rfl, hw1⟩
  obtain ⟨x0, y0⟩ := keepB (b := w.heap.size) (c := alg p n f) hw1 (by simp <;> omega) (by simp [go_sem]) (by simp [go_sem])
  obtain ⟨x1, y1⟩ := keepB (b := w.heap.size + 1) (c := alg 0 0 zf) hw1 (by simp <;> omega) (by simp [go_sem]) (by simp [go_sem])
  have hb1 : Below w.heap.size w w1 := Below.trans (((Below.refl w.heap.size w).alloc (Nat.le_refl _) (.cells (alg p n f) 31)).alloc (by simp) (.cells (alg 0 0 zf) 31)) (hw1.mono (by simp <;> omega))
  clear hw1
  have z1 := isRow_lt x1
  have z0 := isRow_lt x0
  go_wp2_with fail
  refine (l01Opposite_any n (tab f) _ hn).mono ?_; rintro e w2 ⟨rfl, hw2⟩
  obtain ⟨s0, d0⟩ := keepB hw2 z0 x0 y0
  obtain ⟨s1, d1⟩ := keepB hw2 z1 x1 y1
  have hb2 := hb1.trans (hw2.mono hb1.size)
  clear hw2
  go_wp2_with fail
  refine bodyPost_ret (result_cell_tmp rfl aggAlg _ _ (alg p n (oppK n n 0 f)) _ _ rfl rfl ?_ ?_) rfl ⟨rfl, ?_⟩
  · simp [go_sem, s0, d0, s1, d1, HO]
  · simp [go_sem, s0, d0, s1, d1, HO]
  · first | exact below_setRow hb2 (by omega) _ | exact below_setRow (below_setRow hb2 (by omega) _) (by omega) _

set_option maxRecDepth 100000 in
theorem implOpposite_bad (p n : Int) (f : Nat → Int) (w : World) (hF : Bytes 520 f) (ha : algB p n f = false) :
    Calls Try.prog 36 #[.agg (alg p n f)] w fun e w' => e = .returned (.tuple #[.agg (alg 0 0 zf), .int .i64 1]) ∧ Below w.heap.size w w' := by
  have HF := Lib.hid hF
  clear hF
  go_enter Try.func36, Try.ntmps36
  go_wp2_with fail
  refine (isAlgebra_any _ _ _ _ HF.out).mono ?_
  rintro e w1 ⟨rfl, hw1⟩
  obtain ⟨x0, y0⟩ := keepB (b := w.heap.size) (c := alg p n f) hw1 (by simp <;> omega) (by simp [go_sem]) (by simp [go_sem])
  obtain ⟨x1, y1⟩ := keepB (b := w.heap.size + 1) (c := alg 0 0 zf) hw1 (by simp <;> omega) (by simp [go_sem]) (by simp [go_sem])
  have hb1 : Below w.heap.size w w1 := Below.trans (((Below.refl w.heap.size w).alloc (Nat.le_refl _) (.cells (alg p n f) 31)).alloc (by simp) (.cells (alg 0 0 zf) 31)) (hw1.mono (by simp <;> omega))
  clear hw1
  have z1 := isRow_lt x1
  have z0 := isRow_lt x0
  go_wp2_with fail
  refine bodyPost_ret (result_cell_tmp rfl aggAlg _ _ (alg 0 0 zf) _ _ rfl rfl ?_ ?_) rfl ⟨rfl, ?_⟩
  · simp [go_sem, x1, y1]
  · simp [go_sem, x1, y1]
  · exact below_setRow hb1 (by omega) _
set_option maxRecDepth 100000 in
theorem implOpposite_good (p : Int) (n : Nat) (f : Nat → Int) (w : World) (hF : Bytes 520 f) (ha : algB p n f = true) (hn : n ≤ 8) (hs : shapeB p n f = true) :
    Calls Try.prog 36 #[.agg (alg p n f)] w fun e w' => e = .returned (.tuple #[.agg (alg p n (oppK n n 0 f)), .int .i64 0]) ∧ Below w.heap.size w w' := by
  have HF := Lib.hid hF
  have HO := opp_agree hs
  clear hF hs
  go_enter Try.func36, Try.ntmps36
  go_wp2_with fail
  refine (isAlgebra_any _ _ _ _ HF.out).mono ?_
  rintro e w1 ⟨rfl, hw1⟩
  obtain ⟨x0, y0⟩ := keepB (b := w.heap.size) (c := alg p n f) hw1 (by simp <;> omega) (by simp [go_sem]) (by simp [go_sem])
  obtain ⟨x1, y1⟩ := keepB (b := w.heap.size + 1) (c := alg 0 0 zf) hw1 (by simp <;> omega) (by simp [go_sem]) (by simp [go_sem])
  have hb1 : Below w.heap.size w w1 := Below.trans (((Below.refl w.heap.size w).alloc (Nat.le_refl _) (.cells (alg p n f) 31)).alloc (by simp) (.cells (alg 0 0 zf) 31)) (hw1.mono (by simp <;> omega))
  clear hw1
  have z1 := isRow_lt x1
  have z0 := isRow_lt x0
  go_wp2_with fail
  refine (opposite_any p n f _ hn).mono ?_; rintro e w2 ⟨rfl, hw2⟩
  obtain ⟨s0, d0⟩ := keepB hw2 z0 x0 y0
  obtain ⟨s1, d1⟩ := keepB hw2 z1 x1 y1
  have hb2 := hb1.trans (hw2.mono hb1.size)
  clear hw2
  go_wp2_with fail
  refine bodyPost_ret (result_cell_tmp rfl aggAlg _ _ (alg p n (oppK n n 0 f)) _ _ rfl rfl ?_ ?_) rfl ⟨rfl, ?_⟩
  · simp [go_sem, s0, d0, s1, d1, HO]
  · simp [go_sem, s0, d0, s1, d1, HO]
  · first | exact below_setRow hb2 (by omega) _ | exact below_setRow (below_setRow hb2 (by omega) _) (by omega) _

set_option maxRecDepth 100000 in
set_option maxHeartbeats 1000000 in
theorem lawOpposite_of (p n a b c : Int) (f g : Nat → Int)
    (hS : ∀ w, Calls Try.prog 35 #[.agg (alg p n f)] w fun e w' => e = .returned (.tuple #[.agg (alg a b g), .int .i64 c]) ∧ Below w.heap.size w w')
    (hI : ∀ w, Calls Try.prog 36 #[.agg (alg p n f)] w fun e w' => e = .returned (.tuple #[.agg (alg a b g), .int .i64 c]) ∧ Below w.heap.size w w') (w : World) :
    Calls Try.prog 17 #[.agg (alg p n f)] w fun e w' => e = .returned (.bool true) ∧ Below w.heap.size w w' := by
  have hS := Lib.hid hS
  have hI := Lib.hid hI
  have m0 : IsRow (w.alloc (.cells (alg p n f) 85)) w.heap.size := by simp [go_sem]
  have c0 : blk (w.alloc (.cells (alg p n f) 85)) w.heap.size = alg p n f := by simp [go_sem]
  have hb0 : Below w.heap.size w (w.alloc (.cells (alg p n f) 85)) := (Below.refl _ _).alloc (Nat.le_refl _) _
  go_enter Try.func17, Try.ntmps17
  go_wp2_with fail
  refine (toAlgebra_any _ _ _ _).mono ?_; rintro e w1 ⟨rfl, hw1⟩
  obtain ⟨m1, c1⟩ := keepB hw1 (isRow_lt m0) m0 c0
  have hb1 := hb0.trans (hw1.mono hb0.size)
  clear hw1
  go_wp2_with fail
  refine (hS.out _).mono ?_; rintro e w2 ⟨rfl, hw2⟩
  obtain ⟨m2, c2⟩ := keepB hw2 (isRow_lt m1) m1 c1
  have hb2 := hb1.trans (hw2.mono hb1.size)
  have l2 := isRow_lt m2
  clear hw2
  go_wp2_with fail
  refine (toAlgebra_any _ _ _ _).mono ?_; rintro e w3 ⟨rfl, hw3⟩
  obtain ⟨m3, c3⟩ := keepB (b := w.heap.size) (c := alg p n f) hw3 (by simp <;> omega) (by simp [go_sem, m2, c2, l2, Nat.ne_of_lt l2]) (by simp [go_sem, m2, c2, l2, Nat.ne_of_lt l2])
  obtain ⟨r3, g3⟩ := keepB (b := w2.heap.size) (c := alg a b g) hw3 (by simp <;> omega) (by simp [go_sem]) (by simp [go_sem])
  have hb3 : Below w.heap.size w w3 := (hb2.alloc hb2.size (.cells (alg a b g) 31)).trans (hw3.mono (by have := hb2.size; simp; omega))
  clear hw3
  go_wp2_with fail
  refine (hI.out _).mono ?_; rintro e w4 ⟨rfl, hw4⟩
  obtain ⟨r4, g4⟩ := keepB hw4 (isRow_lt r3) r3 g3
  have hb4 := hb3.trans (hw4.mono hb3.size)
  have l4 := isRow_lt r4
  have l4' := Nat.ne_of_lt l4
  clear hw4
  go_wp2_with fail
  refine (eqAlgebra_same _ _ _ _).mono ?_; rintro e w5 ⟨rfl, hw5⟩
  have hb5 : Below w.heap.size w w5 := (hb4.alloc hb4.size (.cells (alg a b g) 31)).trans (hw5.mono (by have := hb4.size; simp; omega))
  go_wp2_with fail
  go_ret
  exact ⟨rfl, hb5⟩

theorem lawOppositeAlgebra (p n : Int) (f : Nat → Int) (_wp : (Lit.int .i64 p).wf = true) (_wn : (Lit.int .i64 n).wf = true) (hb : Bytes 520 f) (w : World) :
    Calls Try.prog 17 #[.agg (alg p n f)] w fun e w' => e = .returned (.bool true) ∧ Below w.heap.size w w' := by
  cases ha : algB p n f
  · exact lawOpposite_of p n 0 0 1 f zf (fun w => specOpposite_bad p n f w hb ha) (fun w => implOpposite_bad p n f w hb ha) w
  · obtain ⟨hp2, hp31, hn1, hn8⟩ := sizes_range (alg_sizes ha)
    obtain ⟨n, rfl⟩ := Int.eq_ofNat_of_zero_le (show 0 ≤ n by omega)
    have hs : shapeB p n f = true := by
      unfold algB at ha
      simp only [Bool.and_eq_true] at ha
      exact ha.1
    exact lawOpposite_of p n p n 0 f (oppK n n 0 f) (fun w => specOpposite_good p n f w hb ha (by omega) hs) (fun w => implOpposite_good p n f w hb ha (by omega) hs) w
end Go.Proofs.Ytkcddfpchkjcgaa
