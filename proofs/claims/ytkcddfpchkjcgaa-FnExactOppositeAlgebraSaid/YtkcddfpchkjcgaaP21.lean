/- LeftTable, of the program and of the reference model, and the walk of the law. -/
import Derived.Test.YtkcddfpchkjcgaaP17
import Derived.Test.YtkcddfpchkjcgaaRegionC
namespace Go.Proofs.Ytkcddfpchkjcgaa
open Go.RowKit
set_option linter.unusedSimpArgs false
set_option linter.unusedVariables false
attribute [local irreducible] wpQuiet wpQE

/-- the left table, or zeros -/
def leftR (p n : Int) (f v : Nat → Int) : Nat → Int := match ok1 p n f v with | true => leftK p n.toNat f v n.toNat | false => zf

set_option maxRecDepth 100000 in
set_option maxHeartbeats 1000000 in
theorem specLeftTable_any (p n : Int) (f v : Nat → Int) (w : World) (hF : Bytes 520 f) (hv : Bytes 8 v) :
    Calls Try.prog 102 #[.agg (alg p n f), .agg (row 8 v)] w fun e w' =>
      e = .returned (.tuple #[.agg (row 64 (leftR p n f v)), .int .i64 (codeB (ok1 p n f v))]) ∧ Below w.heap.size w w' := by
  have HF := Lib.hid hF
  have Hv := Lib.hid hv
  have HP : Hid (∀ i, i < 1 → Bytes 8 (nth v i)) := Lib.hid (one_bytes hv)
  clear hF hv
  cases hc : ok1 p n f v
  · have hc' : codeB (okB p n f 1 (nth v)) = 1 := by
      have : okB p n f 1 (nth v) = false := hc
      rw [this]; rfl
    have HR : Hid (row 64 (leftR p n f v) = row 64 zf) := Lib.hid (by unfold leftR; rw [hc])
    clear hc
    go_enter Try.func102, Try.ntmps102
    go_wp2_with fail
    refine (l01Code_any p n f (w.heap.size + 1 + 1 + 1) 0 1 1 (nth v) _ HF.out (by omega) (by simp [go_sem]) (fun i hi => ?_)).mono ?_
    · have hq : blk ((((w.alloc (.cells (alg p n f) 31)).alloc (.cells (row 8 v) 25)).alloc (.cells (row 64 zf) 27)).alloc (.cells (row 8 v) 25)) (w.heap.size + 1 + 1 + 1) = row 8 v := by simp [go_sem]
      rw [hq, row_size]
      exact ⟨by omega, nth_row _ 8 i (by omega), HP.out i hi⟩
    rintro e w1 ⟨rfl, hw1⟩
    obtain ⟨x0, y0⟩ := keepB (b := w.heap.size) (c := alg p n f) hw1 (by simp <;> omega) (by simp [go_sem]) (by simp [go_sem])
    obtain ⟨x1, y1⟩ := keepB (b := w.heap.size + 1) (c := row 8 v) hw1 (by simp <;> omega) (by simp [go_sem]) (by simp [go_sem])
    obtain ⟨x2, y2⟩ := keepB (b := w.heap.size + 2) (c := row 64 zf) hw1 (by simp <;> omega) (by simp [go_sem]) (by simp [go_sem])
    have hb1 : Below w.heap.size w w1 := Below.trans (((((Below.refl w.heap.size w).alloc (Nat.le_refl _) (.cells (alg p n f) 31)).alloc (by simp) (.cells (row 8 v) 25)).alloc (by simp; omega) (.cells (row 64 zf) 27)).alloc (by simp; omega) (.cells (row 8 v) 25)) (hw1.mono (by simp; omega))
    clear hw1
    have z2 := isRow_lt x2
    go_wp2_with fail
    refine bodyPost_ret (result_cell_tmp rfl aggLin _ _ (row 64 zf) _ _ rfl rfl ?_ ?_) rfl ⟨by rw [HR.out]; rfl, ?_⟩
    · simp [go_sem, x2, y2]
    · simp [go_sem, x2, y2]
    · exact below_setRow hb1 (by omega) _
  · have hc' : codeB (okB p n f 1 (nth v)) = 0 := by
      have : okB p n f 1 (nth v) = true := hc
      rw [this]; rfl
    obtain ⟨hp2, hp31, hn1, hn8⟩ := sizes_range (alg_sizes (ok1_alg hc))
    obtain ⟨n, rfl⟩ := Int.eq_ofNat_of_zero_le (show 0 ≤ n by omega)
    have hn : n ≤ 8 := by omega
    have hp : 0 < p := by omega
    have hp' : p ≤ 255 := by omega
    have ht : ((n : Nat) : Int).toNat = n := by omega
    have HR : Hid (row 64 (leftR p n f v) = row 64 (leftK p n f v n)) := Lib.hid (by unfold leftR; rw [hc, ht])
    clear hc ht
    go_enter Try.func102, Try.ntmps102
    go_wp2_with fail
    refine (l01Code_any p n f (w.heap.size + 1 + 1 + 1) 0 1 1 (nth v) _ HF.out (by omega) (by simp [go_sem]) (fun i hi => ?_)).mono ?_
    · have hq : blk ((((w.alloc (.cells (alg p n f) 31)).alloc (.cells (row 8 v) 25)).alloc (.cells (row 64 zf) 27)).alloc (.cells (row 8 v) 25)) (w.heap.size + 1 + 1 + 1) = row 8 v := by simp [go_sem]
      rw [hq, row_size]
      exact ⟨by omega, nth_row _ 8 i (by omega), HP.out i hi⟩
    rintro e w1 ⟨rfl, hw1⟩
    obtain ⟨x0, y0⟩ := keepB (b := w.heap.size) (c := alg p n f) hw1 (by simp <;> omega) (by simp [go_sem]) (by simp [go_sem])
    obtain ⟨x1, y1⟩ := keepB (b := w.heap.size + 1) (c := row 8 v) hw1 (by simp <;> omega) (by simp [go_sem]) (by simp [go_sem])
    obtain ⟨x2, y2⟩ := keepB (b := w.heap.size + 2) (c := row 64 zf) hw1 (by simp <;> omega) (by simp [go_sem]) (by simp [go_sem])
    have hb1 : Below w.heap.size w w1 := Below.trans (((((Below.refl w.heap.size w).alloc (Nat.le_refl _) (.cells (alg p n f) 31)).alloc (by simp) (.cells (row 8 v) 25)).alloc (by simp; omega) (.cells (row 64 zf) 27)).alloc (by simp; omega) (.cells (row 8 v) 25)) (hw1.mono (by simp; omega))
    clear hw1
    have z2 := isRow_lt x2
    go_wp2_with fail
    refine (l01Left_any p n f v _ hp hp' hn HF.out Hv.out).mono ?_
    rintro e w2 ⟨rfl, hw2⟩
    obtain ⟨s3, d3⟩ := keepB hw2 z2 x2 y2
    have hb2 := hb1.trans (hw2.mono hb1.size)
    go_wp2_with fail
    refine bodyPost_ret (result_cell_tmp rfl aggLin _ _ (row 64 (leftK p n f v n)) _ _ rfl rfl ?_ ?_) rfl ⟨by rw [HR.out]; rfl, ?_⟩
    · simp [go_sem, s3, d3]
    · simp [go_sem, s3, d3]
    · exact below_setRow hb2 (by omega) _

set_option maxRecDepth 100000 in
set_option maxHeartbeats 1000000 in
theorem implLeftTable_any (p n : Int) (f v : Nat → Int) (w : World) (hF : Bytes 520 f) (hv : Bytes 8 v) :
    Calls Try.prog 103 #[.agg (alg p n f), .agg (row 8 v)] w fun e w' =>
      e = .returned (.tuple #[.agg (row 64 (leftR p n f v)), .int .i64 (codeB (ok1 p n f v))]) ∧ Below w.heap.size w w' := by
  have HF := Lib.hid hF
  have Hv := Lib.hid hv
  have HP : Hid (∀ i, i < 1 → Bytes 8 (nth v i)) := Lib.hid (one_bytes hv)
  clear hF hv
  cases hc : ok1 p n f v
  · have hc' : okB p n f 1 (nth v) = false := by
      have : okB p n f 1 (nth v) = false := hc
      rw [this]
    have HR : Hid (row 64 (leftR p n f v) = row 64 zf) := Lib.hid (by unfold leftR; rw [hc])
    clear hc
    go_enter Try.func103, Try.ntmps103
    go_wp2_with fail
    refine (isAlgebraWith_any p n f (w.heap.size + 1 + 1 + 1) 0 1 1 (nth v) _ HF.out (by omega) (by simp [go_sem]) (fun i hi => ?_)).mono ?_
    · have hq : blk ((((w.alloc (.cells (alg p n f) 31)).alloc (.cells (row 8 v) 25)).alloc (.cells (row 64 zf) 27)).alloc (.cells (row 8 v) 25)) (w.heap.size + 1 + 1 + 1) = row 8 v := by simp [go_sem]
      rw [hq, row_size]
      exact ⟨by omega, nth_row _ 8 i (by omega), HP.out i hi⟩
    rintro e w1 ⟨rfl, hw1⟩
    obtain ⟨x0, y0⟩ := keepB (b := w.heap.size) (c := alg p n f) hw1 (by simp <;> omega) (by simp [go_sem]) (by simp [go_sem])
    obtain ⟨x1, y1⟩ := keepB (b := w.heap.size + 1) (c := row 8 v) hw1 (by simp <;> omega) (by simp [go_sem]) (by simp [go_sem])
    obtain ⟨x2, y2⟩ := keepB (b := w.heap.size + 2) (c := row 64 zf) hw1 (by simp <;> omega) (by simp [go_sem]) (by simp [go_sem])
    have hb1 : Below w.heap.size w w1 := Below.trans (((((Below.refl w.heap.size w).alloc (Nat.le_refl _) (.cells (alg p n f) 31)).alloc (by simp) (.cells (row 8 v) 25)).alloc (by simp; omega) (.cells (row 64 zf) 27)).alloc (by simp; omega) (.cells (row 8 v) 25)) (hw1.mono (by simp; omega))
    clear hw1
    have z2 := isRow_lt x2
    go_wp2_with fail
    refine bodyPost_ret (result_cell_tmp rfl aggLin _ _ (row 64 zf) _ _ rfl rfl ?_ ?_) rfl ⟨by rw [HR.out]; rfl, ?_⟩
    · simp [go_sem, x2, y2]
    · simp [go_sem, x2, y2]
    · exact below_setRow hb1 (by omega) _
  · have hc' : okB p n f 1 (nth v) = true := by
      have : okB p n f 1 (nth v) = true := hc
      rw [this]
    obtain ⟨hp2, hp31, hn1, hn8⟩ := sizes_range (alg_sizes (ok1_alg hc))
    obtain ⟨n, rfl⟩ := Int.eq_ofNat_of_zero_le (show 0 ≤ n by omega)
    have hn : n ≤ 8 := by omega
    have hp : 0 < p := by omega
    have hp' : p ≤ 255 := by omega
    have ht : ((n : Nat) : Int).toNat = n := by omega
    have HR : Hid (row 64 (leftR p n f v) = row 64 (leftK p n f v n)) := Lib.hid (by unfold leftR; rw [hc, ht])
    clear hc ht
    go_enter Try.func103, Try.ntmps103
    go_wp2_with fail
    refine (isAlgebraWith_any p n f (w.heap.size + 1 + 1 + 1) 0 1 1 (nth v) _ HF.out (by omega) (by simp [go_sem]) (fun i hi => ?_)).mono ?_
    · have hq : blk ((((w.alloc (.cells (alg p n f) 31)).alloc (.cells (row 8 v) 25)).alloc (.cells (row 64 zf) 27)).alloc (.cells (row 8 v) 25)) (w.heap.size + 1 + 1 + 1) = row 8 v := by simp [go_sem]
      rw [hq, row_size]
      exact ⟨by omega, nth_row _ 8 i (by omega), HP.out i hi⟩
    rintro e w1 ⟨rfl, hw1⟩
    obtain ⟨x0, y0⟩ := keepB (b := w.heap.size) (c := alg p n f) hw1 (by simp <;> omega) (by simp [go_sem]) (by simp [go_sem])
    obtain ⟨x1, y1⟩ := keepB (b := w.heap.size + 1) (c := row 8 v) hw1 (by simp <;> omega) (by simp [go_sem]) (by simp [go_sem])
    obtain ⟨x2, y2⟩ := keepB (b := w.heap.size + 2) (c := row 64 zf) hw1 (by simp <;> omega) (by simp [go_sem]) (by simp [go_sem])
    have hb1 : Below w.heap.size w w1 := Below.trans (((((Below.refl w.heap.size w).alloc (Nat.le_refl _) (.cells (alg p n f) 31)).alloc (by simp) (.cells (row 8 v) 25)).alloc (by simp; omega) (.cells (row 64 zf) 27)).alloc (by simp; omega) (.cells (row 8 v) 25)) (hw1.mono (by simp; omega))
    clear hw1
    have z2 := isRow_lt x2
    go_wp2_with fail
    refine (leftTable_any p n f v _ hp hp' hn HF.out Hv.out).mono ?_
    rintro e w2 ⟨rfl, hw2⟩
    obtain ⟨s3, d3⟩ := keepB hw2 z2 x2 y2
    have hb2 := hb1.trans (hw2.mono hb1.size)
    go_wp2_with fail
    refine bodyPost_ret (result_cell_tmp rfl aggLin _ _ (row 64 (leftK p n f v n)) _ _ rfl rfl ?_ ?_) rfl ⟨by rw [HR.out]; rfl, ?_⟩
    · simp [go_sem, s3, d3]
    · simp [go_sem, s3, d3]
    · exact below_setRow hb2 (by omega) _

set_option maxRecDepth 100000 in
theorem eqLinear_same (v : Nat → Int) (w : World) :
    Calls Try.prog 104 #[.agg (row 64 v), .agg (row 64 v)] w fun e w' => e = .returned (.bool true) ∧ Below w.heap.size w w' := by
  go_enter Try.func104, Try.ntmps104
  go_wp2
  go_loopw [5] (fun i wr => ∃ k : Nat, k ≤ 8 ∧ i = .int .i64 k ∧ Below w.heap.size w wr ∧ (IsRow wr w.heap.size ∧ blk wr w.heap.size = row 64 v) ∧ (IsRow wr (w.heap.size + 1) ∧ blk wr (w.heap.size + 1) = row 64 v)) (fun i _ => 8 - (intOf i).toNat)
  case atStart => exact ⟨0, by omega, rfl, ((Below.refl _ _).alloc (Nat.le_refl _) _).alloc (by simp) _, by simp [go_sem], by simp [go_sem]⟩
  case round =>
    obtain ⟨k, hk, rfl, hb, ⟨r0, c0⟩, ⟨r1, c1⟩⟩ := hrel
    by_cases hlt : k < 8
    · have hi8 : (k : Int) < 8 := by omega
      have hk8 : k * 8 + 8 ≤ 64 := by omega
      have z0 := isRow_lt r0
      have z1 := isRow_lt r1
      have HC : ∀ W, Below wr.heap.size wr W → (IsRow W w.heap.size ∧ blk W w.heap.size = row 64 v) ∧ (IsRow W (w.heap.size + 1) ∧ blk W (w.heap.size + 1) = row 64 v) := fun W h => ⟨keepB h z0 r0 c0, keepB h z1 r1 c1⟩
      have hbz := hb.size
      go_wp2
      refine wp_quiet_all (Below wr.heap.size wr) (by kernel_rfl) (by kernel_rfl) (Below.refl _ _).drew ?_
      repeat (first | (refine q_plain rfl ?_; apply Exists.intro; refine ⟨fun W hW => ?_, ?_⟩; (focus (obtain ⟨⟨x1, x2⟩, x3, x4⟩ := HC W hW; go_simp; first | done | rfl | ((go_at_call 94; exact (eqVector_same _ _).mono fun e w2 ⟨he, hw2⟩ => ⟨he, hW.trans (hw2.mono hW.size)⟩)))); simp only [Act.put, List.setIfInBounds_toArray, List.set_cons_zero, List.set_cons_succ]) | (refine q_skip (by rfl) ?_; simp only [Act.put, List.setIfInBounds_toArray, List.set_cons_zero, List.set_cons_succ]) | (refine q_want (by rfl) ?_; apply Exists.intro; refine ⟨fun W hW => ?_, ?_⟩; (focus (obtain ⟨⟨x1, x2⟩, x3, x4⟩ := HC W hW; go_simp; first | done | rfl | ((go_at_call 94; exact (eqVector_same _ _).mono fun e w2 ⟨he, hw2⟩ => ⟨he, hW.trans (hw2.mono hW.size)⟩)))); simp only [Act.put, List.setIfInBounds_toArray, List.set_cons_zero, List.set_cons_succ]))
      refine wpQuiet_nil ?_
      intro W hW
      obtain ⟨⟨x1, x2⟩, x3, x4⟩ := HC W hW
      have hb2 := hb.trans (hW.mono hbz)
      go_wp2
      go_roundw
      case rel => exact ⟨k + 1, by omega, by go_num, hb2, ⟨x1, x2⟩, x3, x4⟩
      case measure => simp [intOf]; omega
    · go_wp2
      go_ret
      exact ⟨rfl, hb⟩

set_option maxRecDepth 100000 in
set_option maxHeartbeats 2000000 in
theorem lawLeftTable (p n : Int) (f v : Nat → Int) (_wp : (Lit.int .i64 p).wf = true) (_wn : (Lit.int .i64 n).wf = true) (hF : Bytes 520 f) (hv : Bytes 8 v) (w : World) :
    Calls Try.prog 15 #[.agg (alg p n f), .agg (row 8 v)] w fun e w' => e = .returned (.bool true) ∧ Below w.heap.size w w' := by
  have HF := Lib.hid hF
  have Hv := Lib.hid hv
  clear hF hv
  go_enter Try.func15, Try.ntmps15
  go_wp2
  have F0 : Below w.heap.size w ((w.alloc (.cells (alg p n f) 85)).alloc (.cells (row 8 v) 24)) := ((Below.refl w.heap.size w).alloc (Nat.le_refl _) _).alloc (by simp) _
  have F1 : IsRow ((w.alloc (.cells (alg p n f) 85)).alloc (.cells (row 8 v) 24)) w.heap.size ∧ blk ((w.alloc (.cells (alg p n f) 85)).alloc (.cells (row 8 v) 24)) w.heap.size = alg p n f := by simp [go_sem]
  have F2 : IsRow ((w.alloc (.cells (alg p n f) 85)).alloc (.cells (row 8 v) 24)) (w.heap.size + 1) ∧ blk ((w.alloc (.cells (alg p n f) 85)).alloc (.cells (row 8 v) 24)) (w.heap.size + 1) = row 8 v := by simp [go_sem]
  generalize (w.alloc (.cells (alg p n f) 85)).alloc (.cells (row 8 v) 24) = wr at F0 F1 F2 ⊢
  have y1 := isRow_lt F1.1
  have y2 := isRow_lt F2.1
  have HC : ∀ W, Below wr.heap.size wr W → (IsRow W w.heap.size ∧ blk W w.heap.size = alg p n f) ∧ (IsRow W (w.heap.size + 1) ∧ blk W (w.heap.size + 1) = row 8 v) := fun W h => ⟨keepB h y1 F1.1 F1.2, keepB h y2 F2.1 F2.2⟩
  clear F1 F2
  refine wp_quiet_alloc_late 8 7 _ _ (.cells (row 64 zf) 27) (Below wr.heap.size wr) (Made wr (row 64 zf)) (by kernel_rfl) rfl rfl rfl (by kernel_rfl) (by kernel_rfl) (fun c a w d v h => by cases d <;> exact h) (fun a W => (xallocLin _ _ _ _ _ _ _).trans (allocLin W)) (closed_below wr) (closed_made wr _) (fun b W h => h.1) (fun W h => made_new wr _ _ W h) (Below.refl _ _).drew ?_
  simp only [List.take_succ_cons, List.take_zero, List.drop_succ_cons, List.drop_zero]
  repeat (first | (refine e_plain rfl ?_; apply Exists.intro; refine ⟨fun D hD hK W hW => ?_, ?_⟩; (focus (obtain ⟨⟨x1, x2⟩, x3, x4⟩ := HC W (hD W hW); unfold Oper.quietAt; go_simp; first | done | rfl | (first | (go_at_call 88; exact (toAlgebra_any _ _ _ _).mono fun e w2 ⟨he, hw2⟩ => ⟨he, hK _ _ hW hw2⟩) | (go_at_call 86; exact (toVector_any _ _).mono fun e w2 ⟨he, hw2⟩ => ⟨he, hK _ _ hW hw2⟩) | (go_at_call 102; exact (specLeftTable_any p n f v _ HF.out Hv.out).mono fun e w2 ⟨he, hw2⟩ => ⟨he, hK _ _ hW hw2⟩)))); simp only [Act.put, List.setIfInBounds_toArray, List.set_cons_zero, List.set_cons_succ]) | (refine e_skip (by rfl) ?_; simp only [Act.put, List.setIfInBounds_toArray, List.set_cons_zero, List.set_cons_succ]) | (refine e_want (by rfl) ?_; apply Exists.intro; refine ⟨fun D hD hK W hW => ?_, ?_⟩; (focus (obtain ⟨⟨x1, x2⟩, x3, x4⟩ := HC W (hD W hW); unfold Oper.quietAt; go_simp; first | done | rfl | (first | (go_at_call 88; exact (toAlgebra_any _ _ _ _).mono fun e w2 ⟨he, hw2⟩ => ⟨he, hK _ _ hW hw2⟩) | (go_at_call 86; exact (toVector_any _ _).mono fun e w2 ⟨he, hw2⟩ => ⟨he, hK _ _ hW hw2⟩) | (go_at_call 102; exact (specLeftTable_any p n f v _ HF.out Hv.out).mono fun e w2 ⟨he, hw2⟩ => ⟨he, hK _ _ hW hw2⟩)))); simp only [Act.put, List.setIfInBounds_toArray, List.set_cons_zero, List.set_cons_succ]))
  refine e_nil ?_
  intro b W hW
  obtain ⟨hW1, hbb, m1, m2⟩ := hW
  obtain ⟨⟨x1, x2⟩, x3, x4⟩ := HC W hW1
  clear HC
  have hb0 : b ≠ w.heap.size := by omega
  have hb1 : b ≠ w.heap.size + 1 := by omega
  have hb0' := Ne.symm hb0
  have hb1' := Ne.symm hb1
  have hwr := F0.size
  simp only [Act.put, List.setIfInBounds_toArray, List.set_cons_zero, List.set_cons_succ]
  go_wp2
  have G0 : Below w.heap.size w (W.setRow b (row 64 (leftR p n f v))) := below_setRow (F0.trans (hW1.mono hwr)) (by omega) _
  have G1 : IsRow (W.setRow b (row 64 (leftR p n f v))) w.heap.size ∧ blk (W.setRow b (row 64 (leftR p n f v))) w.heap.size = alg p n f := by simp [go_sem, x1, x2, m1, hb0']
  have G2 : IsRow (W.setRow b (row 64 (leftR p n f v))) (w.heap.size + 1) ∧ blk (W.setRow b (row 64 (leftR p n f v))) (w.heap.size + 1) = row 8 v := by simp [go_sem, x3, x4, m1, hb1']
  have G4 : IsRow (W.setRow b (row 64 (leftR p n f v))) b ∧ blk (W.setRow b (row 64 (leftR p n f v))) b = row 64 (leftR p n f v) := by simp [go_sem, m1]
  clear x1 x2 x3 x4 m1 m2
  generalize W.setRow b (row 64 (leftR p n f v)) = W1 at G0 G1 G2 G4 ⊢
  have v1 := isRow_lt G1.1
  have v2 := isRow_lt G2.1
  have v4 := isRow_lt G4.1
  have HC : ∀ W, Below W1.heap.size W1 W → (IsRow W w.heap.size ∧ blk W w.heap.size = alg p n f) ∧ (IsRow W (w.heap.size + 1) ∧ blk W (w.heap.size + 1) = row 8 v) ∧ (IsRow W b ∧ blk W b = row 64 (leftR p n f v)) :=
    fun W h => ⟨keepB h v1 G1.1 G1.2, keepB h v2 G2.1 G2.2, keepB h v4 G4.1 G4.2⟩
  clear G1 G2 G4
  refine wp_quiet_alloc_late 8 7 _ _ (.cells (row 64 zf) 27) (Below W1.heap.size W1) (Made W1 (row 64 zf)) (by kernel_rfl) rfl rfl rfl (by kernel_rfl) (by kernel_rfl) (fun c a w d v h => by cases d <;> exact h) (fun a W => (xallocLin _ _ _ _ _ _ _).trans (allocLin W)) (closed_below W1) (closed_made W1 _) (fun b W h => h.1) (fun W h => made_new W1 _ _ W h) (Below.refl _ _).drew ?_
  simp only [List.take_succ_cons, List.take_zero, List.drop_succ_cons, List.drop_zero]
  repeat (first | (refine e_plain rfl ?_; apply Exists.intro; refine ⟨fun D hD hK W hW => ?_, ?_⟩; (focus (obtain ⟨⟨x1, x2⟩, ⟨x3, x4⟩, x7, x8⟩ := HC W (hD W hW); unfold Oper.quietAt; go_simp; first | done | rfl | (first | (go_at_call 88; exact (toAlgebra_any _ _ _ _).mono fun e w2 ⟨he, hw2⟩ => ⟨he, hK _ _ hW hw2⟩) | (go_at_call 86; exact (toVector_any _ _).mono fun e w2 ⟨he, hw2⟩ => ⟨he, hK _ _ hW hw2⟩) | (go_at_call 103; exact (implLeftTable_any p n f v _ HF.out Hv.out).mono fun e w2 ⟨he, hw2⟩ => ⟨he, hK _ _ hW hw2⟩)))); simp only [Act.put, List.setIfInBounds_toArray, List.set_cons_zero, List.set_cons_succ]) | (refine e_skip (by rfl) ?_; simp only [Act.put, List.setIfInBounds_toArray, List.set_cons_zero, List.set_cons_succ]) | (refine e_want (by rfl) ?_; apply Exists.intro; refine ⟨fun D hD hK W hW => ?_, ?_⟩; (focus (obtain ⟨⟨x1, x2⟩, ⟨x3, x4⟩, x7, x8⟩ := HC W (hD W hW); unfold Oper.quietAt; go_simp; first | done | rfl | (first | (go_at_call 88; exact (toAlgebra_any _ _ _ _).mono fun e w2 ⟨he, hw2⟩ => ⟨he, hK _ _ hW hw2⟩) | (go_at_call 86; exact (toVector_any _ _).mono fun e w2 ⟨he, hw2⟩ => ⟨he, hK _ _ hW hw2⟩) | (go_at_call 103; exact (implLeftTable_any p n f v _ HF.out Hv.out).mono fun e w2 ⟨he, hw2⟩ => ⟨he, hK _ _ hW hw2⟩)))); simp only [Act.put, List.setIfInBounds_toArray, List.set_cons_zero, List.set_cons_succ]))
  refine e_nil ?_
  intro b2 W2 hW
  obtain ⟨hW2, hbb2, m1, m2⟩ := hW
  obtain ⟨⟨x1, x2⟩, ⟨x3, x4⟩, x7, x8⟩ := HC W2 hW2
  clear HC
  have q2 : b2 ≠ b := by omega
  have q2' := Ne.symm q2
  have hw1 := G0.size
  simp only [Act.put, List.setIfInBounds_toArray, List.set_cons_zero, List.set_cons_succ]
  have K0 : Below w.heap.size w (W2.setRow b2 (row 64 (leftR p n f v))) := below_setRow (G0.trans (hW2.mono hw1)) (by omega) _
  have hz := K0.size
  go_wp2_with fail
  refine (eqLinear_same _ _).mono ?_; rintro e w3 ⟨rfl, hw3⟩
  go_wp2_with fail
  go_ret
  exact ⟨rfl, K0.trans (hw3.mono hz)⟩
end Go.Proofs.Ytkcddfpchkjcgaa
