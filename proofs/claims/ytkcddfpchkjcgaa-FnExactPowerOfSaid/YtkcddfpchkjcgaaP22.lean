/- PowerOf, of the program and of the reference model, and the walk of the law. -/
import Derived.Test.YtkcddfpchkjcgaaP17
import Derived.Test.YtkcddfpchkjcgaaRegionC
namespace Go.Proofs.Ytkcddfpchkjcgaa
open Go.RowKit
set_option linter.unusedSimpArgs false
set_option linter.unusedVariables false
attribute [local irreducible] wpQuiet wpQE

/-- the power with k factors -/
def powF (p : Int) (n : Nat) (f v : Nat → Int) : Nat → Nat → Int
  | 0 => f
  | k + 1 => mulF p n (mtab f) (powF p n f v k) v
theorem powF_bytes {p : Int} (hp : 0 < p) (hp' : p ≤ 255) (n : Nat) {f : Nat → Int} (hF : Bytes 520 f) (v : Nat → Int) : ∀ k, Bytes 8 (powF p n f v k)
  | 0 => unit_bytes hF
  | k + 1 => bytes_mod hp hp' _
/-- the number of factors is in its range -/
def inB (c : Int) : Bool := decide (0 ≤ c) && decide (c ≤ 100)
/-- the power, or zeros; the code -/
def powR (p n : Int) (f v : Nat → Int) (c : Int) : Nat → Int := match ok1 p n f v, inB c with | true, true => powF p n.toNat f v c.toNat | _, _ => zf
def powC (p n : Int) (f v : Nat → Int) (c : Int) : Int := match ok1 p n f v, inB c with | false, _ => 1 | true, false => 2 | true, true => 0

set_option maxRecDepth 100000 in
set_option maxHeartbeats 1000000 in
theorem specPowerOf_any (p n : Int) (f v : Nat → Int) (c : Int) (w : World) (hF : Bytes 520 f) (hv : Bytes 8 v) :
    Calls Try.prog 95 #[.agg (alg p n f), .agg (row 8 v), .int .i64 c] w fun e w' =>
      e = .returned (.tuple #[.agg (row 8 (powR p n f v c)), .int .i64 (powC p n f v c)]) ∧ Below w.heap.size w w' := by
  have HF := Lib.hid hF
  have Hv := Lib.hid hv
  have HP : Hid (∀ i, i < 1 → Bytes 8 (nth v i)) := Lib.hid (one_bytes hv)
  clear hF hv
  cases hc : ok1 p n f v
  · have hc' : codeB (okB p n f 1 (nth v)) = 1 := by
      have : okB p n f 1 (nth v) = false := hc
      rw [this]; rfl
    have HR : Hid (row 8 (powR p n f v c) = row 8 zf) := Lib.hid (by unfold powR; rw [hc])
    have HC : Hid (powC p n f v c = 1) := Lib.hid (by unfold powC; rw [hc])
    clear hc
    go_enter Try.func95, Try.ntmps95
    go_wp2_with fail
    refine (l01Code_any p n f (w.heap.size + 1 + 1 + 1) 0 1 1 (nth v) _ HF.out (by omega) (by simp [go_sem]) (fun i hi => ?_)).mono ?_
    · have hq : blk ((((w.alloc (.cells (alg p n f) 31)).alloc (.cells (row 8 v) 25)).alloc (.cells (row 8 zf) 25)).alloc (.cells (row 8 v) 25)) (w.heap.size + 1 + 1 + 1) = row 8 v := by simp [go_sem]
      rw [hq, row_size]
      exact ⟨by omega, nth_row _ 8 i (by omega), HP.out i hi⟩
    rintro e w1 ⟨rfl, hw1⟩
    obtain ⟨x0, y0⟩ := keepB (b := w.heap.size) (c := alg p n f) hw1 (by simp <;> omega) (by simp [go_sem]) (by simp [go_sem])
    obtain ⟨x1, y1⟩ := keepB (b := w.heap.size + 1) (c := row 8 v) hw1 (by simp <;> omega) (by simp [go_sem]) (by simp [go_sem])
    obtain ⟨x2, y2⟩ := keepB (b := w.heap.size + 2) (c := row 8 zf) hw1 (by simp <;> omega) (by simp [go_sem]) (by simp [go_sem])
    have hb1 : Below w.heap.size w w1 := Below.trans (((((Below.refl w.heap.size w).alloc (Nat.le_refl _) (.cells (alg p n f) 31)).alloc (by simp) (.cells (row 8 v) 25)).alloc (by simp; omega) (.cells (row 8 zf) 25)).alloc (by simp; omega) (.cells (row 8 v) 25)) (hw1.mono (by simp; omega))
    clear hw1
    have z2 := isRow_lt x2
    have z1 := isRow_lt x1
    have z0 := isRow_lt x0
    go_wp2_with fail
    refine bodyPost_ret (result_cell_tmp rfl aggVec _ _ (row 8 zf) _ _ rfl rfl ?_ ?_) rfl ⟨by rw [HR.out, HC.out]; rfl, ?_⟩
    · simp [go_sem, x2, y2]
    · simp [go_sem, x2, y2]
    · exact below_setRow hb1 (by omega) _
  · have hc' : codeB (okB p n f 1 (nth v)) = 0 := by
      have : okB p n f 1 (nth v) = true := hc
      rw [this]; rfl
    obtain ⟨hp2, hp31, hn1, hn8⟩ := sizes_range (alg_sizes (ok1_alg hc))
    obtain ⟨n, rfl⟩ := Int.eq_ofNat_of_zero_le (show 0 ≤ n by omega)
    have hn : n ≤ 8 := by omega
    have hp : 0 < p := by omega
    have hp' : p ≤ 255 := by omega
    have ht : ((n : Nat) : Int).toNat = n := by omega
    by_cases hr : 0 ≤ c ∧ c ≤ 100
    · obtain ⟨c, rfl⟩ := Int.eq_ofNat_of_zero_le hr.1
      have hi : inB (c : Int) = true := by simp [inB]; omega
      have hc100 : c ≤ 100 := by omega
      have tc : ((c : Nat) : Int).toNat = c := by omega
      have HR : Hid (row 8 (powR p n f v c) = row 8 (powF p n f v c)) := Lib.hid (by unfold powR; rw [hc, hi, ht, tc])
      have HC : Hid (powC p n f v c = 0) := Lib.hid (by unfold powC; rw [hc, hi])
      clear hc ht hi tc
      go_enter Try.func95, Try.ntmps95
      go_wp2_with fail
      refine (l01Code_any p n f (w.heap.size + 1 + 1 + 1) 0 1 1 (nth v) _ HF.out (by omega) (by simp [go_sem]) (fun i hi => ?_)).mono ?_
      · have hq : blk ((((w.alloc (.cells (alg p n f) 31)).alloc (.cells (row 8 v) 25)).alloc (.cells (row 8 zf) 25)).alloc (.cells (row 8 v) 25)) (w.heap.size + 1 + 1 + 1) = row 8 v := by simp [go_sem]
        rw [hq, row_size]
        exact ⟨by omega, nth_row _ 8 i (by omega), HP.out i hi⟩
      rintro e w1 ⟨rfl, hw1⟩
      obtain ⟨x0, y0⟩ := keepB (b := w.heap.size) (c := alg p n f) hw1 (by simp <;> omega) (by simp [go_sem]) (by simp [go_sem])
      obtain ⟨x1, y1⟩ := keepB (b := w.heap.size + 1) (c := row 8 v) hw1 (by simp <;> omega) (by simp [go_sem]) (by simp [go_sem])
      obtain ⟨x2, y2⟩ := keepB (b := w.heap.size + 2) (c := row 8 zf) hw1 (by simp <;> omega) (by simp [go_sem]) (by simp [go_sem])
      have hb1 : Below w.heap.size w w1 := Below.trans (((((Below.refl w.heap.size w).alloc (Nat.le_refl _) (.cells (alg p n f) 31)).alloc (by simp) (.cells (row 8 v) 25)).alloc (by simp; omega) (.cells (row 8 zf) 25)).alloc (by simp; omega) (.cells (row 8 v) 25)) (hw1.mono (by simp; omega))
      clear hw1
      have z2 := isRow_lt x2
      have z1 := isRow_lt x1
      have z0 := isRow_lt x0
      go_wp2_with (go_at_call 181; refine (lin_any _ _ _ _).mono ?_; rintro e w' ⟨rfl, rfl⟩)
      go_loopw [2] (fun s wr => ∃ k : Nat, k ≤ c ∧ s = .int .i64 ((c : Int) - k) ∧ Below w.heap.size w wr ∧ (IsRow wr w.heap.size ∧ blk wr w.heap.size = alg p n f) ∧ (IsRow wr (w.heap.size + 1) ∧ blk wr (w.heap.size + 1) = row 8 v) ∧ (IsRow wr (w.heap.size + 2) ∧ blk wr (w.heap.size + 2) = row 8 zf) ∧
          (IsRow wr w1.heap.size ∧ blk wr w1.heap.size = row 8 (powF p n f v k))) (fun s _ => (intOf s).toNat)
      case atStart =>
        refine ⟨0, by omega, by simp, hb1.alloc hb1.size _, by simp [go_sem, x0, y0, z0, Nat.ne_of_lt z0], by simp [go_sem, x1, y1, z1, Nat.ne_of_lt z1], by simp [go_sem, x2, y2, z2, Nat.ne_of_lt z2], by simp [go_sem], ?_⟩
        simp [go_sem, powF]
      case round =>
        obtain ⟨k, hk, rfl, hb, ⟨r0, c0⟩, ⟨r1, c1⟩, ⟨r2, c2⟩, ⟨r3, c3⟩⟩ := hrel
        have l0 := isRow_lt r0
        have l1 := isRow_lt r1
        have l2 := isRow_lt r2
        have l3 := isRow_lt r3
        have n2 : w.heap.size + 2 ≠ w1.heap.size := by omega
        have n1 : w.heap.size + 1 ≠ w1.heap.size := by omega
        have n0 : w.heap.size ≠ w1.heap.size := by omega
        by_cases hlt : k < c
        · have HB : Hid (Bytes 8 (powF p n f v k)) := Lib.hid (powF_bytes hp hp' n HF.out v k)
          go_wp2_with (go_at_call 179; refine (l01Times_any p n f _ _ _ hp hp' hn HF.out HB.out Hv.out).mono ?_; rintro e w2 ⟨rfl, hw2⟩; obtain ⟨x0, y0⟩ := keepB hw2 l0 r0 c0; obtain ⟨x1, y1⟩ := keepB hw2 l1 r1 c1; obtain ⟨x2, y2⟩ := keepB hw2 l2 r2 c2; obtain ⟨x3, y3⟩ := keepB hw2 l3 r3 c3)
          go_roundw
          case rel =>
            refine ⟨k + 1, by omega, by first | go_num | (simp; omega), below_setRow (hb.trans (hw2.mono hb.size)) (by omega) _, by simp [go_sem, x0, y0, x3, n0], by simp [go_sem, x1, y1, x3, n1], by simp [go_sem, x2, y2, x3, n2], by simp [go_sem, x3], ?_⟩
            rw [blk_setRow _ _ _ _ x3, if_pos rfl]
            rfl
          case measure => simp [intOf]; omega
        · obtain rfl : k = c := by omega
          go_wp2
          refine bodyPost_ret (result_cell_tmp rfl aggVec _ _ (row 8 (powF p n f v k)) _ _ rfl rfl ?_ ?_) rfl ⟨by rw [HR.out, HC.out]; rfl, ?_⟩
          · simp [go_sem, r2, c2]
          · simp [go_sem, r2, c2]
          · exact below_setRow hb (by omega) _
    · have hi : inB c = false := by unfold inB; rw [← Bool.decide_and]; exact decide_eq_false hr
      have HR : Hid (row 8 (powR p n f v c) = row 8 zf) := Lib.hid (by unfold powR; rw [hc, hi])
      have HC : Hid (powC p n f v c = 2) := Lib.hid (by unfold powC; rw [hc, hi])
      clear hc hi
      go_enter Try.func95, Try.ntmps95
      go_wp2_with fail
      refine (l01Code_any p n f (w.heap.size + 1 + 1 + 1) 0 1 1 (nth v) _ HF.out (by omega) (by simp [go_sem]) (fun i hi => ?_)).mono ?_
      · have hq : blk ((((w.alloc (.cells (alg p n f) 31)).alloc (.cells (row 8 v) 25)).alloc (.cells (row 8 zf) 25)).alloc (.cells (row 8 v) 25)) (w.heap.size + 1 + 1 + 1) = row 8 v := by simp [go_sem]
        rw [hq, row_size]
        exact ⟨by omega, nth_row _ 8 i (by omega), HP.out i hi⟩
      rintro e w1 ⟨rfl, hw1⟩
      obtain ⟨x0, y0⟩ := keepB (b := w.heap.size) (c := alg p n f) hw1 (by simp <;> omega) (by simp [go_sem]) (by simp [go_sem])
      obtain ⟨x1, y1⟩ := keepB (b := w.heap.size + 1) (c := row 8 v) hw1 (by simp <;> omega) (by simp [go_sem]) (by simp [go_sem])
      obtain ⟨x2, y2⟩ := keepB (b := w.heap.size + 2) (c := row 8 zf) hw1 (by simp <;> omega) (by simp [go_sem]) (by simp [go_sem])
      have hb1 : Below w.heap.size w w1 := Below.trans (((((Below.refl w.heap.size w).alloc (Nat.le_refl _) (.cells (alg p n f) 31)).alloc (by simp) (.cells (row 8 v) 25)).alloc (by simp; omega) (.cells (row 8 zf) 25)).alloc (by simp; omega) (.cells (row 8 v) 25)) (hw1.mono (by simp; omega))
      clear hw1
      have z2 := isRow_lt x2
      have z1 := isRow_lt x1
      have z0 := isRow_lt x0
      have hrr : (decide (0 ≤ c) && decide (c ≤ 100)) = false := by rw [← Bool.decide_and]; exact decide_eq_false hr
      go_wp2_with (go_at_call 181; refine (lin_any _ _ _ _).mono ?_; rintro e w' ⟨rfl, rfl⟩)
      refine bodyPost_ret (result_cell_tmp rfl aggVec _ _ (row 8 zf) _ _ rfl rfl ?_ ?_) rfl ⟨by rw [HR.out, HC.out]; rfl, ?_⟩
      · simp [go_sem, x2, y2]
      · simp [go_sem, x2, y2]
      · exact below_setRow hb1 (by omega) _

set_option maxRecDepth 100000 in
set_option maxHeartbeats 1000000 in
theorem powerOf_any (p n : Int) (f v : Nat → Int) (c : Int) (w : World) (hF : Bytes 520 f) (hv : Bytes 8 v) :
    Calls Try.prog 96 #[.agg (alg p n f), .agg (row 8 v), .int .i64 c] w fun e w' =>
      e = .returned (.tuple #[.agg (row 8 (powR p n f v c)), .int .i64 (powC p n f v c)]) ∧ Below w.heap.size w w' := by
  have HF := Lib.hid hF
  have Hv := Lib.hid hv
  have HP : Hid (∀ i, i < 1 → Bytes 8 (nth v i)) := Lib.hid (one_bytes hv)
  clear hF hv
  cases hc : ok1 p n f v
  · have hc' : okB p n f 1 (nth v) = false := by
      have : okB p n f 1 (nth v) = false := hc
      rw [this]
    have HR : Hid (row 8 (powR p n f v c) = row 8 zf) := Lib.hid (by unfold powR; rw [hc])
    have HC : Hid (powC p n f v c = 1) := Lib.hid (by unfold powC; rw [hc])
    clear hc
    go_enter Try.func96, Try.ntmps96
    go_wp2_with fail
    refine (isAlgebraWith_any p n f (w.heap.size + 1 + 1 + 1) 0 1 1 (nth v) _ HF.out (by omega) (by simp [go_sem]) (fun i hi => ?_)).mono ?_
    · have hq : blk ((((w.alloc (.cells (alg p n f) 31)).alloc (.cells (row 8 v) 25)).alloc (.cells (row 8 zf) 25)).alloc (.cells (row 8 v) 25)) (w.heap.size + 1 + 1 + 1) = row 8 v := by simp [go_sem]
      rw [hq, row_size]
      exact ⟨by omega, nth_row _ 8 i (by omega), HP.out i hi⟩
    rintro e w1 ⟨rfl, hw1⟩
    obtain ⟨x0, y0⟩ := keepB (b := w.heap.size) (c := alg p n f) hw1 (by simp <;> omega) (by simp [go_sem]) (by simp [go_sem])
    obtain ⟨x1, y1⟩ := keepB (b := w.heap.size + 1) (c := row 8 v) hw1 (by simp <;> omega) (by simp [go_sem]) (by simp [go_sem])
    obtain ⟨x2, y2⟩ := keepB (b := w.heap.size + 2) (c := row 8 zf) hw1 (by simp <;> omega) (by simp [go_sem]) (by simp [go_sem])
    have hb1 : Below w.heap.size w w1 := Below.trans (((((Below.refl w.heap.size w).alloc (Nat.le_refl _) (.cells (alg p n f) 31)).alloc (by simp) (.cells (row 8 v) 25)).alloc (by simp; omega) (.cells (row 8 zf) 25)).alloc (by simp; omega) (.cells (row 8 v) 25)) (hw1.mono (by simp; omega))
    clear hw1
    have z2 := isRow_lt x2
    have z1 := isRow_lt x1
    have z0 := isRow_lt x0
    go_wp2_with fail
    refine bodyPost_ret (result_cell_tmp rfl aggVec _ _ (row 8 zf) _ _ rfl rfl ?_ ?_) rfl ⟨by rw [HR.out, HC.out]; rfl, ?_⟩
    · simp [go_sem, x2, y2]
    · simp [go_sem, x2, y2]
    · exact below_setRow hb1 (by omega) _
  · have hc' : okB p n f 1 (nth v) = true := by
      have : okB p n f 1 (nth v) = true := hc
      rw [this]
    obtain ⟨hp2, hp31, hn1, hn8⟩ := sizes_range (alg_sizes (ok1_alg hc))
    obtain ⟨n, rfl⟩ := Int.eq_ofNat_of_zero_le (show 0 ≤ n by omega)
    have hn : n ≤ 8 := by omega
    have hp : 0 < p := by omega
    have hp' : p ≤ 255 := by omega
    have ht : ((n : Nat) : Int).toNat = n := by omega
    by_cases hr : 0 ≤ c ∧ c ≤ 100
    · obtain ⟨c, rfl⟩ := Int.eq_ofNat_of_zero_le hr.1
      have hi : inB (c : Int) = true := by simp [inB]; omega
      have hc100 : c ≤ 100 := by omega
      have tc : ((c : Nat) : Int).toNat = c := by omega
      have HR : Hid (row 8 (powR p n f v c) = row 8 (powF p n f v c)) := Lib.hid (by unfold powR; rw [hc, hi, ht, tc])
      have HC : Hid (powC p n f v c = 0) := Lib.hid (by unfold powC; rw [hc, hi])
      clear hc ht hi tc
      go_enter Try.func96, Try.ntmps96
      go_wp2_with fail
      refine (isAlgebraWith_any p n f (w.heap.size + 1 + 1 + 1) 0 1 1 (nth v) _ HF.out (by omega) (by simp [go_sem]) (fun i hi => ?_)).mono ?_
      · have hq : blk ((((w.alloc (.cells (alg p n f) 31)).alloc (.cells (row 8 v) 25)).alloc (.cells (row 8 zf) 25)).alloc (.cells (row 8 v) 25)) (w.heap.size + 1 + 1 + 1) = row 8 v := by simp [go_sem]
        rw [hq, row_size]
        exact ⟨by omega, nth_row _ 8 i (by omega), HP.out i hi⟩
      rintro e w1 ⟨rfl, hw1⟩
      obtain ⟨x0, y0⟩ := keepB (b := w.heap.size) (c := alg p n f) hw1 (by simp <;> omega) (by simp [go_sem]) (by simp [go_sem])
      obtain ⟨x1, y1⟩ := keepB (b := w.heap.size + 1) (c := row 8 v) hw1 (by simp <;> omega) (by simp [go_sem]) (by simp [go_sem])
      obtain ⟨x2, y2⟩ := keepB (b := w.heap.size + 2) (c := row 8 zf) hw1 (by simp <;> omega) (by simp [go_sem]) (by simp [go_sem])
      have hb1 : Below w.heap.size w w1 := Below.trans (((((Below.refl w.heap.size w).alloc (Nat.le_refl _) (.cells (alg p n f) 31)).alloc (by simp) (.cells (row 8 v) 25)).alloc (by simp; omega) (.cells (row 8 zf) 25)).alloc (by simp; omega) (.cells (row 8 v) 25)) (hw1.mono (by simp; omega))
      clear hw1
      have z2 := isRow_lt x2
      have z1 := isRow_lt x1
      have z0 := isRow_lt x0
      go_wp2_with fail
      go_loopw [25] (fun s wr => ∃ k : Nat, k ≤ c ∧ s = .int .i64 (k) ∧ Below w.heap.size w wr ∧ (IsRow wr w.heap.size ∧ blk wr w.heap.size = alg p n f) ∧ (IsRow wr (w.heap.size + 1) ∧ blk wr (w.heap.size + 1) = row 8 v) ∧ (IsRow wr (w.heap.size + 2) ∧ blk wr (w.heap.size + 2) = row 8 zf) ∧
          (IsRow wr w1.heap.size ∧ blk wr w1.heap.size = row 8 (powF p n f v k))) (fun s _ => c - (intOf s).toNat)
      case atStart =>
        refine ⟨0, by omega, by simp, hb1.alloc hb1.size _, by simp [go_sem, x0, y0, z0, Nat.ne_of_lt z0], by simp [go_sem, x1, y1, z1, Nat.ne_of_lt z1], by simp [go_sem, x2, y2, z2, Nat.ne_of_lt z2], by simp [go_sem], ?_⟩
        simp [go_sem, powF]
      case round =>
        obtain ⟨k, hk, rfl, hb, ⟨r0, c0⟩, ⟨r1, c1⟩, ⟨r2, c2⟩, ⟨r3, c3⟩⟩ := hrel
        have l0 := isRow_lt r0
        have l1 := isRow_lt r1
        have l2 := isRow_lt r2
        have l3 := isRow_lt r3
        have n2 : w.heap.size + 2 ≠ w1.heap.size := by omega
        have n1 : w.heap.size + 1 ≠ w1.heap.size := by omega
        have n0 : w.heap.size ≠ w1.heap.size := by omega
        by_cases hlt : k < c
        · have HB : Hid (Bytes 8 (powF p n f v k)) := Lib.hid (powF_bytes hp hp' n HF.out v k)
          go_wp2_with (go_at_call 171; refine (multiply_any p n f _ _ _ hp hp' hn HF.out HB.out Hv.out).mono ?_; rintro e w2 ⟨rfl, hw2⟩; obtain ⟨x0, y0⟩ := keepB hw2 l0 r0 c0; obtain ⟨x1, y1⟩ := keepB hw2 l1 r1 c1; obtain ⟨x2, y2⟩ := keepB hw2 l2 r2 c2; obtain ⟨x3, y3⟩ := keepB hw2 l3 r3 c3)
          go_roundw
          case rel =>
            refine ⟨k + 1, by omega, by first | go_num | (simp; omega), below_setRow (hb.trans (hw2.mono hb.size)) (by omega) _, by simp [go_sem, x0, y0, x3, n0], by simp [go_sem, x1, y1, x3, n1], by simp [go_sem, x2, y2, x3, n2], by simp [go_sem, x3], ?_⟩
            rw [blk_setRow _ _ _ _ x3, if_pos rfl]
            rfl
          case measure => simp [intOf]; omega
        · obtain rfl : k = c := by omega
          go_wp2
          refine bodyPost_ret (result_cell_tmp rfl aggVec _ _ (row 8 (powF p n f v k)) _ _ rfl rfl ?_ ?_) rfl ⟨by rw [HR.out, HC.out]; rfl, ?_⟩
          · simp [go_sem, r2, c2]
          · simp [go_sem, r2, c2]
          · exact below_setRow hb (by omega) _
    · have hi : inB c = false := by unfold inB; rw [← Bool.decide_and]; exact decide_eq_false hr
      have HR : Hid (row 8 (powR p n f v c) = row 8 zf) := Lib.hid (by unfold powR; rw [hc, hi])
      have HC : Hid (powC p n f v c = 2) := Lib.hid (by unfold powC; rw [hc, hi])
      clear hc hi
      go_enter Try.func96, Try.ntmps96
      go_wp2_with fail
      refine (isAlgebraWith_any p n f (w.heap.size + 1 + 1 + 1) 0 1 1 (nth v) _ HF.out (by omega) (by simp [go_sem]) (fun i hi => ?_)).mono ?_
      · have hq : blk ((((w.alloc (.cells (alg p n f) 31)).alloc (.cells (row 8 v) 25)).alloc (.cells (row 8 zf) 25)).alloc (.cells (row 8 v) 25)) (w.heap.size + 1 + 1 + 1) = row 8 v := by simp [go_sem]
        rw [hq, row_size]
        exact ⟨by omega, nth_row _ 8 i (by omega), HP.out i hi⟩
      rintro e w1 ⟨rfl, hw1⟩
      obtain ⟨x0, y0⟩ := keepB (b := w.heap.size) (c := alg p n f) hw1 (by simp <;> omega) (by simp [go_sem]) (by simp [go_sem])
      obtain ⟨x1, y1⟩ := keepB (b := w.heap.size + 1) (c := row 8 v) hw1 (by simp <;> omega) (by simp [go_sem]) (by simp [go_sem])
      obtain ⟨x2, y2⟩ := keepB (b := w.heap.size + 2) (c := row 8 zf) hw1 (by simp <;> omega) (by simp [go_sem]) (by simp [go_sem])
      have hb1 : Below w.heap.size w w1 := Below.trans (((((Below.refl w.heap.size w).alloc (Nat.le_refl _) (.cells (alg p n f) 31)).alloc (by simp) (.cells (row 8 v) 25)).alloc (by simp; omega) (.cells (row 8 zf) 25)).alloc (by simp; omega) (.cells (row 8 v) 25)) (hw1.mono (by simp; omega))
      clear hw1
      have z2 := isRow_lt x2
      have z1 := isRow_lt x1
      have z0 := isRow_lt x0
      by_cases h0 : c < 0
      · go_wp2_with fail
        refine bodyPost_ret (result_cell_tmp rfl aggVec _ _ (row 8 zf) _ _ rfl rfl ?_ ?_) rfl ⟨by rw [HR.out, HC.out]; rfl, ?_⟩
        · simp [go_sem, x2, y2]
        · simp [go_sem, x2, y2]
        · exact below_setRow hb1 (by omega) _
      · have h100 : 100 < c := by omega
        go_wp2_with fail
        refine bodyPost_ret (result_cell_tmp rfl aggVec _ _ (row 8 zf) _ _ rfl rfl ?_ ?_) rfl ⟨by rw [HR.out, HC.out]; rfl, ?_⟩
        · simp [go_sem, x2, y2]
        · simp [go_sem, x2, y2]
        · exact below_setRow hb1 (by omega) _

set_option maxRecDepth 100000 in
set_option maxHeartbeats 2000000 in
theorem lawPowerOf (p n : Int) (f v : Nat → Int) (c : Int) (_wp : (Lit.int .i64 p).wf = true) (_wn : (Lit.int .i64 n).wf = true) (hF : Bytes 520 f) (hv : Bytes 8 v) (_wc : (Lit.int .i64 c).wf = true) (w : World) :
    Calls Try.prog 11 #[.agg (alg p n f), .agg (row 8 v), .int .i64 c] w fun e w' => e = .returned (.bool true) ∧ Below w.heap.size w w' := by
  have HF := Lib.hid hF
  have Hv := Lib.hid hv
  clear hF hv
  go_enter Try.func11, Try.ntmps11
  go_wp2
  have F0 : Below w.heap.size w ((w.alloc (.cells (alg p n f) 85)).alloc (.cells (row 8 v) 24)) := ((Below.refl w.heap.size w).alloc (Nat.le_refl _) _).alloc (by simp) _
  have F1 : IsRow ((w.alloc (.cells (alg p n f) 85)).alloc (.cells (row 8 v) 24)) w.heap.size ∧ blk ((w.alloc (.cells (alg p n f) 85)).alloc (.cells (row 8 v) 24)) w.heap.size = alg p n f := by simp [go_sem]
  have F2 : IsRow ((w.alloc (.cells (alg p n f) 85)).alloc (.cells (row 8 v) 24)) (w.heap.size + 1) ∧ blk ((w.alloc (.cells (alg p n f) 85)).alloc (.cells (row 8 v) 24)) (w.heap.size + 1) = row 8 v := by simp [go_sem]
  generalize (w.alloc (.cells (alg p n f) 85)).alloc (.cells (row 8 v) 24) = wr at F0 F1 F2 ⊢
  have y1 := isRow_lt F1.1
  have y2 := isRow_lt F2.1
  have HC : ∀ W, Below wr.heap.size wr W → (IsRow W w.heap.size ∧ blk W w.heap.size = alg p n f) ∧ (IsRow W (w.heap.size + 1) ∧ blk W (w.heap.size + 1) = row 8 v) := fun W h => ⟨keepB h y1 F1.1 F1.2, keepB h y2 F2.1 F2.2⟩
  clear F1 F2
  refine wp_quiet_alloc_late 9 8 _ _ (.cells (row 8 zf) 25) (Below wr.heap.size wr) (Made wr (row 8 zf)) (by kernel_rfl) rfl rfl rfl (by kernel_rfl) (by kernel_rfl) (fun _ a w d v h => by cases d <;> exact h) (fun a W => (xallocVec _ _ _ _ _ _ _).trans (allocVec W)) (closed_below wr) (closed_made wr _) (fun b W h => h.1) (fun W h => made_new wr _ _ W h) (Below.refl _ _).drew ?_
  simp only [List.take_succ_cons, List.take_zero, List.drop_succ_cons, List.drop_zero]
  repeat (first | (refine e_plain rfl ?_; apply Exists.intro; refine ⟨fun D hD hK W hW => ?_, ?_⟩; (focus (obtain ⟨⟨x1, x2⟩, x3, x4⟩ := HC W (hD W hW); unfold Oper.quietAt; go_simp; first | done | rfl | (first | (go_at_call 88; exact (toAlgebra_any _ _ _ _).mono fun e w2 ⟨he, hw2⟩ => ⟨he, hK _ _ hW hw2⟩) | (go_at_call 86; exact (toVector_any _ _).mono fun e w2 ⟨he, hw2⟩ => ⟨he, hK _ _ hW hw2⟩) | (go_at_call 95; exact (specPowerOf_any p n f v c _ HF.out Hv.out).mono fun e w2 ⟨he, hw2⟩ => ⟨he, hK _ _ hW hw2⟩)))); simp only [Act.put, List.setIfInBounds_toArray, List.set_cons_zero, List.set_cons_succ]) | (refine e_skip (by rfl) ?_; simp only [Act.put, List.setIfInBounds_toArray, List.set_cons_zero, List.set_cons_succ]) | (refine e_want (by rfl) ?_; apply Exists.intro; refine ⟨fun D hD hK W hW => ?_, ?_⟩; (focus (obtain ⟨⟨x1, x2⟩, x3, x4⟩ := HC W (hD W hW); unfold Oper.quietAt; go_simp; first | done | rfl | (first | (go_at_call 88; exact (toAlgebra_any _ _ _ _).mono fun e w2 ⟨he, hw2⟩ => ⟨he, hK _ _ hW hw2⟩) | (go_at_call 86; exact (toVector_any _ _).mono fun e w2 ⟨he, hw2⟩ => ⟨he, hK _ _ hW hw2⟩) | (go_at_call 95; exact (specPowerOf_any p n f v c _ HF.out Hv.out).mono fun e w2 ⟨he, hw2⟩ => ⟨he, hK _ _ hW hw2⟩)))); simp only [Act.put, List.setIfInBounds_toArray, List.set_cons_zero, List.set_cons_succ]))
  refine e_nil ?_
  intro b W hW
  obtain ⟨hW1, hbb, m1, m2⟩ := hW
  obtain ⟨⟨x1, x2⟩, x3, x4⟩ := HC W hW1
  clear HC
  have hb0 : b ≠ w.heap.size := by omega
  have hb1 : b ≠ w.heap.size + 1 := by omega
  have hb0' := Ne.symm hb0
  have hb1' := Ne.symm hb1
  have hwr := F0.size
  simp only [Act.put, List.setIfInBounds_toArray, List.set_cons_zero, List.set_cons_succ]
  go_wp2
  have G0 : Below w.heap.size w (W.setRow b (row 8 (powR p n f v c))) := below_setRow (F0.trans (hW1.mono hwr)) (by omega) _
  have G1 : IsRow (W.setRow b (row 8 (powR p n f v c))) w.heap.size ∧ blk (W.setRow b (row 8 (powR p n f v c))) w.heap.size = alg p n f := by simp [go_sem, x1, x2, m1, hb0']
  have G2 : IsRow (W.setRow b (row 8 (powR p n f v c))) (w.heap.size + 1) ∧ blk (W.setRow b (row 8 (powR p n f v c))) (w.heap.size + 1) = row 8 v := by simp [go_sem, x3, x4, m1, hb1']
  have G4 : IsRow (W.setRow b (row 8 (powR p n f v c))) b ∧ blk (W.setRow b (row 8 (powR p n f v c))) b = row 8 (powR p n f v c) := by simp [go_sem, m1]
  clear x1 x2 x3 x4 m1 m2
  generalize W.setRow b (row 8 (powR p n f v c)) = W1 at G0 G1 G2 G4 ⊢
  have v1 := isRow_lt G1.1
  have v2 := isRow_lt G2.1
  have v4 := isRow_lt G4.1
  have HC : ∀ W, Below W1.heap.size W1 W → (IsRow W w.heap.size ∧ blk W w.heap.size = alg p n f) ∧ (IsRow W (w.heap.size + 1) ∧ blk W (w.heap.size + 1) = row 8 v) ∧ (IsRow W b ∧ blk W b = row 8 (powR p n f v c)) :=
    fun W h => ⟨keepB h v1 G1.1 G1.2, keepB h v2 G2.1 G2.2, keepB h v4 G4.1 G4.2⟩
  clear G1 G2 G4
  refine wp_quiet_alloc_late 9 8 _ _ (.cells (row 8 zf) 25) (Below W1.heap.size W1) (Made W1 (row 8 zf)) (by kernel_rfl) rfl rfl rfl (by kernel_rfl) (by kernel_rfl) (fun _ a w d v h => by cases d <;> exact h) (fun a W => (xallocVec _ _ _ _ _ _ _).trans (allocVec W)) (closed_below W1) (closed_made W1 _) (fun b W h => h.1) (fun W h => made_new W1 _ _ W h) (Below.refl _ _).drew ?_
  simp only [List.take_succ_cons, List.take_zero, List.drop_succ_cons, List.drop_zero]
  repeat (first | (refine e_plain rfl ?_; apply Exists.intro; refine ⟨fun D hD hK W hW => ?_, ?_⟩; (focus (obtain ⟨⟨x1, x2⟩, ⟨x3, x4⟩, x7, x8⟩ := HC W (hD W hW); unfold Oper.quietAt; go_simp; first | done | rfl | (first | (go_at_call 88; exact (toAlgebra_any _ _ _ _).mono fun e w2 ⟨he, hw2⟩ => ⟨he, hK _ _ hW hw2⟩) | (go_at_call 86; exact (toVector_any _ _).mono fun e w2 ⟨he, hw2⟩ => ⟨he, hK _ _ hW hw2⟩) | (go_at_call 96; exact (powerOf_any p n f v c _ HF.out Hv.out).mono fun e w2 ⟨he, hw2⟩ => ⟨he, hK _ _ hW hw2⟩)))); simp only [Act.put, List.setIfInBounds_toArray, List.set_cons_zero, List.set_cons_succ]) | (refine e_skip (by rfl) ?_; simp only [Act.put, List.setIfInBounds_toArray, List.set_cons_zero, List.set_cons_succ]) | (refine e_want (by rfl) ?_; apply Exists.intro; refine ⟨fun D hD hK W hW => ?_, ?_⟩; (focus (obtain ⟨⟨x1, x2⟩, ⟨x3, x4⟩, x7, x8⟩ := HC W (hD W hW); unfold Oper.quietAt; go_simp; first | done | rfl | (first | (go_at_call 88; exact (toAlgebra_any _ _ _ _).mono fun e w2 ⟨he, hw2⟩ => ⟨he, hK _ _ hW hw2⟩) | (go_at_call 86; exact (toVector_any _ _).mono fun e w2 ⟨he, hw2⟩ => ⟨he, hK _ _ hW hw2⟩) | (go_at_call 96; exact (powerOf_any p n f v c _ HF.out Hv.out).mono fun e w2 ⟨he, hw2⟩ => ⟨he, hK _ _ hW hw2⟩)))); simp only [Act.put, List.setIfInBounds_toArray, List.set_cons_zero, List.set_cons_succ]))
  refine e_nil ?_
  intro b2 W2 hW
  obtain ⟨hW2, hbb2, m1, m2⟩ := hW
  obtain ⟨⟨x1, x2⟩, ⟨x3, x4⟩, x7, x8⟩ := HC W2 hW2
  clear HC
  have q2 : b2 ≠ b := by omega
  have q2' := Ne.symm q2
  have hw1 := G0.size
  simp only [Act.put, List.setIfInBounds_toArray, List.set_cons_zero, List.set_cons_succ]
  have K0 : Below w.heap.size w (W2.setRow b2 (row 8 (powR p n f v c))) := below_setRow (G0.trans (hW2.mono hw1)) (by omega) _
  have hz := K0.size
  go_wp2_with fail
  refine (eqVector_same _ _).mono ?_; rintro e w3 ⟨rfl, hw3⟩
  go_wp2_with fail
  go_ret
  exact ⟨rfl, K0.trans (hw3.mono hz)⟩
end Go.Proofs.Ytkcddfpchkjcgaa
