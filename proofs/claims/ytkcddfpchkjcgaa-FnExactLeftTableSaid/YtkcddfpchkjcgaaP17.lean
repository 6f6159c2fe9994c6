/- TraceOf, of the program and of the reference model. -/
import Derived.Test.YtkcddfpchkjcgaaP16
namespace Go.Proofs.Ytkcddfpchkjcgaa
open Go.RowKit
set_option linter.unusedSimpArgs false
set_option linter.unusedVariables false
attribute [local irreducible] wpQuiet wpQE

/-- the vector that the calls on v check -/
def ok1 (p n : Int) (f v : Nat → Int) : Bool := okB p n f 1 (nth v)
theorem ok1_alg {p n : Int} {f v : Nat → Int} (h : ok1 p n f v = true) : algB p n f = true := by
  unfold ok1 okB at h
  simp only [Bool.and_eq_true] at h
  exact h.1
theorem one_bytes {v : Nat → Int} (hv : Bytes 8 v) (i : Nat) (hi : i < 1) : Bytes 8 (nth v i) := by
  obtain rfl : i = 0 := by omega
  rw [nth_zero]; exact hv
/-- the trace, or 0 -/
def traceR (p n : Int) (f v : Nat → Int) : Int := match ok1 p n f v with | true => dsum (leftK p n.toNat f v n.toNat) n.toNat % p | false => 0
theorem ret_two {a b c d : Int} (h : a = b) (h' : c = d) : Ending.returned (.tuple #[.int .i64 a, .int .i64 c]) = .returned (.tuple #[.int .i64 b, .int .i64 d]) := by rw [h, h']

/-- rows behind the last one are zeros, so the sum over all eight is the sum over n -/
theorem dsum_more (p : Int) (n : Nat) (f v : Nat → Int) : ∀ (j : Nat), dsum (leftK p n f v n) (n + j) = dsum (leftK p n f v n) n
  | 0 => rfl
  | j + 1 => by
    have h : leftK p n f v n ((n + j) * 8 + (n + j)) = 0 := by
      unfold leftK
      rw [if_neg (by omega)]
    rw [show n + (j + 1) = (n + j) + 1 by omega, show dsum (leftK p n f v n) (n + j + 1) = dsum (leftK p n f v n) (n + j) + leftK p n f v n ((n + j) * 8 + (n + j)) from rfl, dsum_more p n f v j, h, Int.add_zero]

set_option maxRecDepth 100000 in
set_option maxHeartbeats 1000000 in
theorem specTraceOf_any (p n : Int) (f v : Nat → Int) (w : World) (hF : Bytes 520 f) (hv : Bytes 8 v) :
    Calls Try.prog 105 #[.agg (alg p n f), .agg (row 8 v)] w fun e w' =>
      e = .returned (.tuple #[.int .i64 (traceR p n f v), .int .i64 (codeB (ok1 p n f v))]) ∧ Below w.heap.size w w' := by
  have HF := Lib.hid hF
  have Hv := Lib.hid hv
  have HP : Hid (∀ i, i < 1 → Bytes 8 (nth v i)) := Lib.hid (one_bytes hv)
  clear hF hv
  cases hc : ok1 p n f v
  · have hc' : codeB (okB p n f 1 (nth v)) = 1 := by
      have : okB p n f 1 (nth v) = false := hc
      rw [this]; rfl
    have HR : Hid (traceR p n f v = 0) := Lib.hid (by unfold traceR; rw [hc])
    clear hc
    go_enter Try.func105, Try.ntmps105
    go_wp2_with fail
    refine (l01Code_any p n f (w.heap.size + 1 + 1) 0 1 1 (nth v) _ HF.out (by omega) (by simp [go_sem]) (fun i hi => ?_)).mono ?_
    · have hq : blk (((w.alloc (.cells (alg p n f) 31)).alloc (.cells (row 8 v) 25)).alloc (.cells (row 8 v) 25)) (w.heap.size + 1 + 1) = row 8 v := by simp [go_sem]
      rw [hq, row_size]
      exact ⟨by omega, nth_row _ 8 i (by omega), HP.out i hi⟩
    rintro e w1 ⟨rfl, hw1⟩
    have hb1 : Below w.heap.size w w1 := Below.trans ((((Below.refl w.heap.size w).alloc (Nat.le_refl _) (.cells (alg p n f) 31)).alloc (by simp) (.cells (row 8 v) 25)).alloc (by simp; omega) (.cells (row 8 v) 25)) (hw1.mono (by simp; omega))
    go_wp2_with fail
    go_ret2
    exact ⟨ret_two HR.out.symm rfl, hb1⟩
  · have hc' : codeB (okB p n f 1 (nth v)) = 0 := by
      have : okB p n f 1 (nth v) = true := hc
      rw [this]; rfl
    obtain ⟨hp2, hp31, hn1, hn8⟩ := sizes_range (alg_sizes (ok1_alg hc))
    obtain ⟨n, rfl⟩ := Int.eq_ofNat_of_zero_le (show 0 ≤ n by omega)
    have hn : n ≤ 8 := by omega
    have hp : 0 < p := by omega
    have hp' : p ≤ 255 := by omega
    have ht : ((n : Nat) : Int).toNat = n := by omega
    have HR : Hid (traceR p n f v = dsum (leftK p n f v n) n % p) := Lib.hid (by unfold traceR; rw [hc, ht])
    clear hc ht
    go_enter Try.func105, Try.ntmps105
    go_wp2_with fail
    refine (l01Code_any p n f (w.heap.size + 1 + 1) 0 1 1 (nth v) _ HF.out (by omega) (by simp [go_sem]) (fun i hi => ?_)).mono ?_
    · have hq : blk (((w.alloc (.cells (alg p n f) 31)).alloc (.cells (row 8 v) 25)).alloc (.cells (row 8 v) 25)) (w.heap.size + 1 + 1) = row 8 v := by simp [go_sem]
      rw [hq, row_size]
      exact ⟨by omega, nth_row _ 8 i (by omega), HP.out i hi⟩
    rintro e w1 ⟨rfl, hw1⟩
    obtain ⟨x0, y0⟩ := keepB (b := w.heap.size) (c := alg p n f) hw1 (by simp <;> omega) (by simp [go_sem]) (by simp [go_sem])
    obtain ⟨x1, y1⟩ := keepB (b := w.heap.size + 1) (c := row 8 v) hw1 (by simp <;> omega) (by simp [go_sem]) (by simp [go_sem])
    have hb1 : Below w.heap.size w w1 := Below.trans ((((Below.refl w.heap.size w).alloc (Nat.le_refl _) (.cells (alg p n f) 31)).alloc (by simp) (.cells (row 8 v) 25)).alloc (by simp; omega) (.cells (row 8 v) 25)) (hw1.mono (by simp; omega))
    clear hw1
    have z0 := isRow_lt x0
    have z1 := isRow_lt x1
    have HC : ∀ W, Below w1.heap.size w1 W → (IsRow W w.heap.size ∧ blk W w.heap.size = alg p n f) ∧ (IsRow W (w.heap.size + 1) ∧ blk W (w.heap.size + 1) = row 8 v) := fun W h => ⟨keepB h z0 x0 y0, keepB h z1 x1 y1⟩
    have HL : Hid (Bytes 64 (leftK p n f v n)) := Lib.hid (leftK_bytes hp hp' n f v n)
    go_wp2_with fail
    refine wp_quiet_tail 8 (Below w1.heap.size w1) (by kernel_rfl) (by kernel_rfl) (Below.refl _ _).drew ?_
    simp only [List.take_succ_cons, List.take_zero, List.drop_succ_cons, List.drop_zero]
    repeat (first | (refine q_plain rfl ?_; apply Exists.intro; refine ⟨fun W hW => ?_, ?_⟩; (focus (obtain ⟨⟨x1, x2⟩, x3, x4⟩ := HC W hW; go_simp; first | done | rfl | (first | (go_at_call 183; exact (l01Left_any p n f v _ hp hp' hn HF.out Hv.out).mono fun e w2 ⟨he, hw2⟩ => ⟨he, hW.trans (hw2.mono hW.size)⟩) | (go_at_call 186; exact (l01Trace_any p n _ _ hp hp' hn HL.out).mono fun e w2 ⟨he, hw2⟩ => ⟨he, hW.trans (hw2.mono hW.size)⟩)))); simp only [Act.put, List.setIfInBounds_toArray, List.set_cons_zero, List.set_cons_succ]) | (refine q_skip (by rfl) ?_; simp only [Act.put, List.setIfInBounds_toArray, List.set_cons_zero, List.set_cons_succ]) | (refine q_want (by rfl) ?_; apply Exists.intro; refine ⟨fun W hW => ?_, ?_⟩; (focus (obtain ⟨⟨x1, x2⟩, x3, x4⟩ := HC W hW; go_simp; first | done | rfl | (first | (go_at_call 183; exact (l01Left_any p n f v _ hp hp' hn HF.out Hv.out).mono fun e w2 ⟨he, hw2⟩ => ⟨he, hW.trans (hw2.mono hW.size)⟩) | (go_at_call 186; exact (l01Trace_any p n _ _ hp hp' hn HL.out).mono fun e w2 ⟨he, hw2⟩ => ⟨he, hW.trans (hw2.mono hW.size)⟩)))); simp only [Act.put, List.setIfInBounds_toArray, List.set_cons_zero, List.set_cons_succ]))
    refine wpQuiet_nil ?_
    intro W hW
    go_wp2
    go_ret2
    exact ⟨ret_two HR.out.symm rfl, hb1.trans (hW.mono hb1.size)⟩

set_option maxRecDepth 100000 in
set_option maxHeartbeats 1000000 in
theorem traceOf_any (p n : Int) (f v : Nat → Int) (w : World) (hF : Bytes 520 f) (hv : Bytes 8 v) :
    Calls Try.prog 106 #[.agg (alg p n f), .agg (row 8 v)] w fun e w' =>
      e = .returned (.tuple #[.int .i64 (traceR p n f v), .int .i64 (codeB (ok1 p n f v))]) ∧ Below w.heap.size w w' := by
  have HF := Lib.hid hF
  have Hv := Lib.hid hv
  have HP : Hid (∀ i, i < 1 → Bytes 8 (nth v i)) := Lib.hid (one_bytes hv)
  clear hF hv
  cases hc : ok1 p n f v
  · have hc' : okB p n f 1 (nth v) = false := hc
    have HR : Hid (traceR p n f v = 0) := Lib.hid (by unfold traceR; rw [hc])
    clear hc
    go_enter Try.func106, Try.ntmps106
    go_wp2_with fail
    refine (isAlgebraWith_any p n f (w.heap.size + 1 + 1) 0 1 1 (nth v) _ HF.out (by omega) (by simp [go_sem]) (fun i hi => ?_)).mono ?_
    · have hq : blk (((w.alloc (.cells (alg p n f) 31)).alloc (.cells (row 8 v) 25)).alloc (.cells (row 8 v) 25)) (w.heap.size + 1 + 1) = row 8 v := by simp [go_sem]
      rw [hq, row_size]
      exact ⟨by omega, nth_row _ 8 i (by omega), HP.out i hi⟩
    rintro e w1 ⟨rfl, hw1⟩
    have hb1 : Below w.heap.size w w1 := Below.trans ((((Below.refl w.heap.size w).alloc (Nat.le_refl _) (.cells (alg p n f) 31)).alloc (by simp) (.cells (row 8 v) 25)).alloc (by simp; omega) (.cells (row 8 v) 25)) (hw1.mono (by simp; omega))
    go_wp2_with fail
    go_ret2
    exact ⟨ret_two HR.out.symm rfl, hb1⟩
  · have hc' : okB p n f 1 (nth v) = true := hc
    obtain ⟨hp2, hp31, hn1, hn8⟩ := sizes_range (alg_sizes (ok1_alg hc))
    obtain ⟨n, rfl⟩ := Int.eq_ofNat_of_zero_le (show 0 ≤ n by omega)
    have hn : n ≤ 8 := by omega
    have hp : 0 < p := by omega
    have hp' : p ≤ 255 := by omega
    have ht : ((n : Nat) : Int).toNat = n := by omega
    have HR : Hid (traceR p n f v = dsum (leftK p n f v n) 8 % p) := Lib.hid (by
      unfold traceR; rw [hc, ht]
      have := dsum_more p n f v (8 - n)
      rw [show n + (8 - n) = 8 by omega] at this
      simp only [this])
    clear hc ht
    go_enter Try.func106, Try.ntmps106
    go_wp2_with fail
    refine (isAlgebraWith_any p n f (w.heap.size + 1 + 1) 0 1 1 (nth v) _ HF.out (by omega) (by simp [go_sem]) (fun i hi => ?_)).mono ?_
    · have hq : blk (((w.alloc (.cells (alg p n f) 31)).alloc (.cells (row 8 v) 25)).alloc (.cells (row 8 v) 25)) (w.heap.size + 1 + 1) = row 8 v := by simp [go_sem]
      rw [hq, row_size]
      exact ⟨by omega, nth_row _ 8 i (by omega), HP.out i hi⟩
    rintro e w1 ⟨rfl, hw1⟩
    obtain ⟨x0, y0⟩ := keepB (b := w.heap.size) (c := alg p n f) hw1 (by simp <;> omega) (by simp [go_sem]) (by simp [go_sem])
    obtain ⟨x1, y1⟩ := keepB (b := w.heap.size + 1) (c := row 8 v) hw1 (by simp <;> omega) (by simp [go_sem]) (by simp [go_sem])
    have hb1 : Below w.heap.size w w1 := Below.trans ((((Below.refl w.heap.size w).alloc (Nat.le_refl _) (.cells (alg p n f) 31)).alloc (by simp) (.cells (row 8 v) 25)).alloc (by simp; omega) (.cells (row 8 v) 25)) (hw1.mono (by simp; omega))
    clear hw1
    have z0 := isRow_lt x0
    have HL : Hid (Bytes 64 (leftK p n f v n)) := Lib.hid (leftK_bytes hp hp' n f v n)
    go_wp2_with fail
    refine (leftTable_any p n f v _ hp hp' hn HF.out Hv.out).mono ?_
    rintro e w2 ⟨rfl, hw2⟩
    obtain ⟨x2, y2⟩ := keepB hw2 z0 x0 y0
    have hb2 := hb1.trans (hw2.mono hb1.size)
    clear hw2
    go_wp2_with fail
    go_loopw [6, 17] (fun s i wr => ∃ k : Nat, k ≤ 8 ∧ s = .int .i64 (dsum (leftK p n f v n) k) ∧ i = .int .i64 k ∧ Below w.heap.size w wr ∧ (IsRow wr w.heap.size ∧ blk wr w.heap.size = alg p n f)) (fun _ i _ => 8 - (intOf i).toNat)
    case atStart => exact ⟨0, by omega, rfl, rfl, hb2, x2, y2⟩
    case round =>
      obtain ⟨k, hk, rfl, rfl, hb, r0, c0⟩ := hrel
      have b1 := (dsum_le HL.out k (by omega)).1
      have b2 := (dsum_le HL.out k (by omega)).2
      by_cases hlt : k < 8
      · have hi8 : (k : Int) < 8 := by omega
        have hk8 : k * 8 + 8 ≤ 64 := by omega
        have hk9 : k * 8 + k < 64 := by omega
        have b3 := (HL.out (k * 8 + k) hk9).1
        have b4 := (HL.out (k * 8 + k) hk9).2
        have zr := isRow_lt r0
        go_wp2
        go_roundw
        case rel => exact ⟨k + 1, by omega, rfl, by go_num, by first | exact hb.alloc hb.size _ | exact below_setRow (hb.alloc hb.size _) hb.size _, by simp [go_sem, r0, zr], by simp [go_sem, c0, zr, Nat.ne_of_lt zr]⟩
        case measure => simp [intOf]; omega
      · obtain rfl : k = 8 := by omega
        have h3 := (mod_range (dsum (leftK p n f v n) 8) p hp).1
        have h4 := (mod_range (dsum (leftK p n f v n) 8) p hp).2
        go_wp2
        go_ret2
        exact ⟨ret_two HR.out.symm rfl, hb⟩
end Go.Proofs.Ytkcddfpchkjcgaa
