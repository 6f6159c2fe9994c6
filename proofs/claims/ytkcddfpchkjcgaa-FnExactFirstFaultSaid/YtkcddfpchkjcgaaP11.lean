/- The laws' copies of arrays and algebras, and the walk of FnExactIsAlgebra. -/
import Derived.Test.YtkcddfpchkjcgaaP10
import Derived.Test.YtkcddfpchkjcgaaLift
namespace Go.Proofs.Ytkcddfpchkjcgaa
open Go.RowKit
set_option linter.unusedSimpArgs false
set_option linter.unusedVariables false

/-! ### laws.Algebra -/
theorem aggAlgL : AggT Try.prog 85 522 := ⟨by kernel_rfl, by kernel_rfl⟩
@[go_sem ↓] theorem xloadAlgL (ρ : Operand → Value) (dst : Option Tmp) (a : Operand) (ty : TypeId) (pos : String) (after : Array Edge) (guard : Option (Nat × Bool)) (w : World) :
    (execOp ρ ⟨dst, .load 85 a, ty, pos, after, guard⟩).run Try.prog w = loadN Try.prog 85 (ρ a) w := rfl
@[go_sem] theorem loadAlgL (w : World) (b off : Nat) (h : Has w b (off + 522)) :
    loadN Try.prog 85 (.pointer (some ⟨b, off, none⟩)) w = .ok (.value (.agg ((blk w b).extract off (off + 522)))) w := loadN_at aggAlgL w b off h
theorem cell_i64 {P : Program} {w : World} {r : Reach} {base u : Nat} {v : Value} (hu : P.underlying u = some (.int .i64)) (h : Cell.okWide P w r base u v) : ∃ n : Int, v = .int .i64 n ∧ (Lit.int .i64 n).wf = true := by
  unfold Cell.okWide at h
  rw [hu] at h
  cases v <;> simp [Cell.ok, hu] at h
  obtain ⟨rfl, h1⟩ := h
  exact ⟨_, rfl, by simp [Lit.wf, IntKind.has, IntKind.min, IntKind.max, IntKind.signed, IntKind.bits] at h1 ⊢; omega⟩
set_option maxRecDepth 100000 in
theorem open_alg {w : World} {r : Reach} {base : Nat} {v : Value} (h : Value.okWide Try.prog w r base 85 v) :
    ∃ (p n : Int) (f : Nat → Int), v = .agg (alg p n f) ∧ (Lit.int .i64 p).wf = true ∧ (Lit.int .i64 n).wf = true ∧ Bytes 520 f := by
  have ht : Try.prog.cellTypes Try.prog.depth 85 = some ([2, 2] ++ List.replicate 520 5) := by kernel_rfl
  have hc : Try.prog.cellsOf 85 = 522 := by kernel_rfl
  unfold Value.okWide at h
  rw [Try.underlying85] at h
  obtain ⟨cs, rfl, hs, ts, hts, _, hall⟩ := h
  rw [ht] at hts
  simp only [Option.some.injEq] at hts
  rw [hc] at hs
  have hlen : ts.length = 522 := by rw [← hts]; rfl
  have get : ∀ i, i < 522 → ∃ v u, cs[i]? = some v ∧ ts[i]? = some u ∧ Cell.okWide Try.prog w r base u v := by
    intro i hi
    obtain ⟨v, hv⟩ : ∃ v, cs[i]? = some v := ⟨cs[i], by simp [hs, hi]⟩
    obtain ⟨u, h1, h2⟩ := hall i v hv
    rw [hlen, Nat.mod_eq_of_lt hi] at h1
    exact ⟨v, u, hv, h1, h2⟩
  obtain ⟨v0, u0, h0, t0, k0⟩ := get 0 (by omega)
  obtain ⟨v1, u1, h1, t1, k1⟩ := get 1 (by omega)
  rw [← hts] at t0 t1
  obtain rfl : u0 = 2 := by simpa using t0.symm
  obtain rfl : u1 = 2 := by simpa using t1.symm
  obtain ⟨p, rfl, wp⟩ := cell_i64 Try.underlying2 k0
  obtain ⟨n, rfl, wn⟩ := cell_i64 Try.underlying2 k1
  have key : ∀ i, i < 520 → ∃ k : Int, cs[2 + i]? = some (.int .u8 k) ∧ 0 ≤ k ∧ k ≤ 255 := by
    intro i hi
    obtain ⟨v, u, h2, t2, k2⟩ := get (2 + i) (by omega)
    have e : u = 5 := by
      rw [← hts, List.getElem?_append] at t2
      simp only [List.length_cons, List.length_nil] at t2
      rw [if_neg (by omega), List.getElem?_replicate] at t2
      split at t2
      · simpa using t2.symm
      · cases t2
    subst e
    obtain ⟨k, rfl, h3, h4⟩ := cell_u8 Try.underlying5 k2
    exact ⟨k, h2, h3, h4⟩
  refine ⟨p, n, fun i => cellInt cs (2 + i), ?_, wp, wn, ?_⟩
  · refine congrArg Value.agg ?_
    refine alg_ext h0 h1 (fun i hi => ?_) (fun i hi => by simp [hs]; omega)
    obtain ⟨k, h2, _⟩ := key i hi
    simp only [h2, cellInt]
  · clear hall ht hc hts hlen get k0 k1 t0 t1 h0 h1
    intro i hi
    have hk := key i hi
    show 0 ≤ cellInt cs (2 + i) ∧ cellInt cs (2 + i) ≤ 255
    unfold cellInt
    obtain ⟨k, h2, h3, h4⟩ := hk
    rw [h2]
    exact ⟨h3, h4⟩

/-! ### the copies -/
theorem upto_part (n m k : Nat) (v : Nat → Int) (h : k * m + m ≤ n) : lay (row n (upto (k * m) v)) (k * m) (row m fun t => v (k * m + t)) = row n (upto ((k + 1) * m) v) := by
  rw [lay_row _ _ _ _ _ h]
  refine row_congr fun i _ => ?_
  unfold upto
  rw [Nat.add_mul, Nat.one_mul]
  by_cases h1 : k * m ≤ i ∧ i < k * m + m
  · rw [if_pos h1, if_pos h1.2, show k * m + (i - k * m) = i by omega]
  · rw [if_neg h1]
    by_cases h2 : i < k * m
    · rw [if_pos h2, if_pos (by omega)]
    · rw [if_neg h2, if_neg (by omega)]

set_option maxRecDepth 100000 in
theorem toLinear_any (v : Nat → Int) (w : World) :
    Calls Try.prog 230 #[.agg (row 64 v)] w fun e w' => e = .returned (.agg (row 64 v)) ∧ Below w.heap.size w w' := by
  go_enter Try.func230, Try.ntmps230
  go_wp2
  go_loopw [4] (fun i wr => ∃ k : Nat, k ≤ 8 ∧ i = .int .i64 k ∧ Below w.heap.size w wr ∧ (IsRow wr w.heap.size ∧ blk wr w.heap.size = row 64 v) ∧ (IsRow wr (w.heap.size + 1) ∧ blk wr (w.heap.size + 1) = row 64 zf) ∧
      (IsRow wr (w.heap.size + 2) ∧ blk wr (w.heap.size + 2) = row 64 (upto (k * 8) v))) (fun i _ => 8 - (intOf i).toNat)
  case atStart =>
    refine ⟨0, by omega, rfl, (((Below.refl _ _).alloc (Nat.le_refl _) _).alloc (by simp) _).alloc (by simp; omega) _, by simp [go_sem], by simp [go_sem], by simp [go_sem], ?_⟩
    rw [Nat.zero_mul, upto_zero]; simp [go_sem]
  case round =>
    obtain ⟨k, hk, rfl, hb, ⟨r0, c0⟩, ⟨r1, c1⟩, ⟨r2, c2⟩⟩ := hrel
    have z0 := isRow_lt r0
    have z1 := isRow_lt r1
    have z2 := isRow_lt r2
    by_cases hlt : k < 8
    · have hi8 : (k : Int) < 8 := by omega
      have hk8 : k * 8 + 8 ≤ 64 := by omega
      have H := Lib.hid (upto_part 64 8 k v hk8)
      go_wp2_with (go_at_call 86; refine (toVector_any (fun t => v (k * 8 + t)) _).mono ?_; rintro e w1 ⟨rfl, hw1⟩; obtain ⟨x0, y0⟩ := keepB hw1 z0 r0 c0; obtain ⟨x1, y1⟩ := keepB hw1 z1 r1 c1; obtain ⟨x2, y2⟩ := keepB hw1 z2 r2 c2)
      go_roundw
      case rel =>
        refine ⟨k + 1, by omega, by go_num, (hb.trans (hw1.mono hb.size)).trans (below_setRow (Below.refl _ _) (by omega) _), by simp [go_sem, x0, y0, x2], by simp [go_sem, x1, y1, x2], by simp [go_sem, x2], ?_⟩
        rw [blk_setRow _ _ _ _ x2, if_pos rfl]
        exact H.out
      case measure => simp [intOf]; omega
    · obtain rfl : k = 8 := by omega
      have HT : Hid (row 64 (upto (8 * 8) v) = row 64 v) := Lib.hid (upto_all 64 v)
      rw [HT.out] at c2
      go_wp2
      refine bodyPost_ret (result_cell rfl aggLin _ _ (row 64 v) _ rfl ?_ ?_) rfl ⟨rfl, ?_⟩
      · simp [go_sem, r1, c1]
      · simp [go_sem, r1, c1]
      · exact hb.trans (below_setRow (Below.refl _ _) (by omega) _)

set_option maxRecDepth 100000 in
theorem toTable_any (v : Nat → Int) (w : World) :
    Calls Try.prog 177 #[.agg (row 512 v)] w fun e w' => e = .returned (.agg (row 512 v)) ∧ Below w.heap.size w w' := by
  go_enter Try.func177, Try.ntmps177
  go_wp2
  go_loopw [4] (fun i wr => ∃ k : Nat, k ≤ 8 ∧ i = .int .i64 k ∧ Below w.heap.size w wr ∧ (IsRow wr w.heap.size ∧ blk wr w.heap.size = row 512 v) ∧ (IsRow wr (w.heap.size + 1) ∧ blk wr (w.heap.size + 1) = row 512 zf) ∧
      (IsRow wr (w.heap.size + 2) ∧ blk wr (w.heap.size + 2) = row 512 (upto (k * 64) v))) (fun i _ => 8 - (intOf i).toNat)
  case atStart =>
    refine ⟨0, by omega, rfl, (((Below.refl _ _).alloc (Nat.le_refl _) _).alloc (by simp) _).alloc (by simp; omega) _, by simp [go_sem], by simp [go_sem], by simp [go_sem], ?_⟩
    rw [Nat.zero_mul, upto_zero]; simp [go_sem]
  case round =>
    obtain ⟨k, hk, rfl, hb, ⟨r0, c0⟩, ⟨r1, c1⟩, ⟨r2, c2⟩⟩ := hrel
    have z0 := isRow_lt r0
    have z1 := isRow_lt r1
    have z2 := isRow_lt r2
    by_cases hlt : k < 8
    · have hi8 : (k : Int) < 8 := by omega
      have hk8 : k * 64 + 64 ≤ 512 := by omega
      have H := Lib.hid (upto_part 512 64 k v hk8)
      go_wp2_with (go_at_call 230; refine (toLinear_any (fun t => v (k * 64 + t)) _).mono ?_; rintro e w1 ⟨rfl, hw1⟩; obtain ⟨x0, y0⟩ := keepB hw1 z0 r0 c0; obtain ⟨x1, y1⟩ := keepB hw1 z1 r1 c1; obtain ⟨x2, y2⟩ := keepB hw1 z2 r2 c2)
      go_roundw
      case rel =>
        refine ⟨k + 1, by omega, by go_num, (hb.trans (hw1.mono hb.size)).trans (below_setRow (Below.refl _ _) (by omega) _), by simp [go_sem, x0, y0, x2], by simp [go_sem, x1, y1, x2], by simp [go_sem, x2], ?_⟩
        rw [blk_setRow _ _ _ _ x2, if_pos rfl]
        exact H.out
      case measure => simp [intOf]; omega
    · obtain rfl : k = 8 := by omega
      have HT : Hid (row 512 (upto (8 * 64) v) = row 512 v) := Lib.hid (upto_all 512 v)
      rw [HT.out] at c2
      go_wp2
      refine bodyPost_ret (result_cell rfl aggTab _ _ (row 512 v) _ rfl ?_ ?_) rfl ⟨rfl, ?_⟩
      · simp [go_sem, r1, c1]
      · simp [go_sem, r1, c1]
      · exact hb.trans (below_setRow (Below.refl _ _) (by omega) _)

set_option maxRecDepth 100000 in
theorem toAlgebra_any (p n : Int) (f : Nat → Int) (w : World) :
    Calls Try.prog 88 #[.agg (alg p n f)] w fun e w' => e = .returned (.agg (alg p n f)) ∧ Below w.heap.size w w' := by
  go_enter Try.func88, Try.ntmps88
  have HT : Hid (∀ g : Nat → Int, lay (alg p n g) 10 (row 512 (tab f)) = alg p n fun i => if 8 ≤ i then f i else g i) := Lib.hid fun g => by
    rw [show (10 : Nat) = 2 + 8 from rfl, lay_alg p n g (tab f) 8 512 (by omega)]
    refine alg_congr fun i hi => ?_
    by_cases h : 8 ≤ i
    · rw [if_pos ⟨h, by omega⟩, if_pos h]; unfold tab; congr 1; omega
    · rw [if_neg (by omega), if_neg h]
  have HU : Hid (lay (alg p n zf) 2 (row 8 f) = alg p n (upto 8 f)) := Lib.hid (by
    rw [show (2 : Nat) = 2 + 0 from rfl, lay_alg p n zf f 0 8 (by omega)]
    refine alg_congr fun i hi => ?_
    unfold upto zf
    by_cases h : i < 8
    · rw [if_pos ⟨by omega, by omega⟩, if_pos h, Nat.sub_zero]
    · rw [if_neg (by omega), if_neg h])
  have HV : Hid ((alg p n fun i => if 8 ≤ i then f i else upto 8 f i) = alg p n f) := Lib.hid (alg_congr fun i hi => by
    unfold upto
    by_cases h : 8 ≤ i
    · rw [if_pos h]
    · rw [if_neg h, if_pos (by omega)])
  go_wp2_with fail
  refine (toVector_any _ _).mono ?_; rintro e w1 ⟨rfl, hw1⟩
  obtain ⟨x0, y0⟩ := keepB (b := w.heap.size) (c := alg p n f) hw1 (by simp; omega) (by simp [go_sem]) (by simp [go_sem])
  obtain ⟨x1, y1⟩ := keepB (b := w.heap.size + 1) (c := alg 0 0 zf) hw1 (by simp) (by simp [go_sem]) (by simp [go_sem])
  obtain ⟨x2, y2⟩ := keepB (b := w.heap.size + 2) (c := alg p n zf) hw1 (by simp) (by simp [go_sem]) (by simp [go_sem])
  have z2 := isRow_lt x2
  have hb1 := ((((Below.refl w.heap.size w).alloc (Nat.le_refl _) (.cells (alg p n f) 85)).alloc (by simp) (.cells (alg 0 0 zf) 31)).alloc (by simp; omega) (.cells (alg p n zf) 31)).trans (hw1.mono (by simp; omega))
  clear hw1
  go_wp2_with fail
  refine (toTable_any _ _).mono ?_; rintro e w2 ⟨rfl, hw2⟩
  rw [HU.out] at hw2
  obtain ⟨s0, d0⟩ := keepB (b := w.heap.size) (c := alg p n f) hw2 (by simp; omega) (by simp [go_sem, x0, x2]) (by simp [go_sem, y0, x2])
  obtain ⟨s1, d1⟩ := keepB (b := w.heap.size + 1) (c := alg 0 0 zf) hw2 (by simp; omega) (by simp [go_sem, x1, x2]) (by simp [go_sem, y1, x2])
  obtain ⟨s2, d2⟩ := keepB (b := w.heap.size + 2) (c := alg p n (upto 8 f)) hw2 (by simp; omega) (by simp [go_sem, x2]) (by simp [go_sem, x2])
  have HW : lay (alg p n (upto 8 f)) 10 (row 512 (tab f)) = alg p n f := (HT.out (upto 8 f)).trans HV.out
  have z3 := hw2.size
  simp at z3
  have hb2 : Below w.heap.size w w2 := (below_setRow hb1 (Nat.le_add_right _ _) _).trans (hw2.mono (by simp; omega))
  clear hw2
  have z4 := isRow_lt s2
  go_wp2_with fail
  refine bodyPost_ret (result_cell rfl aggAlg _ _ (alg p n f) _ rfl ?_ ?_) rfl ⟨rfl, ?_⟩
  · simp [go_sem, s1, d1, s2, d2]
  · simp [go_sem, s1, d1, s2, d2, HW]
  · exact below_setRow (below_setRow hb2 (by omega) _) (by omega) _
end Go.Proofs.Ytkcddfpchkjcgaa
