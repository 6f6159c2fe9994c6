/- MultiplyVectors, of the program and of the reference model, and the walk of the law. -/
import Derived.Test.YtkcddfpchkjcgaaP13
namespace Go.Proofs.Ytkcddfpchkjcgaa
open Go.RowKit
set_option linter.unusedSimpArgs false
set_option linter.unusedVariables false
attribute [local irreducible] wpQuiet wpQE

/-! ### a list of vectors, made -/
def buildN (P : Program) (T : TypeId) (len : Nat) (ps : Array (Nat × Value)) (w : World) : Result Next := (do pure (Next.value (← Instr.buildSlice T len ps)) : Sem Next).run P w
@[go_sem ↓] theorem xbuild2 (ρ : Operand → Value) (dst : Option Tmp) (a b : Operand) (ty : TypeId) (pos : String) (after : Array Edge) (guard : Option (Nat × Bool)) (w : World) :
    (execOp ρ ⟨dst, .buildSlice 36 2 #[(0, a), (1, b)], ty, pos, after, guard⟩).run Try.prog w = buildN Try.prog 36 2 #[(0, ρ a), (1, ρ b)] w := by kernel_rfl
@[go_sem ↓] theorem xbuild1 (ρ : Operand → Value) (dst : Option Tmp) (a : Operand) (ty : TypeId) (pos : String) (after : Array Edge) (guard : Option (Nat × Bool)) (w : World) :
    (execOp ρ ⟨dst, .buildSlice 36 1 #[(0, a)], ty, pos, after, guard⟩).run Try.prog w = buildN Try.prog 36 1 #[(0, ρ a)] w := by kernel_rfl
/-- v and u behind each other -/
def pair (v u : Nat → Int) : Nat → Int := fun i => if i < 8 then v i else u (i - 8)
@[go_sem] theorem build2 (v u : Nat → Int) (w : World) : buildN Try.prog 36 2 #[(0, .agg (row 8 v)), (1, .agg (row 8 u))] w = .ok (.value (.slice (some ⟨w.heap.size, 0, none⟩) 2 2)) (w.alloc (.cells (row 16 (pair v u)) 25)) := by kernel_rfl
@[go_sem] theorem build1 (v : Nat → Int) (w : World) : buildN Try.prog 36 1 #[(0, .agg (row 8 v))] w = .ok (.value (.slice (some ⟨w.heap.size, 0, none⟩) 1 1)) (w.alloc (.cells (row 8 v) 25)) := by kernel_rfl
/-- entry i of a list of vectors that lies in a row -/
def nth (F : Nat → Int) (i : Nat) : Nat → Int := fun t => F (i * 8 + t)
theorem nth_row (F : Nat → Int) (N i : Nat) (h : i * 8 + 8 ≤ N) : (row N F).extract (0 + i * 8) (0 + i * 8 + 8) = row 8 (nth F i) := by
  rw [row_extract _ _ _ _ (by omega), show 0 + i * 8 + 8 - (0 + i * 8) = 8 by omega]
  exact row_congr fun t _ => by unfold nth; rw [Nat.zero_add]
theorem pair_bytes {v u : Nat → Int} (hv : Bytes 8 v) (hu : Bytes 8 u) (i : Nat) (hi : i < 2) : Bytes 8 (nth (pair v u) i) := by
  intro t ht
  unfold nth pair
  match i, hi with
  | 0, _ => rw [if_pos (by omega), Nat.zero_mul, Nat.zero_add]; exact hv t ht
  | 1, _ => rw [if_neg (by omega), show 1 * 8 + t - 8 = t by omega]; exact hu t ht
theorem nth_zero (v : Nat → Int) : nth v 0 = v := by funext t; simp [nth]
/-- the vectors that the calls on v and u check -/
def okP (p n : Int) (f v u : Nat → Int) : Bool := okB p n f 2 (nth (pair v u))

/-- the product, or zeros -/
def timesR (p n : Int) (f v u : Nat → Int) : Nat → Int := match okP p n f v u with | true => mulF p n.toNat (mtab f) v u | false => zf
theorem okP_alg {p n : Int} {f v u : Nat → Int} (h : okP p n f v u = true) : algB p n f = true := by
  unfold okP okB at h
  simp only [Bool.and_eq_true] at h
  exact h.1


set_option maxRecDepth 100000 in
set_option maxHeartbeats 1000000 in
theorem specMultiplyVectors_any (p n : Int) (f v u : Nat → Int) (w : World) (hF : Bytes 520 f) (hv : Bytes 8 v) (hu : Bytes 8 u) :
    Calls Try.prog 92 #[.agg (alg p n f), .agg (row 8 v), .agg (row 8 u)] w fun e w' =>
      e = .returned (.tuple #[.agg (row 8 (timesR p n f v u)), .int .i64 (codeB (okP p n f v u))]) ∧ Below w.heap.size w w' := by
  have HF := Lib.hid hF
  have Hv := Lib.hid hv
  have Hu := Lib.hid hu
  have HP : Hid (∀ i, i < 2 → Bytes 8 (nth (pair v u) i)) := Lib.hid (pair_bytes hv hu)
  clear hF hv hu
  cases hc : okP p n f v u
  · have hc' : codeB (okB p n f 2 (nth (pair v u))) = 1 := by
      have : okB p n f 2 (nth (pair v u)) = false := hc
      rw [this]; rfl
    have HR : Hid (row 8 (timesR p n f v u) = row 8 zf) := Lib.hid (by unfold timesR; rw [hc])
    clear hc
    go_enter Try.func92, Try.ntmps92
    go_wp2_with fail
    refine (l01Code_any p n f (w.heap.size + 1 + 1 + 1 + 1) 0 2 2 (nth (pair v u)) _ HF.out (by omega) (by simp [go_sem]) (fun i hi => ?_)).mono ?_
    · have hq : blk (((((w.alloc (.cells (alg p n f) 31)).alloc (.cells (row 8 v) 25)).alloc (.cells (row 8 u) 25)).alloc (.cells (row 8 zf) 25)).alloc (.cells (row 16 (pair v u)) 25)) (w.heap.size + 1 + 1 + 1 + 1) = row 16 (pair v u) := by simp [go_sem]
      rw [hq, row_size]
      exact ⟨by omega, nth_row _ 16 i (by omega), HP.out i hi⟩
    rintro e w1 ⟨rfl, hw1⟩
    obtain ⟨x0, y0⟩ := keepB (b := w.heap.size) (c := alg p n f) hw1 (by simp <;> omega) (by simp [go_sem]) (by simp [go_sem])
    obtain ⟨x1, y1⟩ := keepB (b := w.heap.size + 1) (c := row 8 v) hw1 (by simp <;> omega) (by simp [go_sem]) (by simp [go_sem])
    obtain ⟨x2, y2⟩ := keepB (b := w.heap.size + 2) (c := row 8 u) hw1 (by simp <;> omega) (by simp [go_sem]) (by simp [go_sem])
    obtain ⟨x3, y3⟩ := keepB (b := w.heap.size + 3) (c := row 8 zf) hw1 (by simp <;> omega) (by simp [go_sem]) (by simp [go_sem])
    have hb1 : Below w.heap.size w w1 := Below.trans (((((((Below.refl w.heap.size w).alloc (Nat.le_refl _) (.cells (alg p n f) 31)).alloc (by simp) (.cells (row 8 v) 25)).alloc (by simp; omega) (.cells (row 8 u) 25)).alloc (by simp; omega) (.cells (row 8 zf) 25)).alloc (by simp; omega) (.cells (row 16 (pair v u)) 25))) (hw1.mono (by simp; omega))
    clear hw1
    have z3 := isRow_lt x3
    go_wp2_with fail
    refine bodyPost_ret (result_cell_tmp rfl aggVec _ _ (row 8 zf) _ _ rfl rfl ?_ ?_) rfl ⟨by rw [HR.out]; rfl, ?_⟩
    · simp [go_sem, x3, y3]
    · simp [go_sem, x3, y3]
    · exact below_setRow hb1 (by omega) _
  · have hc' : codeB (okB p n f 2 (nth (pair v u))) = 0 := by
      have : okB p n f 2 (nth (pair v u)) = true := hc
      rw [this]; rfl
    obtain ⟨hp2, hp31, hn1, hn8⟩ := sizes_range (alg_sizes (okP_alg hc))
    obtain ⟨n, rfl⟩ := Int.eq_ofNat_of_zero_le (show 0 ≤ n by omega)
    have hn : n ≤ 8 := by omega
    have hp : 0 < p := by omega
    have hp' : p ≤ 255 := by omega
    have ht : ((n : Nat) : Int).toNat = n := by omega
    have HR : Hid (row 8 (timesR p n f v u) = row 8 (mulF p n (mtab f) v u)) := Lib.hid (by unfold timesR; rw [hc, ht])
    clear hc ht
    go_enter Try.func92, Try.ntmps92
    go_wp2_with fail
    refine (l01Code_any p n f (w.heap.size + 1 + 1 + 1 + 1) 0 2 2 (nth (pair v u)) _ HF.out (by omega) (by simp [go_sem]) (fun i hi => ?_)).mono ?_
    · have hq : blk (((((w.alloc (.cells (alg p n f) 31)).alloc (.cells (row 8 v) 25)).alloc (.cells (row 8 u) 25)).alloc (.cells (row 8 zf) 25)).alloc (.cells (row 16 (pair v u)) 25)) (w.heap.size + 1 + 1 + 1 + 1) = row 16 (pair v u) := by simp [go_sem]
      rw [hq, row_size]
      exact ⟨by omega, nth_row _ 16 i (by omega), HP.out i hi⟩
    rintro e w1 ⟨rfl, hw1⟩
    obtain ⟨x0, y0⟩ := keepB (b := w.heap.size) (c := alg p n f) hw1 (by simp <;> omega) (by simp [go_sem]) (by simp [go_sem])
    obtain ⟨x1, y1⟩ := keepB (b := w.heap.size + 1) (c := row 8 v) hw1 (by simp <;> omega) (by simp [go_sem]) (by simp [go_sem])
    obtain ⟨x2, y2⟩ := keepB (b := w.heap.size + 2) (c := row 8 u) hw1 (by simp <;> omega) (by simp [go_sem]) (by simp [go_sem])
    obtain ⟨x3, y3⟩ := keepB (b := w.heap.size + 3) (c := row 8 zf) hw1 (by simp <;> omega) (by simp [go_sem]) (by simp [go_sem])
    have hb1 : Below w.heap.size w w1 := Below.trans (((((((Below.refl w.heap.size w).alloc (Nat.le_refl _) (.cells (alg p n f) 31)).alloc (by simp) (.cells (row 8 v) 25)).alloc (by simp; omega) (.cells (row 8 u) 25)).alloc (by simp; omega) (.cells (row 8 zf) 25)).alloc (by simp; omega) (.cells (row 16 (pair v u)) 25))) (hw1.mono (by simp; omega))
    clear hw1
    have z3 := isRow_lt x3
    go_wp2_with fail
    refine (l01Times_any p n f v u _ hp hp' hn HF.out Hv.out Hu.out).mono ?_
    rintro e w2 ⟨rfl, hw2⟩
    obtain ⟨s3, d3⟩ := keepB hw2 z3 x3 y3
    have hb2 := hb1.trans (hw2.mono hb1.size)
    go_wp2_with fail
    refine bodyPost_ret (result_cell_tmp rfl aggVec _ _ (row 8 (mulF p n (mtab f) v u)) _ _ rfl rfl ?_ ?_) rfl ⟨by rw [HR.out]; rfl, ?_⟩
    · simp [go_sem, s3, d3]
    · simp [go_sem, s3, d3]
    · exact below_setRow hb2 (by omega) _

set_option maxRecDepth 100000 in
set_option maxHeartbeats 1000000 in
theorem multiplyVectors_any (p n : Int) (f v u : Nat → Int) (w : World) (hF : Bytes 520 f) (hv : Bytes 8 v) (hu : Bytes 8 u) :
    Calls Try.prog 93 #[.agg (alg p n f), .agg (row 8 v), .agg (row 8 u)] w fun e w' =>
      e = .returned (.tuple #[.agg (row 8 (timesR p n f v u)), .int .i64 (codeB (okP p n f v u))]) ∧ Below w.heap.size w w' := by
  have HF := Lib.hid hF
  have Hv := Lib.hid hv
  have Hu := Lib.hid hu
  have HP : Hid (∀ i, i < 2 → Bytes 8 (nth (pair v u) i)) := Lib.hid (pair_bytes hv hu)
  clear hF hv hu
  cases hc : okP p n f v u
  · have hc' : okB p n f 2 (nth (pair v u)) = false := by
      have : okB p n f 2 (nth (pair v u)) = false := hc
      rw [this]
    have HR : Hid (row 8 (timesR p n f v u) = row 8 zf) := Lib.hid (by unfold timesR; rw [hc])
    clear hc
    go_enter Try.func93, Try.ntmps93
    go_wp2_with fail
    refine (isAlgebraWith_any p n f (w.heap.size + 1 + 1 + 1 + 1) 0 2 2 (nth (pair v u)) _ HF.out (by omega) (by simp [go_sem]) (fun i hi => ?_)).mono ?_
    · have hq : blk (((((w.alloc (.cells (alg p n f) 31)).alloc (.cells (row 8 v) 25)).alloc (.cells (row 8 u) 25)).alloc (.cells (row 8 zf) 25)).alloc (.cells (row 16 (pair v u)) 25)) (w.heap.size + 1 + 1 + 1 + 1) = row 16 (pair v u) := by simp [go_sem]
      rw [hq, row_size]
      exact ⟨by omega, nth_row _ 16 i (by omega), HP.out i hi⟩
    rintro e w1 ⟨rfl, hw1⟩
    obtain ⟨x0, y0⟩ := keepB (b := w.heap.size) (c := alg p n f) hw1 (by simp <;> omega) (by simp [go_sem]) (by simp [go_sem])
    obtain ⟨x1, y1⟩ := keepB (b := w.heap.size + 1) (c := row 8 v) hw1 (by simp <;> omega) (by simp [go_sem]) (by simp [go_sem])
    obtain ⟨x2, y2⟩ := keepB (b := w.heap.size + 2) (c := row 8 u) hw1 (by simp <;> omega) (by simp [go_sem]) (by simp [go_sem])
    obtain ⟨x3, y3⟩ := keepB (b := w.heap.size + 3) (c := row 8 zf) hw1 (by simp <;> omega) (by simp [go_sem]) (by simp [go_sem])
    have hb1 : Below w.heap.size w w1 := Below.trans (((((((Below.refl w.heap.size w).alloc (Nat.le_refl _) (.cells (alg p n f) 31)).alloc (by simp) (.cells (row 8 v) 25)).alloc (by simp; omega) (.cells (row 8 u) 25)).alloc (by simp; omega) (.cells (row 8 zf) 25)).alloc (by simp; omega) (.cells (row 16 (pair v u)) 25))) (hw1.mono (by simp; omega))
    clear hw1
    have z3 := isRow_lt x3
    go_wp2_with fail
    refine bodyPost_ret (result_cell_tmp rfl aggVec _ _ (row 8 zf) _ _ rfl rfl ?_ ?_) rfl ⟨by rw [HR.out]; rfl, ?_⟩
    · simp [go_sem, x3, y3]
    · simp [go_sem, x3, y3]
    · exact below_setRow hb1 (by omega) _
  · have hc' : okB p n f 2 (nth (pair v u)) = true := by
      have : okB p n f 2 (nth (pair v u)) = true := hc
      rw [this]
    obtain ⟨hp2, hp31, hn1, hn8⟩ := sizes_range (alg_sizes (okP_alg hc))
    obtain ⟨n, rfl⟩ := Int.eq_ofNat_of_zero_le (show 0 ≤ n by omega)
    have hn : n ≤ 8 := by omega
    have hp : 0 < p := by omega
    have hp' : p ≤ 255 := by omega
    have ht : ((n : Nat) : Int).toNat = n := by omega
    have HR : Hid (row 8 (timesR p n f v u) = row 8 (mulF p n (mtab f) v u)) := Lib.hid (by unfold timesR; rw [hc, ht])
    clear hc ht
    go_enter Try.func93, Try.ntmps93
    go_wp2_with fail
    refine (isAlgebraWith_any p n f (w.heap.size + 1 + 1 + 1 + 1) 0 2 2 (nth (pair v u)) _ HF.out (by omega) (by simp [go_sem]) (fun i hi => ?_)).mono ?_
    · have hq : blk (((((w.alloc (.cells (alg p n f) 31)).alloc (.cells (row 8 v) 25)).alloc (.cells (row 8 u) 25)).alloc (.cells (row 8 zf) 25)).alloc (.cells (row 16 (pair v u)) 25)) (w.heap.size + 1 + 1 + 1 + 1) = row 16 (pair v u) := by simp [go_sem]
      rw [hq, row_size]
      exact ⟨by omega, nth_row _ 16 i (by omega), HP.out i hi⟩
    rintro e w1 ⟨rfl, hw1⟩
    obtain ⟨x0, y0⟩ := keepB (b := w.heap.size) (c := alg p n f) hw1 (by simp <;> omega) (by simp [go_sem]) (by simp [go_sem])
    obtain ⟨x1, y1⟩ := keepB (b := w.heap.size + 1) (c := row 8 v) hw1 (by simp <;> omega) (by simp [go_sem]) (by simp [go_sem])
    obtain ⟨x2, y2⟩ := keepB (b := w.heap.size + 2) (c := row 8 u) hw1 (by simp <;> omega) (by simp [go_sem]) (by simp [go_sem])
    obtain ⟨x3, y3⟩ := keepB (b := w.heap.size + 3) (c := row 8 zf) hw1 (by simp <;> omega) (by simp [go_sem]) (by simp [go_sem])
    have hb1 : Below w.heap.size w w1 := Below.trans (((((((Below.refl w.heap.size w).alloc (Nat.le_refl _) (.cells (alg p n f) 31)).alloc (by simp) (.cells (row 8 v) 25)).alloc (by simp; omega) (.cells (row 8 u) 25)).alloc (by simp; omega) (.cells (row 8 zf) 25)).alloc (by simp; omega) (.cells (row 16 (pair v u)) 25))) (hw1.mono (by simp; omega))
    clear hw1
    have z3 := isRow_lt x3
    go_wp2_with fail
    refine (multiply_any p n f v u _ hp hp' hn HF.out Hv.out Hu.out).mono ?_
    rintro e w2 ⟨rfl, hw2⟩
    obtain ⟨s3, d3⟩ := keepB hw2 z3 x3 y3
    have hb2 := hb1.trans (hw2.mono hb1.size)
    go_wp2_with fail
    refine bodyPost_ret (result_cell_tmp rfl aggVec _ _ (row 8 (mulF p n (mtab f) v u)) _ _ rfl rfl ?_ ?_) rfl ⟨by rw [HR.out]; rfl, ?_⟩
    · simp [go_sem, s3, d3]
    · simp [go_sem, s3, d3]
    · exact below_setRow hb2 (by omega) _
end Go.Proofs.Ytkcddfpchkjcgaa
