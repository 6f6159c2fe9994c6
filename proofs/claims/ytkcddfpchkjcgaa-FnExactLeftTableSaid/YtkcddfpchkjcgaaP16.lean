/- The left table and the trace of a linear map, of the program and of the reference model. -/
import Derived.Test.YtkcddfpchkjcgaaP14
namespace Go.Proofs.Ytkcddfpchkjcgaa
open Go.RowKit
set_option linter.unusedSimpArgs false
set_option linter.unusedVariables false
attribute [local irreducible] wpQuiet wpQE

/-- the first k rows of the left table of v -/
def leftK (p : Int) (n : Nat) (f v : Nat → Int) (k : Nat) : Nat → Int := fun t => if t < k * 8 then mulF p n (mtab f) v (ebas (t / 8)) (t % 8) else 0
theorem leftK_zero (p : Int) (n : Nat) (f v : Nat → Int) : leftK p n f v 0 = zf := by funext t; simp [leftK, zf]
theorem leftK_step (p : Int) (n : Nat) (f v : Nat → Int) (k : Nat) (h : k * 8 + 8 ≤ 64) : lay (row 64 (leftK p n f v k)) (k * 8) (row 8 (mulF p n (mtab f) v (ebas k))) = row 64 (leftK p n f v (k + 1)) := by
  rw [lay_row _ _ _ _ _ h]
  refine row_congr fun i _ => ?_
  unfold leftK
  by_cases h1 : k * 8 ≤ i ∧ i < k * 8 + 8
  · rw [if_pos h1, if_pos (by omega), show i / 8 = k by omega, show i - k * 8 = i % 8 by omega]
  · rw [if_neg h1]
    by_cases h2 : i < k * 8
    · rw [if_pos h2, if_pos (by omega)]
    · rw [if_neg h2, if_neg (by omega)]
theorem mulF_bytes {p : Int} (hp : 0 < p) (hp' : p ≤ 255) (n : Nat) (m : Nat → Nat → Nat → Int) (v u : Nat → Int) : Bytes 8 (mulF p n m v u) := bytes_mod hp hp' _
theorem leftK_bytes {p : Int} (hp : 0 < p) (hp' : p ≤ 255) (n : Nat) (f v : Nat → Int) (k : Nat) : Bytes 64 (leftK p n f v k) := by
  intro t _
  unfold leftK
  split
  · exact mulF_bytes hp hp' n (mtab f) v (ebas (t / 8)) (t % 8) (by omega)
  · omega

set_option maxRecDepth 100000 in
set_option maxHeartbeats 1000000 in
theorem leftTable_any (p : Int) (n : Nat) (f v : Nat → Int) (w : World) (hp : 0 < p) (hp' : p ≤ 255) (hn : n ≤ 8) (hF : Bytes 520 f) (hv : Bytes 8 v) :
    Calls Try.prog 185 #[.agg (alg p n f), .agg (row 8 v)] w fun e w' => e = .returned (.agg (row 64 (leftK p n f v n))) ∧ Below w.heap.size w w' := by
  have HF := Lib.hid hF
  have Hv := Lib.hid hv
  clear hF hv
  go_enter Try.func185, Try.ntmps185
  go_wp2
  go_loopw [9] (fun s wr => ∃ k : Nat, k ≤ n ∧ s = .int .i64 k ∧ Below w.heap.size w wr ∧ (IsRow wr w.heap.size ∧ blk wr w.heap.size = alg p n f) ∧ (IsRow wr (w.heap.size + 1) ∧ blk wr (w.heap.size + 1) = row 8 v) ∧
      (IsRow wr (w.heap.size + 2) ∧ blk wr (w.heap.size + 2) = row 64 zf) ∧ (IsRow wr (w.heap.size + 3) ∧ blk wr (w.heap.size + 3) = row 64 (leftK p n f v k))) (fun s _ => n - (intOf s).toNat)
  case atStart =>
    refine ⟨0, by omega, rfl, ((((Below.refl _ _).alloc (Nat.le_refl _) _).alloc (by simp) _).alloc (by simp; omega) _).alloc (by simp; omega) _, by simp [go_sem], by simp [go_sem], by simp [go_sem], by simp [go_sem], ?_⟩
    rw [leftK_zero]; simp [go_sem]
  case round =>
    obtain ⟨k, hk, rfl, hb, ⟨r0, c0⟩, ⟨r1, c1⟩, ⟨r2, c2⟩, ⟨r3, c3⟩⟩ := hrel
    have z0 := isRow_lt r0
    have z1 := isRow_lt r1
    have z2 := isRow_lt r2
    have z3 := isRow_lt r3
    by_cases hlt : k < n
    · have hi8 : (k : Int) < 8 := by omega
      have hk8' : k < 8 := by omega
      have hk8 : k * 8 + 8 ≤ 64 := by omega
      have HE : Hid (Bytes 8 (ebas k)) := Lib.hid (ebas_bytes k)
      have HS := Lib.hid (leftK_step p n f v k hk8)
      have HC : ∀ W, Below wr.heap.size wr W → (IsRow W w.heap.size ∧ blk W w.heap.size = alg p n f) ∧ (IsRow W (w.heap.size + 1) ∧ blk W (w.heap.size + 1) = row 8 v) ∧ (IsRow W (w.heap.size + 3) ∧ blk W (w.heap.size + 3) = row 64 (leftK p n f v k)) :=
        fun W h => ⟨keepB h z0 r0 c0, keepB h z1 r1 c1, keepB h z3 r3 c3⟩
      go_wp2
      refine wp_quiet_tail 7 (Below wr.heap.size wr) (by kernel_rfl) (by kernel_rfl) (Below.refl _ _).drew ?_
      simp only [List.take_succ_cons, List.take_zero, List.drop_succ_cons, List.drop_zero]
      repeat (first | (refine q_plain rfl ?_; apply Exists.intro; refine ⟨fun W hW => ?_, ?_⟩; (focus (obtain ⟨⟨x1, x2⟩, ⟨x3, x4⟩, x5, x6⟩ := HC W hW; go_simp; first | done | rfl | (first | (go_at_call 198; exact (basisAt k hk8' _).mono fun e w2 ⟨he, hw2⟩ => ⟨he, hW.trans (hw2.mono hW.size)⟩) | (go_at_call 171; exact (multiply_any p n f _ _ _ hp hp' hn HF.out Hv.out HE.out).mono fun e w2 ⟨he, hw2⟩ => ⟨he, hW.trans (hw2.mono hW.size)⟩)))); simp only [Act.put, List.setIfInBounds_toArray, List.set_cons_zero, List.set_cons_succ]) | (refine q_skip (by rfl) ?_; simp only [Act.put, List.setIfInBounds_toArray, List.set_cons_zero, List.set_cons_succ]) | (refine q_want (by rfl) ?_; apply Exists.intro; refine ⟨fun W hW => ?_, ?_⟩; (focus (obtain ⟨⟨x1, x2⟩, ⟨x3, x4⟩, x5, x6⟩ := HC W hW; go_simp; first | done | rfl | (first | (go_at_call 198; exact (basisAt k hk8' _).mono fun e w2 ⟨he, hw2⟩ => ⟨he, hW.trans (hw2.mono hW.size)⟩) | (go_at_call 171; exact (multiply_any p n f _ _ _ hp hp' hn HF.out Hv.out HE.out).mono fun e w2 ⟨he, hw2⟩ => ⟨he, hW.trans (hw2.mono hW.size)⟩)))); simp only [Act.put, List.setIfInBounds_toArray, List.set_cons_zero, List.set_cons_succ]))
      refine wpQuiet_nil ?_
      intro W hW
      obtain ⟨⟨x1, x2⟩, ⟨x3, x4⟩, x5, x6⟩ := HC W hW
      have y1 := keepB hW z2 r2 c2
      go_wp2
      go_roundw
      case rel =>
        refine ⟨k + 1, by omega, by go_num, (hb.trans (hW.mono hb.size)).trans (below_setRow (Below.refl _ _) (by omega) _), by simp [go_sem, x1, x2, x5], by simp [go_sem, x3, x4, x5], by simp [go_sem, y1, x5], by simp [go_sem, x5], ?_⟩
        rw [blk_setRow _ _ _ _ x5, if_pos rfl]
        exact HS.out
      case measure => simp [intOf]; omega
    · obtain rfl : k = n := by omega
      go_wp2
      refine bodyPost_ret (result_cell rfl aggLin _ _ (row 64 (leftK p k f v k)) _ rfl ?_ ?_) rfl ⟨rfl, ?_⟩
      · simp [go_sem, r2, c2]
      · simp [go_sem, r2, c2]
      · exact hb.trans (below_setRow (Below.refl _ _) (by omega) _)

set_option maxRecDepth 100000 in
set_option maxHeartbeats 1000000 in
theorem l01Left_any (p : Int) (n : Nat) (f v : Nat → Int) (w : World) (hp : 0 < p) (hp' : p ≤ 255) (hn : n ≤ 8) (hF : Bytes 520 f) (hv : Bytes 8 v) :
    Calls Try.prog 183 #[.agg (alg p n f), .agg (row 8 v)] w fun e w' => e = .returned (.agg (row 64 (leftK p n f v n))) ∧ Below w.heap.size w w' := by
  have HF := Lib.hid hF
  have Hv := Lib.hid hv
  clear hF hv
  go_enter Try.func183, Try.ntmps183
  go_wp2
  go_loopw [6] (fun s wr => ∃ k : Nat, k ≤ n ∧ s = .int .i64 k ∧ Below w.heap.size w wr ∧ (IsRow wr w.heap.size ∧ blk wr w.heap.size = alg p n f) ∧ (IsRow wr (w.heap.size + 1) ∧ blk wr (w.heap.size + 1) = row 8 v) ∧
      (IsRow wr (w.heap.size + 2) ∧ blk wr (w.heap.size + 2) = row 64 zf) ∧ (IsRow wr (w.heap.size + 3) ∧ blk wr (w.heap.size + 3) = row 64 (leftK p n f v k))) (fun s _ => n - (intOf s).toNat)
  case atStart =>
    refine ⟨0, by omega, rfl, ?_, by simp [go_sem], by simp [go_sem], by simp [go_sem], by simp [go_sem], ?_⟩
    · first | exact ((((Below.refl _ _).alloc (Nat.le_refl _) _).alloc (by simp) _).alloc (by simp; omega) _).alloc (by simp; omega) _ | exact below_setRow (((((Below.refl _ _).alloc (Nat.le_refl _) _).alloc (by simp) _).alloc (by simp; omega) _).alloc (by simp; omega) _) (by omega) _
    · rw [leftK_zero]; simp [go_sem]
  case round =>
    obtain ⟨k, hk, rfl, hb, ⟨r0, c0⟩, ⟨r1, c1⟩, ⟨r2, c2⟩, ⟨r3, c3⟩⟩ := hrel
    have z0 := isRow_lt r0
    have z1 := isRow_lt r1
    have z2 := isRow_lt r2
    have z3 := isRow_lt r3
    by_cases hlt : k < n
    · have hi8 : (k : Int) < 8 := by omega
      have hk8' : k < 8 := by omega
      have hk8 : k * 8 + 8 ≤ 64 := by omega
      have HE : Hid (Bytes 8 (ebas k)) := Lib.hid (ebas_bytes k)
      have HS := Lib.hid (leftK_step p n f v k hk8)
      have HC : ∀ W, Below wr.heap.size wr W → (IsRow W w.heap.size ∧ blk W w.heap.size = alg p n f) ∧ (IsRow W (w.heap.size + 1) ∧ blk W (w.heap.size + 1) = row 8 v) ∧ (IsRow W (w.heap.size + 3) ∧ blk W (w.heap.size + 3) = row 64 (leftK p n f v k)) :=
        fun W h => ⟨keepB h z0 r0 c0, keepB h z1 r1 c1, keepB h z3 r3 c3⟩
      go_wp2
      refine wp_quiet_tail 7 (Below wr.heap.size wr) (by kernel_rfl) (by kernel_rfl) (Below.refl _ _).drew ?_
      simp only [List.take_succ_cons, List.take_zero, List.drop_succ_cons, List.drop_zero]
      repeat (first | (refine q_plain rfl ?_; apply Exists.intro; refine ⟨fun W hW => ?_, ?_⟩; (focus (obtain ⟨⟨x1, x2⟩, ⟨x3, x4⟩, x5, x6⟩ := HC W hW; go_simp; first | done | rfl | (first | (go_at_call 206; exact (l01BasisAt k hk8' _).mono fun e w2 ⟨he, hw2⟩ => ⟨he, hW.trans (hw2.mono hW.size)⟩) | (go_at_call 179; exact (l01Times_any p n f _ _ _ hp hp' hn HF.out Hv.out HE.out).mono fun e w2 ⟨he, hw2⟩ => ⟨he, hW.trans (hw2.mono hW.size)⟩)))); simp only [Act.put, List.setIfInBounds_toArray, List.set_cons_zero, List.set_cons_succ]) | (refine q_skip (by rfl) ?_; simp only [Act.put, List.setIfInBounds_toArray, List.set_cons_zero, List.set_cons_succ]) | (refine q_want (by rfl) ?_; apply Exists.intro; refine ⟨fun W hW => ?_, ?_⟩; (focus (obtain ⟨⟨x1, x2⟩, ⟨x3, x4⟩, x5, x6⟩ := HC W hW; go_simp; first | done | rfl | (first | (go_at_call 206; exact (l01BasisAt k hk8' _).mono fun e w2 ⟨he, hw2⟩ => ⟨he, hW.trans (hw2.mono hW.size)⟩) | (go_at_call 179; exact (l01Times_any p n f _ _ _ hp hp' hn HF.out Hv.out HE.out).mono fun e w2 ⟨he, hw2⟩ => ⟨he, hW.trans (hw2.mono hW.size)⟩)))); simp only [Act.put, List.setIfInBounds_toArray, List.set_cons_zero, List.set_cons_succ]))
      refine wpQuiet_nil ?_
      intro W hW
      obtain ⟨⟨x1, x2⟩, ⟨x3, x4⟩, x5, x6⟩ := HC W hW
      have y1 := keepB hW z2 r2 c2
      go_wp2
      go_roundw
      case rel =>
        refine ⟨k + 1, by omega, by go_num, (hb.trans (hW.mono hb.size)).trans (below_setRow (Below.refl _ _) (by omega) _), by simp [go_sem, x1, x2, x5], by simp [go_sem, x3, x4, x5], by simp [go_sem, y1, x5], by simp [go_sem, x5], ?_⟩
        rw [blk_setRow _ _ _ _ x5, if_pos rfl]
        exact HS.out
      case measure => simp [intOf]; omega
    · obtain rfl : k = n := by omega
      go_wp2
      refine bodyPost_ret (result_cell rfl aggLin _ _ (row 64 (leftK p k f v k)) _ rfl ?_ ?_) rfl ⟨rfl, ?_⟩
      · simp [go_sem, r2, c2]
      · simp [go_sem, r2, c2]
      · exact hb.trans (below_setRow (Below.refl _ _) (by omega) _)

/-! ### the trace -/
def dsum (F : Nat → Int) : Nat → Int
  | 0 => 0
  | k + 1 => dsum F k + F (k * 8 + k)
theorem dsum_le {F : Nat → Int} (h : Bytes 64 F) : ∀ k, k ≤ 8 → 0 ≤ dsum F k ∧ dsum F k ≤ 255 * k
  | 0, _ => by simp [dsum]
  | k + 1, hk => by
    have h1 := dsum_le h k (by omega)
    have h2 := h (k * 8 + k) (by omega)
    unfold dsum
    omega
set_option maxRecDepth 100000 in
theorem l01Trace_any (p : Int) (n : Nat) (F : Nat → Int) (w : World) (hp : 0 < p) (hp' : p ≤ 255) (hn : n ≤ 8) (hF : Bytes 64 F) :
    Calls Try.prog 186 #[.int .i64 p, .int .i64 n, .agg (row 64 F)] w fun e w' => e = .returned (.int .i64 (dsum F n % p)) ∧ Below w.heap.size w w' := by
  have HF := Lib.hid hF
  clear hF
  go_enter Try.func186, Try.ntmps186
  go_wp2
  go_loopw [7, 8] (fun s i wr => ∃ k : Nat, k ≤ n ∧ s = .int .i64 (dsum F k) ∧ i = .int .i64 k ∧ wr = w.alloc (.cells (row 64 F) 27)) (fun _ i _ => n - (intOf i).toNat)
  case atStart => exact ⟨0, by omega, rfl, rfl, rfl⟩
  case round =>
    obtain ⟨k, hk, rfl, rfl, rfl⟩ := hrel
    have b1 := (dsum_le HF.out k (by omega)).1
    have b2 := (dsum_le HF.out k (by omega)).2
    by_cases hlt : k < n
    · have hi8 : (k : Int) < 8 := by omega
      have hk8 : k * 8 + 8 ≤ 64 := by omega
      have hk9 : k * 8 + k < 64 := by omega
      have b3 := (HF.out (k * 8 + k) hk9).1
      have b4 := (HF.out (k * 8 + k) hk9).2
      go_wp2
      go_roundw
      case rel => exact ⟨k + 1, by omega, rfl, by go_num, by first | rfl | trivial⟩
      case measure => simp [intOf]; omega
    · obtain rfl : k = n := by omega
      have h3 := (mod_range (dsum F k) p hp).1
      have h4 := (mod_range (dsum F k) p hp).2
      go_wp2
      go_ret
      exact ⟨rfl, (Below.refl _ _).alloc (Nat.le_refl _) _⟩
end Go.Proofs.Ytkcddfpchkjcgaa
