/- Contracts of l01Times and multiply: each returns the product by an algebra's table. -/
import Derived.Test.YtnjjcimpcnennaaP4
import Derived.Test.YtnjjcimpcnennaaAlg
namespace Go.Proofs.Ytnjjcimpcnennaa
open Go.RowKit
set_option linter.unusedSimpArgs false
set_option linter.unusedVariables false

/-- the entry k of the product of e(i) and e(j) -/
def mtab (f : Nat → Int) (i j k : Nat) : Int := tab f (i * 64 + (j * 8 + k))
theorem tab_bytes {f : Nat → Int} (h : Bytes 520 f) : Bytes 512 (tab f) := fun i hi => h (8 + i) (by omega)

set_option maxRecDepth 100000 in
set_option maxHeartbeats 600000 in
theorem l01Times_any (p : Int) (n : Nat) (f v u : Nat → Int) (w : World) (hp : 0 < p) (hp' : p ≤ 255) (hn : n ≤ 8) (hF : Bytes 520 f) (hv : Bytes 8 v) (hu : Bytes 8 u) :
    Calls Try.prog 104 #[.agg (alg p n f), .agg (row 8 v), .agg (row 8 u)] w fun e w' =>
      e = .returned (.agg (row 8 (mulF p n (mtab f) v u))) ∧ Below w.heap.size w w' := by
  have HF := Lib.hid hF
  have Hv := Lib.hid hv
  have Hu := Lib.hid hu
  clear hF hv hu
  have H0 : Hid (row 8 zf = row 8 (timesF p n (mtab f) v u 0)) := by
    have : row 8 zf = row 8 (timesF p n (mtab f) v u 0) := row_congr fun i _ => by simp [timesF, sumTo, zf]
    exact Lib.hid this
  go_enter Try.func104, Try.ntmps104
  go_wp2
  go_loopw [8] (fun i wr => ∃ k : Nat, k ≤ n ∧ i = .int .i64 k ∧ Below w.heap.size w wr ∧ (IsRow wr w.heap.size ∧ blk wr w.heap.size = alg p n f) ∧ (IsRow wr (w.heap.size + 1) ∧ blk wr (w.heap.size + 1) = row 8 v) ∧
      (IsRow wr (w.heap.size + 2) ∧ blk wr (w.heap.size + 2) = row 8 u) ∧ (IsRow wr (w.heap.size + 3) ∧ blk wr (w.heap.size + 3) = row 8 zf) ∧ (IsRow wr (w.heap.size + 4) ∧ blk wr (w.heap.size + 4) = row 8 (timesF p n (mtab f) v u k))) (fun i _ => n - (intOf i).toNat)
  case atStart =>
    refine ⟨0, by omega, rfl, (((((Below.refl _ _).alloc (Nat.le_refl _) _).alloc (by simp) _).alloc (by simp; omega) _).alloc (by simp; omega) _).alloc (by simp; omega) _, by simp [go_sem], by simp [go_sem], by simp [go_sem], by simp [go_sem], by simp [go_sem], ?_⟩
    rw [← H0.out]; simp [go_sem]
  case round =>
    obtain ⟨k, hk, rfl, hb, ⟨r0, c0⟩, ⟨r1, c1⟩, ⟨r2, c2⟩, ⟨r3, c3⟩, ⟨r4, c4⟩⟩ := hrel
    have z0 := isRow_lt r0
    have z1 := isRow_lt r1
    have z2 := isRow_lt r2
    have z3 := isRow_lt r3
    have z4 := isRow_lt r4
    by_cases hlt : k < n
    · have hlt8 : k < 8 := by omega
      have hi8 : (k : Int) < 8 := by omega
      have hk8 : 10 + k * 64 + 64 ≤ 522 := by omega
      have b1 := (Hv.out k hlt8).1
      have b2 := (Hv.out k hlt8).2
      by_cases hv0 : v k = 0
      · have H := Lib.hid (fun i => times_skip p n (mtab f) v u k i hv0)
        have hv1 : (v k != 0) = false := by simpa using hv0
        clear hv0
        go_wp2
        go_roundw
        case rel => exact ⟨k + 1, by omega, by go_num, hb, ⟨r0, c0⟩, ⟨r1, c1⟩, ⟨r2, c2⟩, ⟨r3, c3⟩, r4, by rw [c4]; exact row_congr fun i _ => H.out i⟩
        case measure => simp [intOf]; omega
      · have hv1 : (v k != 0) = true := by simpa using hv0
        clear hv0
        have q1 : IntKind.i64.wrap (v k) = v k := IntWalk.i64_in _ (by omega)
        have HG : Hid (Bytes 64 fun t => tab f (k * 64 + t)) := Lib.hid fun i hi => tab_bytes HF.out (k * 64 + i) (by omega)
        have HA : Hid (Bytes 8 (timesF p n (mtab f) v u k)) := Lib.hid (bytes_mod hp hp' _)
        have HB : Hid (Bytes 8 (appF p n (mtab f k) u)) := Lib.hid (bytes_mod hp hp' _)
        have HC : ∀ W, Below wr.heap.size wr W → (IsRow W w.heap.size ∧ blk W w.heap.size = alg p n f) ∧ (IsRow W (w.heap.size + 1) ∧ blk W (w.heap.size + 1) = row 8 v) ∧ (IsRow W (w.heap.size + 2) ∧ blk W (w.heap.size + 2) = row 8 u) ∧ (IsRow W (w.heap.size + 4) ∧ blk W (w.heap.size + 4) = row 8 (timesF p n (mtab f) v u k)) :=
          fun W h => ⟨keepB h z0 r0 c0, keepB h z1 r1 c1, keepB h z2 r2 c2, keepB h z4 r4 c4⟩
        go_wp2
        refine wp_quiet_tail 18 (Below wr.heap.size wr) (by kernel_rfl) (by kernel_rfl) (Below.refl _ _).drew ?_
        simp only [List.take_succ_cons, List.take_zero, List.drop_succ_cons, List.drop_zero]
        repeat (first | (refine q_skip (by rfl) ?_; simp only [Act.put, List.setIfInBounds_toArray, List.set_cons_zero, List.set_cons_succ]) | (refine q_want (by rfl) ?_; apply Exists.intro; refine ⟨fun W hW => ?_, ?_⟩; (focus (obtain ⟨⟨x1, x2⟩, ⟨x3, x4⟩, ⟨x5, x6⟩, x7, x8⟩ := HC W hW; go_simp; first | done | rfl | (first | (go_at_call 51; exact (l01Apply_any _ _ _ _ _ hp hp' hn HG.out Hu.out).mono fun e w2 ⟨he, hw2⟩ => ⟨he, hW.trans (hw2.mono hW.size)⟩) | (go_at_call 74; exact (l01Add_any _ _ _ _ _ hp hp' (by omega) (by omega) HA.out HB.out).mono fun e w2 ⟨he, hw2⟩ => ⟨he, hW.trans (hw2.mono hW.size)⟩)))); simp only [Act.put, List.setIfInBounds_toArray, List.set_cons_zero, List.set_cons_succ]))
        refine wpQuiet_nil ?_
        intro W hW
        obtain ⟨⟨x1, x2⟩, ⟨x3, x4⟩, ⟨x5, x6⟩, x7, x8⟩ := HC W hW
        have y1 := keepB hW z3 r3 c3
        go_wp2
        go_roundw
        case rel =>
          refine ⟨k + 1, by omega, by go_num, (hb.trans (hW.mono hb.size)).trans (below_setRow (Below.refl _ _) (by omega) _), by simp [go_sem, x1, x2, x7], by simp [go_sem, x3, x4, x7], by simp [go_sem, x5, x6, x7], by simp [go_sem, y1, x7], by simp [go_sem, x7], ?_⟩
          rw [blk_setRow _ _ _ _ x7, if_pos rfl]
          exact addm_row fun i _ => times_step p n (mtab f) v u k i
        case measure => simp [intOf]; omega
    · obtain rfl : k = n := by omega
      have HT : Hid (row 8 (timesF p k (mtab f) v u k) = row 8 (mulF p k (mtab f) v u)) := by
        have : row 8 (timesF p k (mtab f) v u k) = row 8 (mulF p k (mtab f) v u) := row_congr fun i _ => times_all p k (mtab f) v u i
        exact Lib.hid this
      rw [HT.out] at c4
      go_wp2
      refine bodyPost_ret (result_cell rfl aggVec _ _ (row 8 (mulF p k (mtab f) v u)) _ rfl ?_ ?_) rfl ⟨rfl, ?_⟩
      · simp [go_sem, r3, c3]
      · simp [go_sem, r3, c3]
      · exact hb.trans (below_setRow (Below.refl _ _) (by omega) _)

theorem alg_at (p n : Int) (f : Nat → Int) (i j t : Nat) (hi : i < 8) (hj : j < 8) (ht : t < 8) : (alg p n f)[10 + i * 64 + j * 8 + t]? = some (.int .u8 (mtab f i j t)) := by
  rw [alg_get p n f _ (by omega) (by omega)]
  unfold mtab tab
  congr 3
  omega

set_option maxRecDepth 100000 in
set_option maxHeartbeats 1000000 in
theorem multiply_any (p : Int) (n : Nat) (f v u : Nat → Int) (w : World) (hp : 0 < p) (hp' : p ≤ 255) (hn : n ≤ 8) (hF : Bytes 520 f) (hv : Bytes 8 v) (hu : Bytes 8 u) :
    Calls Try.prog 101 #[.agg (alg p n f), .agg (row 8 v), .agg (row 8 u)] w fun e w' =>
      e = .returned (.agg (row 8 (mulF p n (mtab f) v u))) ∧ Below w.heap.size w w' := by
  have HF := Lib.hid hF
  have Hv := Lib.hid hv
  have Hu := Lib.hid hu
  clear hF hv hu
  have H0 : Hid (row 8 zf = row 8 (accF p n (mtab f) v u 0 0)) := by
    have : row 8 zf = row 8 (accF p n (mtab f) v u 0 0) := row_congr fun i _ => by rw [acc_zero]; rfl
    exact Lib.hid this
  go_enter Try.func101, Try.ntmps101
  go_wp2
  go_loopw [12] (fun s wr => ∃ i : Nat, i ≤ n ∧ s = .int .i64 i ∧ Below w.heap.size w wr ∧ (IsRow wr w.heap.size ∧ blk wr w.heap.size = alg p n f) ∧ (IsRow wr (w.heap.size + 1) ∧ blk wr (w.heap.size + 1) = row 8 v) ∧
      (IsRow wr (w.heap.size + 2) ∧ blk wr (w.heap.size + 2) = row 8 u) ∧ (IsRow wr (w.heap.size + 3) ∧ blk wr (w.heap.size + 3) = row 8 zf) ∧ (IsRow wr (w.heap.size + 4) ∧ blk wr (w.heap.size + 4) = row 8 (accF p n (mtab f) v u i 0))) (fun s _ => n - (intOf s).toNat)
  case atStart =>
    refine ⟨0, by omega, rfl, (((((Below.refl _ _).alloc (Nat.le_refl _) _).alloc (by simp) _).alloc (by simp; omega) _).alloc (by simp; omega) _).alloc (by simp; omega) _, by simp [go_sem], by simp [go_sem], by simp [go_sem], by simp [go_sem], by simp [go_sem], ?_⟩
    rw [← H0.out]; simp [go_sem]
  case round =>
    obtain ⟨i, hi, rfl, hb, ⟨r0, c0⟩, ⟨r1, c1⟩, ⟨r2, c2⟩, ⟨r3, c3⟩, ⟨r4, c4⟩⟩ := hrel
    by_cases hlt : i < n
    · have hlt8 : i < 8 := by omega
      have hi8 : (i : Int) < 8 := by omega
      have b1 := (Hv.out i hlt8).1
      have b2 := (Hv.out i hlt8).2
      go_wp2
      obtain ⟨wo, rfl⟩ : ∃ wo : World, wo = wr := ⟨_, rfl⟩
      go_loopw [17] (fun s wr => ∃ j : Nat, j ≤ n ∧ s = .int .i64 j ∧ Below w.heap.size w wr ∧ (IsRow wr w.heap.size ∧ blk wr w.heap.size = alg p n f) ∧ (IsRow wr (w.heap.size + 1) ∧ blk wr (w.heap.size + 1) = row 8 v) ∧
          (IsRow wr (w.heap.size + 2) ∧ blk wr (w.heap.size + 2) = row 8 u) ∧ (IsRow wr (w.heap.size + 3) ∧ blk wr (w.heap.size + 3) = row 8 zf) ∧ (IsRow wr (w.heap.size + 4) ∧ blk wr (w.heap.size + 4) = row 8 (accF p n (mtab f) v u i j))) (fun s _ => n - (intOf s).toNat)
      case atStart => exact ⟨0, by omega, rfl, hb, ⟨r0, c0⟩, ⟨r1, c1⟩, ⟨r2, c2⟩, ⟨r3, c3⟩, r4, c4⟩
      case round =>
        obtain ⟨j, hj, rfl, hb', ⟨s0, d0⟩, ⟨s1, d1⟩, ⟨s2, d2⟩, ⟨s3, d3⟩, ⟨s4, d4⟩⟩ := hrel
        clear hb r0 c0 r1 c1 r2 c2 r3 c3 r4 c4
        have z0 := isRow_lt s0
        have z1 := isRow_lt s1
        have z2 := isRow_lt s2
        have z3 := isRow_lt s3
        have z4 := isRow_lt s4
        by_cases hjt : j < n
        · have hj8' : j < 8 := by omega
          have hj8 : (j : Int) < 8 := by omega
          have b3 := (Hu.out j hj8').1
          have b4 := (Hu.out j hj8').2
          have m1 := (mod_range (v i * u j) p hp).1
          have m2 := (mod_range (v i * u j) p hp).2
          have HG : Hid (∀ t, t < 8 → 0 ≤ mtab f i j t ∧ mtab f i j t ≤ 255) := Lib.hid fun t ht => tab_bytes HF.out (i * 64 + (j * 8 + t)) (by omega)
          have HA : Hid (∀ t, 0 ≤ t → t < 0 + 8 → 0 ≤ accF p n (mtab f) v u i j t ∧ accF p n (mtab f) v u i j t < p) := Lib.hid fun t _ _ => acc_range p hp n (mtab f) v u i j t
          have HC : ∀ W, Below wr.heap.size wr W → (IsRow W w.heap.size ∧ blk W w.heap.size = alg p n f) ∧ (IsRow W (w.heap.size + 1) ∧ blk W (w.heap.size + 1) = row 8 v) ∧ (IsRow W (w.heap.size + 2) ∧ blk W (w.heap.size + 2) = row 8 u) ∧ (IsRow W (w.heap.size + 4) ∧ blk W (w.heap.size + 4) = row 8 (accF p n (mtab f) v u i j)) :=
            fun W h => ⟨keepB h z0 s0 d0, keepB h z1 s1 d1, keepB h z2 s2 d2, keepB h z4 s4 d4⟩
          go_wp2
          refine wp_quiet_tail 18 (Below wr.heap.size wr) (by kernel_rfl) (by kernel_rfl) (Below.refl _ _).drew ?_
          simp only [List.take_succ_cons, List.take_zero, List.drop_succ_cons, List.drop_zero]
          repeat (first | (refine q_skip (by rfl) ?_; simp only [Act.put, List.setIfInBounds_toArray, List.set_cons_zero, List.set_cons_succ]) | (refine q_want (by rfl) ?_; apply Exists.intro; refine ⟨fun W hW => ?_, ?_⟩; (focus (obtain ⟨⟨x1, x2⟩, ⟨x3, x4⟩, ⟨x5, x6⟩, x7, x8⟩ := HC W hW; go_simp; first | done | rfl | ((go_at_call 86; exact (timesNumber_any _ _ _ _ hp hp' b1 b2 b3 b4).mono fun e w2 ⟨he, hw2⟩ => ⟨he, hw2 ▸ hW⟩)))); simp only [Act.put, List.setIfInBounds_toArray, List.set_cons_zero, List.set_cons_succ]))
          refine wpQuiet_nil ?_
          intro W hW
          obtain ⟨⟨x1, x2⟩, ⟨x3, x4⟩, ⟨x5, x6⟩, x7, x8⟩ := HC W hW
          have y1 := keepB hW z3 s3 d3
          go_wp2_with (go_at_call 76; refine (addMultiple_any p _ _ 0 8 8 8 8 _ _ (accF p n (mtab f) v u i j) (mtab f i j) _ hp hp' m1 (by omega) x7 x8 (by omega) (by omega) HA.out (fun t ht => ⟨by rw [x2]; exact alg_at p n f i j t hlt8 hj8' ht, HG.out t ht⟩) (by omega)).mono ?_; rintro e w2 ⟨rfl, rfl⟩)
          go_roundw
          case rel =>
            refine ⟨j + 1, by omega, by go_num, (hb'.trans (hW.mono hb'.size)).trans (below_setRow (Below.refl _ _) (by omega) _), by simp [go_sem, x1, x2, x7], by simp [go_sem, x3, x4, x7], by simp [go_sem, x5, x6, x7], by simp [go_sem, y1, x7], by simp [go_sem, x7], ?_⟩
            rw [blk_setRow _ _ _ _ x7, if_pos rfl]
            exact addm_row fun t _ => acc_step p n (mtab f) v u i j t
          case measure => simp [intOf]; omega
        · obtain rfl : j = n := by omega
          have HT : Hid (row 8 (accF p j (mtab f) v u i j) = row 8 (accF p j (mtab f) v u (i + 1) 0)) := by
            have : row 8 (accF p j (mtab f) v u i j) = row 8 (accF p j (mtab f) v u (i + 1) 0) := row_congr fun t _ => acc_row p j (mtab f) v u i t
            exact Lib.hid this
          rw [HT.out] at d4
          go_wp2
          go_roundw
          case rel => exact ⟨i + 1, by omega, by go_num, hb', ⟨s0, d0⟩, ⟨s1, d1⟩, ⟨s2, d2⟩, ⟨s3, d3⟩, s4, d4⟩
          case measure => simp [intOf]; omega
    · obtain rfl : i = n := by omega
      have HT : Hid (row 8 (accF p i (mtab f) v u i 0) = row 8 (mulF p i (mtab f) v u)) := by
        have : row 8 (accF p i (mtab f) v u i 0) = row 8 (mulF p i (mtab f) v u) := row_congr fun t _ => acc_all p i (mtab f) v u t
        exact Lib.hid this
      rw [HT.out] at c4
      go_wp2
      refine bodyPost_ret (result_cell rfl aggVec _ _ (row 8 (mulF p i (mtab f) v u)) _ rfl ?_ ?_) rfl ⟨rfl, ?_⟩
      · simp [go_sem, r3, c3]
      · simp [go_sem, r3, c3]
      · exact hb.trans (below_setRow (Below.refl _ _) (by omega) _)
end Go.Proofs.Ytnjjcimpcnennaa
