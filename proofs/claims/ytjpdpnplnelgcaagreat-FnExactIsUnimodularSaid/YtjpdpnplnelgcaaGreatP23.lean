/- The opposite of an algebra, of the program. -/
import Derived.Test.YtjpdpnplnelgcaaGreatEqs
import Derived.Test.YtjpdpnplnelgcaaGreatP12
namespace Go.Proofs.YtjpdpnplnelgcaaGreat
open Go.RowKit
set_option linter.unusedSimpArgs false
set_option linter.unusedVariables false
attribute [local irreducible] wpQuiet wpQE

theorem tab_zero {p : Int} {n : Nat} {f : Nat → Int} (h : shapeB p n f = true) (u : Nat) (hu : u < 512) (ho : n ≤ u / 64 ∨ n ≤ u / 8 % 8) : tab f u = 0 := by
  unfold shapeB at h
  simp only [Bool.and_eq_true] at h
  have h1 := all_get h.2.2 (u / 64) (by omega)
  unfold entT at h1
  simp only [Bool.and_eq_true, Bool.or_eq_true, decide_eq_true_eq] at h1
  rcases Nat.lt_or_ge (u / 64) n with hi | hi
  · have hj : n ≤ u / 8 % 8 := by omega
    have h2 := all_get h1.1 (u / 8 % 8) (by omega)
    unfold entL at h2
    simp only [Bool.and_eq_true, Bool.or_eq_true, decide_eq_true_eq] at h2
    have h3 := h2.2.resolve_left (by omega)
    have h4 := (segEq_iff 0 8 _ zf).1 h3 (u % 8) (by omega)
    unfold rowOf at h4
    rw [show u / 64 * 64 + (u / 8 % 8 * 8 + (0 + u % 8)) = u by omega] at h4
    exact h4
  · have h3 := h1.2.resolve_left (by omega)
    have h4 := (segEq_iff 0 64 _ zf).1 h3 (u % 64) (by omega)
    unfold rowOf at h4
    rw [show u / 64 * 64 + (0 + u % 64) = u by omega] at h4
    exact h4

/-- the products of e(i') and e(j') exchanged in the rows before i, and in row i before j -/
def oppK (n i j : Nat) (f : Nat → Int) : Nat → Int := fun t =>
  if 8 ≤ t ∧ (((t - 8) / 64 < i ∧ (t - 8) / 8 % 8 < n) ∨ ((t - 8) / 64 = i ∧ (t - 8) / 8 % 8 < j)) then f (8 + ((t - 8) / 8 % 8 * 64 + ((t - 8) / 64 * 8 + (t - 8) % 8))) else f t
theorem opp_zero (n : Nat) (f : Nat → Int) : oppK n 0 0 f = f := by
  funext t; unfold oppK; rw [if_neg (by omega)]
theorem opp_row (n i : Nat) (f : Nat → Int) : oppK n i n f = oppK n (i + 1) 0 f := by
  funext t
  unfold oppK
  by_cases h : 8 ≤ t ∧ (((t - 8) / 64 < i ∧ (t - 8) / 8 % 8 < n) ∨ ((t - 8) / 64 = i ∧ (t - 8) / 8 % 8 < n))
  · rw [if_pos h, if_pos (by omega)]
  · rw [if_neg h, if_neg (by omega)]
theorem opp_step (p m : Int) (n i j : Nat) (f : Nat → Int) (hi : i < 8) (hj : j < 8) : lay (alg p m (oppK n i j f)) (10 + i * 64 + j * 8) (row 8 (mtab f j i)) = alg p m (oppK n i (j + 1) f) := by
  rw [show 10 + i * 64 + j * 8 = 2 + (8 + i * 64 + j * 8) by omega, lay_alg _ _ _ _ _ _ (by omega)]
  refine alg_congr fun t _ => ?_
  unfold oppK mtab tab
  by_cases h : 8 + i * 64 + j * 8 ≤ t ∧ t < 8 + i * 64 + j * 8 + 8
  · rw [if_pos h, if_pos (by omega)]
    congr 1
    omega
  · rw [if_neg h]
    by_cases h2 : 8 ≤ t ∧ (((t - 8) / 64 < i ∧ (t - 8) / 8 % 8 < n) ∨ ((t - 8) / 64 = i ∧ (t - 8) / 8 % 8 < j))
    · rw [if_pos h2, if_pos (by omega)]
    · rw [if_neg h2, if_neg (by omega)]

set_option maxRecDepth 100000 in
set_option maxHeartbeats 1000000 in
theorem opposite_any (p : Int) (n : Nat) (f : Nat → Int) (w : World) (hn : n ≤ 8) :
    Calls Tryz.prog 110 #[.agg (alg p n f)] w fun e w' => e = .returned (.agg (alg p n (oppK n n 0 f))) ∧ Below w.heap.size w w' := by
  have H0 : Hid (alg p n f = alg p n (oppK n 0 0 f)) := Lib.hid (by rw [opp_zero])
  go_enter Tryz.func110, Tryz.ntmps110
  go_wp2
  go_loopw [9] (fun s wr => ∃ i : Nat, i ≤ n ∧ s = .int .i64 i ∧ Below w.heap.size w wr ∧ (IsRow wr w.heap.size ∧ blk wr w.heap.size = alg p n f) ∧ (IsRow wr (w.heap.size + 1) ∧ blk wr (w.heap.size + 1) = alg 0 0 zf) ∧
      (IsRow wr (w.heap.size + 2) ∧ blk wr (w.heap.size + 2) = alg p n (oppK n i 0 f))) (fun s _ => n - (intOf s).toNat)
  case atStart =>
    refine ⟨0, by omega, rfl, ?_, by simp [go_sem], by simp [go_sem], by simp [go_sem], ?_⟩
    · first | exact (((Below.refl _ _).alloc (Nat.le_refl _) _).alloc (by simp) _).alloc (by simp; omega) _ | exact below_setRow ((((Below.refl _ _).alloc (Nat.le_refl _) _).alloc (by simp) _).alloc (by simp; omega) _) (by omega) _
    · rw [← H0.out]; simp [go_sem]
  case round =>
    obtain ⟨i, hi, rfl, hb, ⟨r0, c0⟩, ⟨r1, c1⟩, ⟨r2, c2⟩⟩ := hrel
    by_cases hlt : i < n
    · have hi8 : (i : Int) < 8 := by omega
      have hi8' : i < 8 := by omega
      go_wp2
      obtain ⟨wo, rfl⟩ : ∃ wo : World, wo = wr := ⟨_, rfl⟩
      go_loopw [14] (fun s wr => ∃ j : Nat, j ≤ n ∧ s = .int .i64 j ∧ Below w.heap.size w wr ∧ (IsRow wr w.heap.size ∧ blk wr w.heap.size = alg p n f) ∧ (IsRow wr (w.heap.size + 1) ∧ blk wr (w.heap.size + 1) = alg 0 0 zf) ∧
          (IsRow wr (w.heap.size + 2) ∧ blk wr (w.heap.size + 2) = alg p n (oppK n i j f))) (fun s _ => n - (intOf s).toNat)
      case atStart => exact ⟨0, by omega, rfl, hb, ⟨r0, c0⟩, ⟨r1, c1⟩, r2, c2⟩
      case round =>
        obtain ⟨j, hj, rfl, hb', ⟨s0, d0⟩, ⟨s1, d1⟩, ⟨s2, d2⟩⟩ := hrel
        clear hb r0 c0 r1 c1 r2 c2
        have z0 := isRow_lt s0
        have z1 := isRow_lt s1
        have z2 := isRow_lt s2
        by_cases hjt : j < n
        · have hj8 : (j : Int) < 8 := by omega
          have hj8' : j < 8 := by omega
          have l1 : 10 + j * 64 + i * 8 + 8 ≤ 522 := by omega
          have l2 : 10 + i * 64 + j * 8 + 8 ≤ 522 := by omega
          have e1 := alg_at8 p n f j i hj8' hi8'
          have HS := Lib.hid (opp_step p n n i j f hi8' hj8')
          have HC : ∀ W, Below wr.heap.size wr W → (IsRow W w.heap.size ∧ blk W w.heap.size = alg p n f) ∧ (IsRow W (w.heap.size + 2) ∧ blk W (w.heap.size + 2) = alg p n (oppK n i j f)) := fun W h => ⟨keepB h z0 s0 d0, keepB h z2 s2 d2⟩
          go_wp2
          refine wp_quiet_tail 11 (Below wr.heap.size wr) (by kernel_rfl) (by kernel_rfl) (Below.refl _ _).drew ?_
          simp only [List.take_succ_cons, List.take_zero, List.drop_succ_cons, List.drop_zero]
          repeat (first | (refine q_plain rfl ?_; apply Exists.intro; refine ⟨fun W hW => ?_, ?_⟩; (focus (obtain ⟨⟨x1, x2⟩, x3, x4⟩ := HC W hW; go_simp; first | done | rfl | (fail))); simp only [Act.put, List.setIfInBounds_toArray, List.set_cons_zero, List.set_cons_succ]) | (refine q_skip (by rfl) ?_; simp only [Act.put, List.setIfInBounds_toArray, List.set_cons_zero, List.set_cons_succ]) | (refine q_want (by rfl) ?_; apply Exists.intro; refine ⟨fun W hW => ?_, ?_⟩; (focus (obtain ⟨⟨x1, x2⟩, x3, x4⟩ := HC W hW; go_simp; first | done | rfl | (fail))); simp only [Act.put, List.setIfInBounds_toArray, List.set_cons_zero, List.set_cons_succ]))
          refine wpQuiet_nil ?_
          intro W hW
          obtain ⟨⟨x1, x2⟩, x3, x4⟩ := HC W hW
          have y1 := keepB hW z1 s1 d1
          go_wp2
          go_roundw
          case rel =>
            refine ⟨j + 1, by omega, by go_num, below_setRow (hb'.trans (hW.mono hb'.size)) (by omega) _, by simp [go_sem, x1, x2, x3], by simp [go_sem, y1, x3], by simp [go_sem, x3], ?_⟩
            rw [blk_setRow _ _ _ _ x3, if_pos rfl]
            exact HS.out
          case measure => simp [intOf]; omega
        · obtain rfl : j = n := by omega
          have HT := Lib.hid (opp_row j i f)
          rw [HT.out] at d2
          go_wp2
          go_roundw
          case rel => exact ⟨i + 1, by omega, by go_num, hb', ⟨s0, d0⟩, ⟨s1, d1⟩, s2, d2⟩
          case measure => simp [intOf]; omega
    · obtain rfl : i = n := by omega
      go_wp2
      refine bodyPost_ret (result_cell rfl aggAlg _ _ (alg p i (oppK i i 0 f)) _ rfl ?_ ?_) rfl ⟨rfl, ?_⟩
      · simp [go_sem, r1, c1]
      · simp [go_sem, r1, c1]
      · exact below_setRow hb (by omega) _
end Go.Proofs.YtjpdpnplnelgcaaGreat
