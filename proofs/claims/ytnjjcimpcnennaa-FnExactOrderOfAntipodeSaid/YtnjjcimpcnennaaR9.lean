/- Orders of antipodes. -/
import Derived.Test.YtnjjcimpcnennaaR8
import Derived.WalkMore
namespace Go.Proofs.Ytnjjcimpcnennaa
open Go.RowKit
set_option linter.unusedSimpArgs false
set_option linter.unusedVariables false
attribute [local irreducible] wpQuiet wpQE

/-- the linear map that applies G, and then F -/
def compF (p : Int) (F G : Nat → Int) : Nat → Int := fun t => appF p 8 (fun x y => F (x * 8 + y)) (fun y => G (t / 8 * 8 + y)) (t % 8)
def compK (p : Int) (F G : Nat → Int) (i : Nat) : Nat → Int := fun t => if t / 8 < i then compF p F G t else 0
theorem comp_zero (p : Int) (F G : Nat → Int) : row 64 zf = row 64 (compK p F G 0) := row_congr fun t _ => by unfold compK zf; rw [if_neg (by omega)]
theorem comp_step (p : Int) (F G : Nat → Int) (i : Nat) (hi : i < 8) : lay (row 64 (compK p F G i)) (i * 8) (row 8 (appF p 8 (fun x y => F (x * 8 + y)) fun t => G (i * 8 + t))) = row 64 (compK p F G (i + 1)) := by
  rw [lay_row _ _ _ _ _ (by omega)]
  refine row_congr fun t _ => ?_
  by_cases h : i * 8 ≤ t ∧ t < i * 8 + 8
  · rw [if_pos h]
    unfold compK compF
    rw [if_pos (by omega), show t / 8 = i by omega, show t - i * 8 = t % 8 by omega]
  · rw [if_neg h]
    unfold compK
    by_cases h2 : t / 8 < i
    · rw [if_pos h2, if_pos (by omega)]
    · rw [if_neg h2, if_neg (by omega)]
theorem comp_end (p : Int) (F G : Nat → Int) : row 64 (compK p F G 8) = row 64 (compF p F G) := row_congr fun t ht => by unfold compK; rw [if_pos (by omega)]
/-- by the reference model: of G the first n images, of F the first n -/
def thenF (p : Int) (n : Nat) (F G : Nat → Int) (i : Nat) : Nat → Int := fun t => if t / 8 < i then appF p n (fun x y => F (x * 8 + y)) (fun y => G (t / 8 * 8 + y)) (t % 8) else 0
theorem then_zero (p : Int) (n : Nat) (F G : Nat → Int) : row 64 zf = row 64 (thenF p n F G 0) := row_congr fun t _ => by unfold thenF zf; rw [if_neg (by omega)]
theorem then_step (p : Int) (n : Nat) (F G : Nat → Int) (i : Nat) (hi : i < 8) : lay (row 64 (thenF p n F G i)) (i * 8) (row 8 (appF p n (fun x y => F (x * 8 + y)) fun t => G (i * 8 + t))) = row 64 (thenF p n F G (i + 1)) := by
  rw [lay_row _ _ _ _ _ (by omega)]
  refine row_congr fun t _ => ?_
  by_cases h : i * 8 ≤ t ∧ t < i * 8 + 8
  · rw [if_pos h]
    unfold thenF
    rw [if_pos (by omega), show t / 8 = i by omega, show t - i * 8 = t % 8 by omega]
  · rw [if_neg h]
    unfold thenF
    by_cases h2 : t / 8 < i
    · rw [if_pos h2, if_pos (by omega)]
    · rw [if_neg h2, if_neg (by omega)]

set_option maxRecDepth 100000 in
set_option maxHeartbeats 1000000 in
theorem composeLinear_any (p : Int) (F G : Nat → Int) (w : World) (hp : 0 < p) (hp' : p ≤ 255) (hF : Bytes 64 F) (hG : Bytes 64 G) :
    Calls Try.prog 56 #[.int .i64 p, .agg (row 64 F), .agg (row 64 G)] w fun e w' => e = .returned (.agg (row 64 (compF p F G))) ∧ Below w.heap.size w w' := by
  have HF := Lib.hid hF; clear hF
  have HG := Lib.hid hG; clear hG
  go_enter Try.func56, Try.ntmps56
  go_wp2
  refine atomW fun W1 e1 => ?_
  have hb1 : Below w.heap.size w W1 := by rw [e1]; (repeat (first | exact Below.refl _ _ | refine Below.alloc ?_ (by first | omega | (simp; try omega)) _ | refine below_setRow ?_ (by omega) _ | refine Below.drew ?_))
  have q1 := hb1.size
  have r4_1 : IsRow W1 (w.heap.size) := by rw [e1]; simp [go_sem]
  have c4_1 := congrArg (fun x => blk x (w.heap.size)) e1; simp [go_sem] at c4_1
  have z4_1 := isRow_lt r4_1
  have r6_1 : IsRow W1 (w.heap.size + 2) := by rw [e1]; simp [go_sem]
  have c6_1 := congrArg (fun x => blk x (w.heap.size + 2)) e1; simp [go_sem] at c6_1
  have z6_1 := isRow_lt r6_1
  have r7_1 : IsRow W1 (w.heap.size + 3) := by rw [e1]; simp [go_sem]
  have c7_1 := congrArg (fun x => blk x (w.heap.size + 3)) e1; simp [go_sem] at c7_1
  have z7_1 := isRow_lt r7_1
  clear e1
  go_loopw [11] (fun s11 wr => ∃ i : Nat, i ≤ 8 ∧ s11 = .int .i64 i ∧ Below w.heap.size w wr ∧ (IsRow wr (w.heap.size) ∧ blk wr (w.heap.size) = blk W1 (w.heap.size)) ∧ (IsRow wr (w.heap.size + 2) ∧ blk wr (w.heap.size + 2) = blk W1 (w.heap.size + 2)) ∧ (IsRow wr (w.heap.size + 3) ∧ blk wr (w.heap.size + 3) = row 64 (compK p F G i))) (fun s11 _ => 8 - (intOf s11).toNat)
  case atStart => exact ⟨0, by omega, rfl, hb1, ⟨r4_1, rfl⟩, ⟨r6_1, rfl⟩, ⟨r7_1, c7_1.trans (comp_zero p F G)⟩⟩
  case round =>
    obtain ⟨i, hle2, rfl, hb2, ⟨r4_2, c4_2⟩, ⟨r6_2, c6_2⟩, ⟨r7_2, c7_2⟩⟩ := hrel
    obtain ⟨W2, rfl⟩ : ∃ W2 : World, W2 = wr := ⟨_, rfl⟩
    have q2 := hb2.size
    have E4_2 := Lib.hid c4_1; replace c4_2 := c4_2.trans c4_1
    have z4_2 := isRow_lt r4_2
    have E6_2 := Lib.hid c6_1; replace c6_2 := c6_2.trans c6_1
    have z6_2 := isRow_lt r6_2
    have z7_2 := isRow_lt r7_2
    clear r4_1 c4_1 z4_1 r6_1 c6_1 z6_1 r7_1 c7_1 z7_1 hb1
    by_cases hlt2 : i < 8
    · skip
      have i0_2 : (0 : Int) ≤ (i : Int) := by omega
      have i8_2 : (i : Int) < 8 := by omega
      have k8_2 : i < 8 := by omega
      have m8_2 : i * 8 + 8 ≤ 64 := by omega
      have m64_2 : i * 64 + 64 ≤ 512 := by omega
      have l1_2 : 10 + i * 64 + 64 ≤ 522 := by omega
      have HV : Hid (Bytes 8 fun t => G (i * 8 + t)) := Lib.hid (part_bytes HG.out i (by omega))
      go_wp2_with fail
      have nw4_W2_0 : (w.heap.size) ≠ W2.heap.size := by omega
      have nw6_W2_0 : (w.heap.size + 2) ≠ W2.heap.size := by omega
      have nw7_W2_0 : (w.heap.size + 3) ≠ W2.heap.size := by omega
      refine atomC fun W3 e3 => ?_
      have hb3 : Below w.heap.size w W3 := by rw [e3]; (repeat (first | exact hb2 | exact Below.refl _ _ | refine Below.alloc ?_ (by first | omega | (simp; try omega)) _ | refine below_setRow ?_ (by omega) _ | refine Below.drew ?_))
      have q3 := hb3.size
      have r4_3 : IsRow W3 (w.heap.size) := by rw [e3]; simp [go_sem, r4_2, c4_2, r6_2, c6_2, r7_2, c7_2, nw4_W2_0, nw6_W2_0, nw7_W2_0]
      have c4_3 := congrArg (fun x => blk x (w.heap.size)) e3; simp [go_sem, r4_2, c4_2, r6_2, c6_2, r7_2, c7_2, nw4_W2_0, nw6_W2_0, nw7_W2_0] at c4_3
      have z4_3 := isRow_lt r4_3
      have r6_3 : IsRow W3 (w.heap.size + 2) := by rw [e3]; simp [go_sem, r4_2, c4_2, r6_2, c6_2, r7_2, c7_2, nw4_W2_0, nw6_W2_0, nw7_W2_0]
      have c6_3 := congrArg (fun x => blk x (w.heap.size + 2)) e3; simp [go_sem, r4_2, c4_2, r6_2, c6_2, r7_2, c7_2, nw4_W2_0, nw6_W2_0, nw7_W2_0] at c6_3
      have z6_3 := isRow_lt r6_3
      have r7_3 : IsRow W3 (w.heap.size + 3) := by rw [e3]; simp [go_sem, r4_2, c4_2, r6_2, c6_2, r7_2, c7_2, nw4_W2_0, nw6_W2_0, nw7_W2_0]
      have c7_3 := congrArg (fun x => blk x (w.heap.size + 3)) e3; simp [go_sem, r4_2, c4_2, r6_2, c6_2, r7_2, c7_2, nw4_W2_0, nw6_W2_0, nw7_W2_0] at c7_3
      have z7_3 := isRow_lt r7_3
      clear e3 nw4_W2_0 nw6_W2_0 nw7_W2_0 r4_2 c4_2 z4_2 r6_2 c6_2 z6_2 r7_2 c7_2 z7_2 hb2
      refine (applyLinear_any p F _ _ hp hp' HF.out HV.out).mono ?_; rintro _ W4 ⟨rfl, hw4⟩
      obtain ⟨r4_4, c4_4⟩ := keepB hw4 z4_3 r4_3 c4_3
      have z4_4 := isRow_lt r4_4
      obtain ⟨r6_4, c6_4⟩ := keepB hw4 z6_3 r6_3 c6_3
      have z6_4 := isRow_lt r6_4
      obtain ⟨r7_4, c7_4⟩ := keepB hw4 z7_3 r7_3 c7_3
      have z7_4 := isRow_lt r7_4
      have hb4 := hb3.trans (hw4.mono hb3.size)
      have q4 := hb4.size
      clear hw4 r4_3 c4_3 z4_3 r6_3 c6_3 z6_3 r7_3 c7_3 z7_3 hb3
      go_wp2
      go_roundw
      case rel => exact ⟨i + 1, by omega, by go_num, (by (repeat (first | exact hb4 | exact Below.refl _ _ | refine Below.alloc ?_ (by first | omega | (simp; try omega)) _ | refine below_setRow ?_ (by omega) _ | refine Below.drew ?_))), ⟨by simp [go_sem, r4_4, c4_4, r6_4, c6_4, r7_4, c7_4], (by rw [E4_2.out]; first | exact c4_4 | (simp [go_sem, r4_4, c4_4, r6_4, c6_4, r7_4, c7_4]; done))⟩, ⟨by simp [go_sem, r4_4, c4_4, r6_4, c6_4, r7_4, c7_4], (by rw [E6_2.out]; first | exact c6_4 | (simp [go_sem, r4_4, c4_4, r6_4, c6_4, r7_4, c7_4]; done))⟩, ⟨by simp [go_sem, r4_4, c4_4, r6_4, c6_4, r7_4, c7_4], (by first | (rw [blk_setRow _ _ _ _ r7_4, if_pos rfl]; exact comp_step p F G i (by omega)) | exact (c7_4).trans (comp_step p F G i (by omega)) | (simp [go_sem, r4_4, c4_4, r6_4, c6_4, r7_4, c7_4]; exact comp_step p F G i (by omega)))⟩⟩
      case measure => simp [intOf]; try omega
    · skip
      obtain rfl : i = 8 := by omega
      rw [comp_end p F G] at c7_2
      go_wp2_with fail
      refine bodyPost_ret (result_cell rfl aggLin _ _ (row 64 (compF p F G)) _ rfl ?_ ?_) rfl ⟨rfl, ?_⟩
      · simp [go_sem, r4_2, c4_2, r6_2, c6_2, r7_2, c7_2]
      · simp [go_sem, r4_2, c4_2, r6_2, c6_2, r7_2, c7_2]
      · repeat (first | exact hb2 | exact Below.refl _ _ | refine Below.alloc ?_ (by first | omega | (simp; try omega)) _ | refine below_setRow ?_ (by omega) _ | refine Below.drew ?_)

set_option maxRecDepth 100000 in
set_option maxHeartbeats 1000000 in
theorem l01Then_any (p : Int) (n : Nat) (G F : Nat → Int) (w : World) (hp : 0 < p) (hp' : p ≤ 255) (hn : n ≤ 8) (hF : Bytes 64 F) (hG : Bytes 64 G) :
    Calls Try.prog 54 #[.int .i64 p, .int .i64 n, .agg (row 64 G), .agg (row 64 F)] w fun e w' => e = .returned (.agg (row 64 (thenF p n F G n))) ∧ Below w.heap.size w w' := by
  have HF := Lib.hid hF; clear hF
  have HG := Lib.hid hG; clear hG
  go_enter Try.func54, Try.ntmps54
  go_wp2
  refine atomW fun W1 e1 => ?_
  have hb1 : Below w.heap.size w W1 := by rw [e1]; (repeat (first | exact Below.refl _ _ | refine Below.alloc ?_ (by first | omega | (simp; try omega)) _ | refine below_setRow ?_ (by omega) _ | refine Below.drew ?_))
  have q1 := hb1.size
  have r6_1 : IsRow W1 (w.heap.size) := by rw [e1]; simp [go_sem]
  have c6_1 := congrArg (fun x => blk x (w.heap.size)) e1; simp [go_sem] at c6_1
  have z6_1 := isRow_lt r6_1
  have r7_1 : IsRow W1 (w.heap.size + 1) := by rw [e1]; simp [go_sem]
  have c7_1 := congrArg (fun x => blk x (w.heap.size + 1)) e1; simp [go_sem] at c7_1
  have z7_1 := isRow_lt r7_1
  have r8_1 : IsRow W1 (w.heap.size + 2) := by rw [e1]; simp [go_sem]
  have c8_1 := congrArg (fun x => blk x (w.heap.size + 2)) e1; simp [go_sem] at c8_1
  have z8_1 := isRow_lt r8_1
  have r9_1 : IsRow W1 (w.heap.size + 3) := by rw [e1]; simp [go_sem]
  have c9_1 := congrArg (fun x => blk x (w.heap.size + 3)) e1; simp [go_sem] at c9_1
  have z9_1 := isRow_lt r9_1
  clear e1
  go_loopw [10] (fun s10 wr => ∃ i : Nat, i ≤ n ∧ s10 = .int .i64 i ∧ Below w.heap.size w wr ∧ (IsRow wr (w.heap.size) ∧ blk wr (w.heap.size) = blk W1 (w.heap.size)) ∧ (IsRow wr (w.heap.size + 1) ∧ blk wr (w.heap.size + 1) = blk W1 (w.heap.size + 1)) ∧ (IsRow wr (w.heap.size + 2) ∧ blk wr (w.heap.size + 2) = blk W1 (w.heap.size + 2)) ∧ (IsRow wr (w.heap.size + 3) ∧ blk wr (w.heap.size + 3) = row 64 (thenF p n F G i))) (fun s10 _ => n - (intOf s10).toNat)
  case atStart => exact ⟨0, by omega, rfl, hb1, ⟨r6_1, rfl⟩, ⟨r7_1, rfl⟩, ⟨r8_1, rfl⟩, ⟨r9_1, c9_1.trans (then_zero p n F G)⟩⟩
  case round =>
    obtain ⟨i, hle2, rfl, hb2, ⟨r6_2, c6_2⟩, ⟨r7_2, c7_2⟩, ⟨r8_2, c8_2⟩, ⟨r9_2, c9_2⟩⟩ := hrel
    obtain ⟨W2, rfl⟩ : ∃ W2 : World, W2 = wr := ⟨_, rfl⟩
    have q2 := hb2.size
    have E6_2 := Lib.hid c6_1; replace c6_2 := c6_2.trans c6_1
    have z6_2 := isRow_lt r6_2
    have E7_2 := Lib.hid c7_1; replace c7_2 := c7_2.trans c7_1
    have z7_2 := isRow_lt r7_2
    have E8_2 := Lib.hid c8_1; replace c8_2 := c8_2.trans c8_1
    have z8_2 := isRow_lt r8_2
    have z9_2 := isRow_lt r9_2
    clear r6_1 c6_1 z6_1 r7_1 c7_1 z7_1 r8_1 c8_1 z8_1 r9_1 c9_1 z9_1 hb1
    by_cases hlt2 : i < n
    · skip
      have i0_2 : (0 : Int) ≤ (i : Int) := by omega
      have i8_2 : (i : Int) < 8 := by omega
      have k8_2 : i < 8 := by omega
      have m8_2 : i * 8 + 8 ≤ 64 := by omega
      have m64_2 : i * 64 + 64 ≤ 512 := by omega
      have l1_2 : 10 + i * 64 + 64 ≤ 522 := by omega
      have HV : Hid (Bytes 8 fun t => G (i * 8 + t)) := Lib.hid (part_bytes HG.out i (by omega))
      go_wp2
      refine wp_quiet_tail 9 (Below W2.heap.size W2) (by kernel_rfl) (by kernel_rfl) (Below.refl _ _).drew ?_
      simp only [List.take_succ_cons, List.take_zero, List.drop_succ_cons, List.drop_zero]
      iterate 7 (refine q_plain rfl ?_; apply Exists.intro; refine ⟨fun W hW => ?_, ?_⟩; (focus (obtain ⟨x6, y6⟩ := keepB hW z6_2 r6_2 c6_2; obtain ⟨x7, y7⟩ := keepB hW z7_2 r7_2 c7_2; obtain ⟨x8, y8⟩ := keepB hW z8_2 r8_2 c8_2; obtain ⟨x9, y9⟩ := keepB hW z9_2 r9_2 c9_2; go_simp; first | done | rfl)); simp only [Act.put, List.setIfInBounds_toArray, List.set_cons_zero, List.set_cons_succ])
      (refine q_plain rfl ?_; apply Exists.intro; refine ⟨fun W hW => ?_, ?_⟩; (focus (obtain ⟨x6, y6⟩ := keepB hW z6_2 r6_2 c6_2; obtain ⟨x7, y7⟩ := keepB hW z7_2 r7_2 c7_2; obtain ⟨x8, y8⟩ := keepB hW z8_2 r8_2 c8_2; obtain ⟨x9, y9⟩ := keepB hW z9_2 r9_2 c9_2; go_simp; (go_at_call 51; exact (l01Apply_any p n F _ _ hp hp' hn HF.out HV.out).mono fun e w2 ⟨he, hw2⟩ => ⟨he, hW.trans (hw2.mono hW.size)⟩))); simp only [Act.put, List.setIfInBounds_toArray, List.set_cons_zero, List.set_cons_succ])
      iterate 1 (refine q_plain rfl ?_; apply Exists.intro; refine ⟨fun W hW => ?_, ?_⟩; (focus (obtain ⟨x6, y6⟩ := keepB hW z6_2 r6_2 c6_2; obtain ⟨x7, y7⟩ := keepB hW z7_2 r7_2 c7_2; obtain ⟨x8, y8⟩ := keepB hW z8_2 r8_2 c8_2; obtain ⟨x9, y9⟩ := keepB hW z9_2 r9_2 c9_2; go_simp; first | done | rfl)); simp only [Act.put, List.setIfInBounds_toArray, List.set_cons_zero, List.set_cons_succ])
      refine wpQuiet_nil ?_
      intro W3 hw3
      obtain ⟨r6_3, c6_3⟩ := keepB hw3 z6_2 r6_2 c6_2
      have z6_3 := isRow_lt r6_3
      obtain ⟨r7_3, c7_3⟩ := keepB hw3 z7_2 r7_2 c7_2
      have z7_3 := isRow_lt r7_3
      obtain ⟨r8_3, c8_3⟩ := keepB hw3 z8_2 r8_2 c8_2
      have z8_3 := isRow_lt r8_3
      obtain ⟨r9_3, c9_3⟩ := keepB hw3 z9_2 r9_2 c9_2
      have z9_3 := isRow_lt r9_3
      have hb3 := hb2.trans (hw3.mono hb2.size)
      have q3 := hb3.size
      clear hw3 r6_2 c6_2 z6_2 r7_2 c7_2 z7_2 r8_2 c8_2 z8_2 r9_2 c9_2 z9_2 hb2
      go_wp2
      go_roundw
      case rel => exact ⟨i + 1, by omega, by go_num, (by (repeat (first | exact hb3 | exact Below.refl _ _ | refine Below.alloc ?_ (by first | omega | (simp; try omega)) _ | refine below_setRow ?_ (by omega) _ | refine Below.drew ?_))), ⟨by simp [go_sem, r6_3, c6_3, r7_3, c7_3, r8_3, c8_3, r9_3, c9_3], (by rw [E6_2.out]; first | exact c6_3 | (simp [go_sem, r6_3, c6_3, r7_3, c7_3, r8_3, c8_3, r9_3, c9_3]; done))⟩, ⟨by simp [go_sem, r6_3, c6_3, r7_3, c7_3, r8_3, c8_3, r9_3, c9_3], (by rw [E7_2.out]; first | exact c7_3 | (simp [go_sem, r6_3, c6_3, r7_3, c7_3, r8_3, c8_3, r9_3, c9_3]; done))⟩, ⟨by simp [go_sem, r6_3, c6_3, r7_3, c7_3, r8_3, c8_3, r9_3, c9_3], (by rw [E8_2.out]; first | exact c8_3 | (simp [go_sem, r6_3, c6_3, r7_3, c7_3, r8_3, c8_3, r9_3, c9_3]; done))⟩, ⟨by simp [go_sem, r6_3, c6_3, r7_3, c7_3, r8_3, c8_3, r9_3, c9_3], (by first | (rw [blk_setRow _ _ _ _ r9_3, if_pos rfl]; exact then_step p n F G i (by omega)) | exact (c9_3).trans (then_step p n F G i (by omega)) | (simp [go_sem, r6_3, c6_3, r7_3, c7_3, r8_3, c8_3, r9_3, c9_3]; exact then_step p n F G i (by omega)))⟩⟩
      case measure => simp [intOf]; try omega
    · skip
      obtain rfl : n = i := by omega
      go_wp2_with fail
      refine bodyPost_ret (result_cell rfl aggLin _ _ (row 64 (thenF p n F G n)) _ rfl ?_ ?_) rfl ⟨rfl, ?_⟩
      · simp [go_sem, r6_2, c6_2, r7_2, c7_2, r8_2, c8_2, r9_2, c9_2]
      · simp [go_sem, r6_2, c6_2, r7_2, c7_2, r8_2, c8_2, r9_2, c9_2]
      · repeat (first | exact hb2 | exact Below.refl _ _ | refine Below.alloc ?_ (by first | omega | (simp; try omega)) _ | refine below_setRow ?_ (by omega) _ | refine Below.drew ?_)

/-- S taken k - 1 times, from k = 1 on -/
def hdF (p : Int) (n : Nat) (S : Nat → Int) : Nat → Nat → Int
  | 0 => idK n
  | 1 => idK n
  | k + 2 => compF p S (hdF p n S (k + 1))
theorem hd_one (p : Int) (n : Nat) (S : Nat → Int) : row 64 (idK n) = row 64 (hdF p n S 1) := rfl
theorem hd_succ (p : Int) (n : Nat) (S : Nat → Int) {k : Nat} (h : 1 ≤ k) : hdF p n S (k + 1) = compF p S (hdF p n S k) := by
  match k, h with
  | k + 1, _ => rfl
/-- S taken k times, by the reference model -/
def skF (p : Int) (n : Nat) (S : Nat → Int) : Nat → Nat → Int
  | 0 => S
  | 1 => S
  | k + 2 => thenF p n S (skF p n S (k + 1)) n
theorem sk_one (p : Int) (n : Nat) (S : Nat → Int) : row 64 S = row 64 (skF p n S 1) := rfl
theorem sk_succ (p : Int) (n : Nat) (S : Nat → Int) {k : Nat} (h : 1 ≤ k) : skF p n S (k + 1) = thenF p n S (skF p n S k) n := by
  match k, h with
  | k + 1, _ => rfl
theorem comp_bytes {p : Int} (hp : 0 < p) (hp' : p ≤ 255) (F G : Nat → Int) : Bytes 64 (compF p F G) := fun t _ => by
  have := mod_range (sumTo (fun j => G (t / 8 * 8 + j) * F (j * 8 + t % 8)) 8) p hp
  exact ⟨this.1, Int.le_trans (Int.le_of_lt this.2) hp'⟩
theorem hd_bytes {p : Int} (hp : 0 < p) (hp' : p ≤ 255) (n : Nat) (S : Nat → Int) : ∀ k, Bytes 64 (hdF p n S k)
  | 0 => id_bytes n
  | 1 => id_bytes n
  | k + 2 => comp_bytes hp hp' _ _
theorem then_bytes {p : Int} (hp : 0 < p) (hp' : p ≤ 255) (n : Nat) (F G : Nat → Int) (i : Nat) : Bytes 64 (thenF p n F G i) := fun t _ => by
  unfold thenF
  split
  · have := app_range p hp n (fun x y => F (x * 8 + y)) (fun y => G (t / 8 * 8 + y)) (t % 8)
    exact ⟨this.1, Int.le_trans (Int.le_of_lt this.2) hp'⟩
  · omega
theorem sk_bytes {p : Int} (hp : 0 < p) (hp' : p ≤ 255) (n : Nat) {S : Nat → Int} (hS : Bytes 64 S) : ∀ k, Bytes 64 (skF p n S k)
  | 0 => hS
  | 1 => hS
  | k + 2 => then_bytes hp hp' _ _ _ _
theorem an_entry {p : Int} {n : Nat} {f : Nat → Int} (h : shapeH p n f = true) (i j : Nat) (hi : i < 8) (hj : j < 8) : anF f (i * 8 + j) < p ∧ ((i < n ∧ j < n) ∨ anF f (i * 8 + j) = 0) := by
  have h1 := all_get (shapeH_parts h).2.2 i hi
  unfold entL at h1
  simp only [Bool.and_eq_true, Bool.or_eq_true, decide_eq_true_eq] at h1
  have h2 := (vecB_iff p n _).1 h1.1 j hj
  have e : rowOf 8 (anF f) i j = anF f (i * 8 + j) := rfl
  rw [e] at h2
  refine ⟨h2.1, ?_⟩
  rcases h1.2 with a | a
  · rcases h2.2 with b | b
    · exact .inl ⟨by omega, by omega⟩
    · exact .inr b
  · have := (segEq_iff 0 8 _ _).1 a j hj
    rw [Nat.zero_add] at this
    exact .inr this
theorem sk_zero {p : Int} {n : Nat} {f : Nat → Int} (hn : n ≤ 8) (h : shapeH p n f = true) : ∀ k i j, i < 8 → j < 8 → (n ≤ i ∨ n ≤ j) → skF p n (anF f) k (i * 8 + j) = 0
  | 0, i, j, hi, hj, ho => by
    have := (an_entry h i j hi hj).2
    show anF f (i * 8 + j) = 0
    omega
  | 1, i, j, hi, hj, ho => by
    have := (an_entry h i j hi hj).2
    show anF f (i * 8 + j) = 0
    omega
  | k + 2, i, j, hi, hj, ho => by
    show thenF p n (anF f) (skF p n (anF f) (k + 1)) n (i * 8 + j) = 0
    unfold thenF
    rw [show (i * 8 + j) / 8 = i by omega, show (i * 8 + j) % 8 = j by omega]
    by_cases hlt : i < n
    · rw [if_pos hlt]
      unfold appF
      rw [sumTo_zero n fun x hx => by
        have := (an_entry h x j (by omega) hj).2
        show _ * anF f (x * 8 + j) = 0
        rw [show anF f (x * 8 + j) = 0 by omega, Int.mul_zero]]
      rfl
    · rw [if_neg hlt]
theorem app_zero {p : Int} {g : Nat → Nat → Int} {v : Nat → Int} {k : Nat} (h : ∀ j, j < 8 → v j = 0) : appF p 8 g v k = 0 := by
  unfold appF
  rw [sumTo_zero 8 fun j hj => by rw [h j hj, Int.zero_mul]]
  rfl
theorem appF_full {p : Int} {n k : Nat} {g : Nat → Nat → Int} {v v' : Nat → Int} (hn : n ≤ 8) (he : ∀ j, j < 8 → v j = v' j) (hv : ∀ i, n ≤ i → i < 8 → v' i = 0) : appF p 8 g v k = appF p n g v' k := by
  unfold appF
  rw [sumTo_congr 8 (h := fun j => v' j * g j k) fun j hj => by rw [he j hj], sumTo_more (n := n) (fun i h1 h2 => by rw [hv i h1 h2, Int.zero_mul]) hn]
theorem hd_sk {p : Int} {n : Nat} {f : Nat → Int} (hn : n ≤ 8) (h : shapeH p n f = true) (hb : Bytes 1104 f) : ∀ k i j, i < 8 → j < 8 → hdF p n (anF f) (k + 2) (i * 8 + j) = skF p n (anF f) (k + 1) (i * 8 + j)
  | 0, i, j, hi, hj => by
    show compF p (anF f) (idK n) (i * 8 + j) = anF f (i * 8 + j)
    unfold compF
    rw [show (i * 8 + j) / 8 = i by omega, show (i * 8 + j) % 8 = j by omega]
    by_cases hlt : i < n
    · unfold appF
      rw [sumTo_one 8 hi fun x hx hne => by
        show idK n (i * 8 + x) * _ = 0
        unfold idK
        rw [if_pos (by omega), show (i * 8 + x) / 8 = i by omega, show (i * 8 + x) % 8 = x by omega, ebas_ne hne, Int.zero_mul]]
      show idK n (i * 8 + i) * anF f (i * 8 + j) % p = _
      unfold idK
      rw [if_pos (by omega), show (i * 8 + i) / 8 = i by omega, show (i * 8 + i) % 8 = i by omega, ebas_eq, Int.one_mul]
      exact Int.emod_eq_of_lt (an_bytes hb _ (by omega)).1 (an_entry h i j hi hj).1
    · rw [app_zero fun x hx => by unfold idK; rw [if_neg (by omega)]]
      have := (an_entry h i j hi hj).2
      omega
  | k + 1, i, j, hi, hj => by
    show compF p (anF f) (hdF p n (anF f) (k + 2)) (i * 8 + j) = thenF p n (anF f) (skF p n (anF f) (k + 1)) n (i * 8 + j)
    unfold compF thenF
    rw [show (i * 8 + j) / 8 = i by omega, show (i * 8 + j) % 8 = j by omega]
    have e := fun x hx => hd_sk hn h hb k i x hi hx
    by_cases hlt : i < n
    · rw [if_pos hlt]
      exact appF_full hn e fun x h1 h2 => sk_zero hn h (k + 1) i x hi h2 (.inr h1)
    · rw [if_neg hlt]
      exact app_zero fun x hx => by rw [e x hx]; exact sk_zero hn h (k + 1) i x hi hx (.inl (by omega))
/-- S taken k times leads e(i) to itself -/
def ordR (p : Int) (n : Nat) (f : Nat → Int) (k i : Nat) : Bool := segEq 0 8 (fun t => hdF p n (anF f) (k + 1) (i * 8 + t)) (ebas i)
def ordQ (p : Int) (n : Nat) (f : Nat → Int) (k : Nat) : Bool := (List.range n).all (ordR p n f k)
theorem ord_spec {p : Int} {n : Nat} {f : Nat → Int} (hn : n ≤ 8) (h : shapeH p n f = true) (hb : Bytes 1104 f) {k : Nat} (hk : 1 ≤ k) : segEq 0 64 (skF p n (anF f) k) (idK n) = ordQ p n f k := by
  obtain ⟨k, rfl⟩ : ∃ m, k = m + 1 := ⟨k - 1, by omega⟩
  refine seg_rows hn (fun i t hi ht => (hd_sk hn h hb k i t (by omega) ht).symm) (fun i t hi ht => ?_) (fun i t h1 h2 ht => ?_)
  · unfold idK
    rw [if_pos (by omega), show (i * 8 + t) / 8 = i by omega, show (i * 8 + t) % 8 = t by omega]
  · rw [sk_zero hn h (k + 1) i t h2 ht (.inl h1)]
    unfold idK
    rw [if_neg (by omega)]
def ordL (p : Int) (n : Nat) (f : Nat → Int) : List Bool := (List.range 60).map fun a => !ordQ p n f (a + 1)
/-- the order, or 0 -/
def ordN (p : Int) (n : Nat) (f : Nat → Int) : Int := axN (ordL p n f) 1
theorem ordL_at (p : Int) (n : Nat) (f : Nat → Int) (a : Nat) (h : a < 60) : (ordL p n f).getD a true = !ordQ p n f (a + 1) := by
  unfold ordL
  simp [h]
theorem ord_at {p : Int} {n : Nat} {f : Nat → Int} {k : Nat} (h1 : 1 ≤ k) (h2 : k ≤ 60) (ha : ∀ a, 1 ≤ a → a < k → ordQ p n f a = false) (h : ordQ p n f k = true) : ordN p n f = (k : Int) := by
  have := axN_at (ordL p n f) 1 (k - 1) (fun a hlt => by rw [ordL_at p n f a (by omega), ha (a + 1) (by omega) (by omega)]; rfl) (by rw [ordL_at p n f (k - 1) (by omega), show k - 1 + 1 = k by omega, h]; rfl)
  unfold ordN
  rw [this]
  omega
theorem ord_none {p : Int} {n : Nat} {f : Nat → Int} (ha : ∀ a, 1 ≤ a → a < 61 → ordQ p n f a = false) : ordN p n f = 0 := axN_none _ 1 fun a hlt => by
  have : a < 60 := by simpa [ordL] using hlt
  rw [ordL_at p n f a this, ha (a + 1) (by omega) (by omega)]; rfl
def ooR (p n : Int) (f : Nat → Int) : Int := match hopfB p n f with | true => ordN p n.toNat f | false => 0
def ooC (p n : Int) (f : Nat → Int) : Int := match hopfB p n f with | true => (if ordN p n.toNat f = 0 then 3 else 0) | false => 1
theorem oo_no {p n : Int} {f : Nat → Int} (h : hopfB p n f = false) : ooR p n f = 0 ∧ ooC p n f = 1 := by unfold ooR ooC; rw [h]; exact ⟨rfl, rfl⟩
theorem oo_at {p : Int} {n k : Nat} {f : Nat → Int} (h : hopfB p n f = true) (hk : ordN p n f = (k : Int)) (h1 : 1 ≤ k) : ooR p n f = k ∧ ooC p n f = 0 := by
  unfold ooR ooC
  rw [h]
  show ordN p n f = _ ∧ (if ordN p n f = 0 then 3 else 0 : Int) = 0
  rw [hk, if_neg (by omega)]
  exact ⟨rfl, rfl⟩
theorem oo_none {p : Int} {n : Nat} {f : Nat → Int} (h : hopfB p n f = true) (hk : ordN p n f = 0) : ooR p n f = 0 ∧ ooC p n f = 3 := by
  unfold ooR ooC
  rw [h]
  show ordN p n f = _ ∧ (if ordN p n f = 0 then 3 else 0 : Int) = 3
  rw [hk, if_pos rfl]
  exact ⟨rfl, rfl⟩
theorem upto_none {q : Nat → Bool} {k : Nat} (ha : ∀ a, 1 ≤ a → a < k → q a = false) (h : q k = false) : ∀ a, 1 ≤ a → a < k + 1 → q a = false := fun a h1 h2 => by
  by_cases e : a = k
  · subst e; exact h
  · exact ha a h1 (by omega)

set_option maxRecDepth 100000 in
set_option maxHeartbeats 1000000 in
theorem specOrder_any (p n : Int) (f : Nat → Int) (w : World) (hF : Bytes 1104 f) :
    Calls Try.prog 31 #[.agg (hop p n f)] w fun e w' => e = .returned (.tuple #[.int .i64 (ooR p n f), .int .i64 (ooC p n f)]) ∧ Below w.heap.size w w' := by
  have HF := Lib.hid hF; clear hF
  cases hc : hopfB p n f
  · skip
    have H := Lib.hid (oo_no hc)
    go_enter Try.func31, Try.ntmps31
    go_wp2_with fail
    refine atomC fun W1 e1 => ?_
    have hb1 : Below w.heap.size w W1 := by rw [e1]; (repeat (first | exact Below.refl _ _ | refine Below.alloc ?_ (by first | omega | (simp; try omega)) _ | refine below_setRow ?_ (by omega) _ | refine Below.drew ?_))
    have q1 := hb1.size
    have r1_1 : IsRow W1 (w.heap.size) := by rw [e1]; simp [go_sem]
    have c1_1 := congrArg (fun x => blk x (w.heap.size)) e1; simp [go_sem] at c1_1
    have z1_1 := isRow_lt r1_1
    clear e1
    refine (l03Is_any _ _ _ _ HF.out).mono ?_; rintro _ W2 ⟨rfl, hw2⟩
    obtain ⟨r1_2, c1_2⟩ := keepB hw2 z1_1 r1_1 c1_1
    have z1_2 := isRow_lt r1_2
    have hb2 := hb1.trans (hw2.mono hb1.size)
    have q2 := hb2.size
    clear hw2 r1_1 c1_1 z1_1 hb1
    go_wp2_with fail
    go_ret2
    exact ⟨ret_ii H.out.1.symm H.out.2.symm, (by (repeat (first | exact hb2 | exact Below.refl _ _ | refine Below.alloc ?_ (by first | omega | (simp; try omega)) _ | refine below_setRow ?_ (by omega) _ | refine Below.drew ?_)))⟩
  · skip
    have hs := hopf_shape hc
    have Hs := Lib.hid hs
    have Hc := Lib.hid hc
    obtain ⟨hp2, hp31, hn1, hn8⟩ := sizes_range (shapeH_sizes hs)
    obtain ⟨n, rfl⟩ := Int.eq_ofNat_of_zero_le (show 0 ≤ n by omega)
    have hn : n ≤ 8 := by omega
    have hp : 0 < p := by omega
    have hp' : p ≤ 255 := by omega
    have HS : Hid (Bytes 64 (anF f)) := Lib.hid (an_bytes HF.out)
    go_enter Try.func31, Try.ntmps31
    go_wp2_with fail
    refine atomC fun W3 e3 => ?_
    have hb3 : Below w.heap.size w W3 := by rw [e3]; (repeat (first | exact Below.refl _ _ | refine Below.alloc ?_ (by first | omega | (simp; try omega)) _ | refine below_setRow ?_ (by omega) _ | refine Below.drew ?_))
    have q3 := hb3.size
    have r1_3 : IsRow W3 (w.heap.size) := by rw [e3]; simp [go_sem]
    have c1_3 := congrArg (fun x => blk x (w.heap.size)) e3; simp [go_sem] at c1_3
    have z1_3 := isRow_lt r1_3
    clear e3
    refine (l03Is_any _ _ _ _ HF.out).mono ?_; rintro _ W4 ⟨rfl, hw4⟩
    obtain ⟨r1_4, c1_4⟩ := keepB hw4 z1_3 r1_3 c1_3
    have z1_4 := isRow_lt r1_4
    have hb4 := hb3.trans (hw4.mono hb3.size)
    have q4 := hb4.size
    clear hw4 r1_3 c1_3 z1_3 hb3
    go_wp2
    have nw1_W4_0 : (w.heap.size) ≠ W4.heap.size := by omega
    refine atomW fun W5 e5 => ?_
    have hb5 : Below w.heap.size w W5 := by rw [e5]; (repeat (first | exact hb4 | exact Below.refl _ _ | refine Below.alloc ?_ (by first | omega | (simp; try omega)) _ | refine below_setRow ?_ (by omega) _ | refine Below.drew ?_))
    have q5 := hb5.size
    have r1_5 : IsRow W5 (w.heap.size) := by rw [e5]; simp [go_sem, r1_4, c1_4, nw1_W4_0]
    have c1_5 := congrArg (fun x => blk x (w.heap.size)) e5; simp [go_sem, r1_4, c1_4, nw1_W4_0] at c1_5
    have z1_5 := isRow_lt r1_5
    have r4_5 : IsRow W5 (W4.heap.size) := by rw [e5]; simp [go_sem, r1_4, c1_4, nw1_W4_0]
    have c4_5 := congrArg (fun x => blk x (W4.heap.size)) e5; simp [go_sem, r1_4, c1_4, nw1_W4_0] at c4_5
    have z4_5 := isRow_lt r4_5
    have n1_4 : (w.heap.size) ≠ (W4.heap.size) := by omega
    have n4_1 : (W4.heap.size) ≠ (w.heap.size) := by omega
    clear e5 nw1_W4_0 r1_4 c1_4 z1_4 hb4
    go_loopw [5] (fun s5 wr => ∃ k : Nat, 1 ≤ k ∧ k ≤ 61 ∧ s5 = .int .i64 k ∧ Below w.heap.size w wr ∧ (IsRow wr (w.heap.size) ∧ blk wr (w.heap.size) = blk W5 (w.heap.size)) ∧ (IsRow wr (W4.heap.size) ∧ blk wr (W4.heap.size) = row 64 (skF p n (anF f) k)) ∧ ∀ a, 1 ≤ a → a < k → ordQ p n f a = false) (fun s5 _ => 61 - (intOf s5).toNat)
    case atStart => exact ⟨1, by omega, by omega, rfl, hb5, ⟨r1_5, rfl⟩, ⟨r4_5, c4_5.trans (sk_one p n (anF f))⟩, fun a h1 h2 => by omega⟩
    case round =>
      obtain ⟨k, hlo, hle6, rfl, hb6, ⟨r1_6, c1_6⟩, ⟨r4_6, c4_6⟩, hx6⟩ := hrel
      obtain ⟨W6, rfl⟩ : ∃ W6 : World, W6 = wr := ⟨_, rfl⟩
      have q6 := hb6.size
      have HX6 := Lib.hid hx6; clear hx6
      have E1_6 := Lib.hid c1_5; replace c1_6 := c1_6.trans c1_5
      have z1_6 := isRow_lt r1_6
      have z4_6 := isRow_lt r4_6
      clear r1_5 c1_5 z1_5 r4_5 c4_5 z4_5 hb5
      by_cases hlt6 : k < 61
      · skip
        have i0_6 : (0 : Int) ≤ (k : Int) := by omega
        have i8_6 : (k : Int) < 61 := by omega
        have k8_6 : k < 61 := by omega
        cases h0 : ordQ p n f k
        · skip
          have k9 : (k : Int) ≤ 60 := by omega
          have h1 : segEq 0 64 (skF p n (anF f) k) (idK n) = false := (ord_spec hn Hs.out HF.out (by omega)).trans h0
          have H := Lib.hid (upto_none HX6.out h0)
          have HK := Lib.hid (sk_bytes hp hp' n HS.out k)
          have HE := Lib.hid (sk_succ p n (anF f) (k := k) (by omega))
          go_wp2
          refine wp_quiet_all (Below W6.heap.size W6) (by kernel_rfl) (by kernel_rfl) (Below.refl _ _).drew ?_
          iterate 3 (refine q_plain rfl ?_; apply Exists.intro; refine ⟨fun W hW => ?_, ?_⟩; (focus (obtain ⟨x1, y1⟩ := keepB hW z1_6 r1_6 c1_6; obtain ⟨x4, y4⟩ := keepB hW z4_6 r4_6 c4_6; go_simp; first | done | rfl)); simp only [Act.put, List.setIfInBounds_toArray, List.set_cons_zero, List.set_cons_succ])
          (refine q_plain rfl ?_; apply Exists.intro; refine ⟨fun W hW => ?_, ?_⟩; (focus (obtain ⟨x1, y1⟩ := keepB hW z1_6 r1_6 c1_6; obtain ⟨x4, y4⟩ := keepB hW z4_6 r4_6 c4_6; go_simp; (go_at_call 53; exact (l03Same_any n _ hn).mono fun e w2 ⟨he, hw2⟩ => ⟨he, hW.trans (hw2.mono hW.size)⟩))); simp only [Act.put, List.setIfInBounds_toArray, List.set_cons_zero, List.set_cons_succ])
          iterate 1 (refine q_plain rfl ?_; apply Exists.intro; refine ⟨fun W hW => ?_, ?_⟩; (focus (obtain ⟨x1, y1⟩ := keepB hW z1_6 r1_6 c1_6; obtain ⟨x4, y4⟩ := keepB hW z4_6 r4_6 c4_6; go_simp; first | done | rfl)); simp only [Act.put, List.setIfInBounds_toArray, List.set_cons_zero, List.set_cons_succ])
          refine wpQuiet_nil ?_
          intro W7 hw7
          obtain ⟨r1_7, c1_7⟩ := keepB hw7 z1_6 r1_6 c1_6
          have z1_7 := isRow_lt r1_7
          obtain ⟨r4_7, c4_7⟩ := keepB hw7 z4_6 r4_6 c4_6
          have z4_7 := isRow_lt r4_7
          have hb7 := hb6.trans (hw7.mono hb6.size)
          have q7 := hb7.size
          clear hw7 r1_6 c1_6 z1_6 r4_6 c4_6 z4_6 hb6
          go_wp2_with fail
          refine (l01Then_any p n (skF p n (anF f) k) (anF f) _ hp hp' hn HS.out HK.out).mono ?_; rintro _ W8 ⟨rfl, hw8⟩
          obtain ⟨r1_8, c1_8⟩ := keepB hw8 z1_7 r1_7 c1_7
          have z1_8 := isRow_lt r1_8
          obtain ⟨r4_8, c4_8⟩ := keepB hw8 z4_7 r4_7 c4_7
          have z4_8 := isRow_lt r4_8
          have hb8 := hb7.trans (hw8.mono hb7.size)
          have q8 := hb8.size
          clear hw8 r1_7 c1_7 z1_7 r4_7 c4_7 z4_7 hb7
          go_wp2
          go_roundw
          case rel => exact ⟨k + 1, by omega, by omega, by go_num, (by (repeat (first | exact hb8 | exact Below.refl _ _ | refine Below.alloc ?_ (by first | omega | (simp; try omega)) _ | refine below_setRow ?_ (by omega) _ | refine Below.drew ?_))), ⟨by simp [go_sem, r1_8, c1_8, n1_4, r4_8, c4_8, n4_1], (by rw [E1_6.out]; first | exact c1_8 | (simp [go_sem, r1_8, c1_8, n1_4, r4_8, c4_8, n4_1]; done))⟩, ⟨by simp [go_sem, r1_8, c1_8, n1_4, r4_8, c4_8, n4_1], (by first | (rw [blk_setRow _ _ _ _ r4_8, if_pos rfl]; exact by rw [HE.out]) | exact (c4_8).trans (by rw [HE.out]) | (simp [go_sem, r1_8, c1_8, n1_4, r4_8, c4_8, n4_1]; exact by rw [HE.out]))⟩, H.out⟩
          case measure => simp [intOf]; try omega
        · skip
          have k9 : (k : Int) ≤ 60 := by omega
          have h1 : segEq 0 64 (skF p n (anF f) k) (idK n) = true := (ord_spec hn Hs.out HF.out (by omega)).trans h0
          have H := Lib.hid (oo_at Hc.out (ord_at (by omega) (by omega) HX6.out h0) (by omega))
          go_wp2
          refine wp_quiet_all (Below W6.heap.size W6) (by kernel_rfl) (by kernel_rfl) (Below.refl _ _).drew ?_
          iterate 3 (refine q_plain rfl ?_; apply Exists.intro; refine ⟨fun W hW => ?_, ?_⟩; (focus (obtain ⟨x1, y1⟩ := keepB hW z1_6 r1_6 c1_6; obtain ⟨x4, y4⟩ := keepB hW z4_6 r4_6 c4_6; go_simp; first | done | rfl)); simp only [Act.put, List.setIfInBounds_toArray, List.set_cons_zero, List.set_cons_succ])
          (refine q_plain rfl ?_; apply Exists.intro; refine ⟨fun W hW => ?_, ?_⟩; (focus (obtain ⟨x1, y1⟩ := keepB hW z1_6 r1_6 c1_6; obtain ⟨x4, y4⟩ := keepB hW z4_6 r4_6 c4_6; go_simp; (go_at_call 53; exact (l03Same_any n _ hn).mono fun e w2 ⟨he, hw2⟩ => ⟨he, hW.trans (hw2.mono hW.size)⟩))); simp only [Act.put, List.setIfInBounds_toArray, List.set_cons_zero, List.set_cons_succ])
          iterate 1 (refine q_plain rfl ?_; apply Exists.intro; refine ⟨fun W hW => ?_, ?_⟩; (focus (obtain ⟨x1, y1⟩ := keepB hW z1_6 r1_6 c1_6; obtain ⟨x4, y4⟩ := keepB hW z4_6 r4_6 c4_6; go_simp; first | done | rfl)); simp only [Act.put, List.setIfInBounds_toArray, List.set_cons_zero, List.set_cons_succ])
          refine wpQuiet_nil ?_
          intro W9 hw9
          obtain ⟨r1_9, c1_9⟩ := keepB hw9 z1_6 r1_6 c1_6
          have z1_9 := isRow_lt r1_9
          obtain ⟨r4_9, c4_9⟩ := keepB hw9 z4_6 r4_6 c4_6
          have z4_9 := isRow_lt r4_9
          have hb9 := hb6.trans (hw9.mono hb6.size)
          have q9 := hb9.size
          clear hw9 r1_6 c1_6 z1_6 r4_6 c4_6 z4_6 hb6
          go_wp2_with fail
          go_ret2
          exact ⟨ret_ii H.out.1.symm H.out.2.symm, (by (repeat (first | exact hb9 | exact Below.refl _ _ | refine Below.alloc ?_ (by first | omega | (simp; try omega)) _ | refine below_setRow ?_ (by omega) _ | refine Below.drew ?_)))⟩
      · skip
        obtain rfl : k = 61 := by omega
        have H := Lib.hid (oo_none Hc.out (ord_none HX6.out))
        go_wp2_with fail
        go_ret2
        exact ⟨ret_ii H.out.1.symm H.out.2.symm, (by (repeat (first | exact hb6 | exact Below.refl _ _ | refine Below.alloc ?_ (by first | omega | (simp; try omega)) _ | refine below_setRow ?_ (by omega) _ | refine Below.drew ?_)))⟩

set_option maxRecDepth 100000 in
set_option maxHeartbeats 4000000 in
theorem order_any (p n : Int) (f : Nat → Int) (w : World) (hF : Bytes 1104 f) :
    Calls Try.prog 32 #[.agg (hop p n f)] w fun e w' => e = .returned (.tuple #[.int .i64 (ooR p n f), .int .i64 (ooC p n f)]) ∧ Below w.heap.size w w' := by
  have HF := Lib.hid hF; clear hF
  cases hc : hopfB p n f
  · skip
    have H := Lib.hid (oo_no hc)
    go_enter Try.func32, Try.ntmps32
    go_wp2
    go_step3
    go_wp2_with fail
    refine atomC fun W1 e1 => ?_
    have hb1 : Below w.heap.size w W1 := by rw [e1]; (repeat (first | exact Below.refl _ _ | refine Below.alloc ?_ (by first | omega | (simp; try omega)) _ | refine below_setRow ?_ (by omega) _ | refine Below.drew ?_))
    have q1 := hb1.size
    have r1_1 : IsRow W1 (w.heap.size) := by rw [e1]; simp [go_sem]
    have c1_1 := congrArg (fun x => blk x (w.heap.size)) e1; simp [go_sem] at c1_1
    have z1_1 := isRow_lt r1_1
    clear e1
    refine (isHopf_any _ _ _ _ HF.out).mono ?_; rintro _ W2 ⟨rfl, hw2⟩
    obtain ⟨r1_2, c1_2⟩ := keepB hw2 z1_1 r1_1 c1_1
    have z1_2 := isRow_lt r1_2
    have hb2 := hb1.trans (hw2.mono hb1.size)
    have q2 := hb2.size
    clear hw2 r1_1 c1_1 z1_1 hb1
    go_wp2_with fail
    (try rw [Exit.noGoto_ret])
    go_ret2
    exact ⟨ret_ii H.out.1.symm H.out.2.symm, (by (repeat (first | exact hb2 | exact Below.refl _ _ | refine Below.alloc ?_ (by first | omega | (simp; try omega)) _ | refine below_setRow ?_ (by omega) _ | refine Below.drew ?_)))⟩
  · skip
    have hs := hopf_shape hc
    have Hs := Lib.hid hs
    have Hc := Lib.hid hc
    obtain ⟨hp2, hp31, hn1, hn8⟩ := sizes_range (shapeH_sizes hs)
    obtain ⟨n, rfl⟩ := Int.eq_ofNat_of_zero_le (show 0 ≤ n by omega)
    have hn : n ≤ 8 := by omega
    have hp : 0 < p := by omega
    have hp' : p ≤ 255 := by omega
    have HS : Hid (Bytes 64 (anF f)) := Lib.hid (an_bytes HF.out)
    go_enter Try.func32, Try.ntmps32
    go_wp2
    go_step3
    go_wp2_with fail
    refine atomC fun W3 e3 => ?_
    have hb3 : Below w.heap.size w W3 := by rw [e3]; (repeat (first | exact Below.refl _ _ | refine Below.alloc ?_ (by first | omega | (simp; try omega)) _ | refine below_setRow ?_ (by omega) _ | refine Below.drew ?_))
    have q3 := hb3.size
    have r1_3 : IsRow W3 (w.heap.size) := by rw [e3]; simp [go_sem]
    have c1_3 := congrArg (fun x => blk x (w.heap.size)) e3; simp [go_sem] at c1_3
    have z1_3 := isRow_lt r1_3
    clear e3
    refine (isHopf_any _ _ _ _ HF.out).mono ?_; rintro _ W4 ⟨rfl, hw4⟩
    obtain ⟨r1_4, c1_4⟩ := keepB hw4 z1_3 r1_3 c1_3
    have z1_4 := isRow_lt r1_4
    have hb4 := hb3.trans (hw4.mono hb3.size)
    have q4 := hb4.size
    clear hw4 r1_3 c1_3 z1_3 hb3
    go_wp2_with fail
    refine (identityLinear_any n _ hn).mono ?_; rintro _ W5 ⟨rfl, hw5⟩
    obtain ⟨r1_5, c1_5⟩ := keepB hw5 z1_4 r1_4 c1_4
    have z1_5 := isRow_lt r1_5
    have hb5 := hb4.trans (hw5.mono hb4.size)
    have q5 := hb5.size
    clear hw5 r1_4 c1_4 z1_4 hb4
    go_wp2
    go_step3
    go_wp2
    have nw1_W5_0 : (w.heap.size) ≠ W5.heap.size := by omega
    refine atomW fun W6 e6 => ?_
    have hb6 : Below w.heap.size w W6 := by rw [e6]; (repeat (first | exact hb5 | exact Below.refl _ _ | refine Below.alloc ?_ (by first | omega | (simp; try omega)) _ | refine below_setRow ?_ (by omega) _ | refine Below.drew ?_))
    have q6 := hb6.size
    have r1_6 : IsRow W6 (w.heap.size) := by rw [e6]; simp [go_sem, r1_5, c1_5, nw1_W5_0]
    have c1_6 := congrArg (fun x => blk x (w.heap.size)) e6; simp [go_sem, r1_5, c1_5, nw1_W5_0] at c1_6
    have z1_6 := isRow_lt r1_6
    have r4_6 : IsRow W6 (W5.heap.size) := by rw [e6]; simp [go_sem, r1_5, c1_5, nw1_W5_0]
    have c4_6 := congrArg (fun x => blk x (W5.heap.size)) e6; simp [go_sem, r1_5, c1_5, nw1_W5_0] at c4_6
    have z4_6 := isRow_lt r4_6
    have n1_4 : (w.heap.size) ≠ (W5.heap.size) := by omega
    have n4_1 : (W5.heap.size) ≠ (w.heap.size) := by omega
    clear e6 nw1_W5_0 r1_5 c1_5 z1_5 hb5
    go_loopw [5] (fun s5 wr => ∃ k : Nat, 1 ≤ k ∧ k ≤ 61 ∧ s5 = .int .i64 k ∧ Below w.heap.size w wr ∧ (IsRow wr (w.heap.size) ∧ blk wr (w.heap.size) = blk W6 (w.heap.size)) ∧ (IsRow wr (W5.heap.size) ∧ blk wr (W5.heap.size) = row 64 (hdF p n (anF f) k)) ∧ ∀ a, 1 ≤ a → a < k → ordQ p n f a = false) (fun s5 _ => 61 - (intOf s5).toNat)
    case atStart => exact ⟨1, by omega, by omega, rfl, hb6, ⟨r1_6, rfl⟩, ⟨r4_6, c4_6.trans (hd_one p n (anF f))⟩, fun a h1 h2 => by omega⟩
    case round =>
      obtain ⟨k, hlo, hle7, rfl, hb7, ⟨r1_7, c1_7⟩, ⟨r4_7, c4_7⟩, hx7⟩ := hrel
      obtain ⟨W7, rfl⟩ : ∃ W7 : World, W7 = wr := ⟨_, rfl⟩
      have q7 := hb7.size
      have HX7 := Lib.hid hx7; clear hx7
      have E1_7 := Lib.hid c1_6; replace c1_7 := c1_7.trans c1_6
      have z1_7 := isRow_lt r1_7
      have z4_7 := isRow_lt r4_7
      clear r1_6 c1_6 z1_6 r4_6 c4_6 z4_6 hb6
      by_cases hlt7 : k < 61
      · skip
        have i0_7 : (0 : Int) ≤ (k : Int) := by omega
        have i8_7 : (k : Int) < 61 := by omega
        have k8_7 : k < 61 := by omega
        have k9 : (k : Int) ≤ 60 := by omega
        have HK := Lib.hid (hd_bytes hp hp' n (anF f) k)
        have HE := Lib.hid (hd_succ p n (anF f) (k := k) (by omega))
        go_wp2_with fail
        refine (composeLinear_any p (anF f) (hdF p n (anF f) k) _ hp hp' HS.out HK.out).mono ?_; rintro _ W8 ⟨rfl, hw8⟩
        obtain ⟨r1_8, c1_8⟩ := keepB hw8 z1_7 r1_7 c1_7
        have z1_8 := isRow_lt r1_8
        obtain ⟨r4_8, c4_8⟩ := keepB hw8 z4_7 r4_7 c4_7
        have z4_8 := isRow_lt r4_8
        have hb8 := hb7.trans (hw8.mono hb7.size)
        have q8 := hb8.size
        clear hw8 r1_7 c1_7 z1_7 r4_7 c4_7 z4_7 hb7
        go_wp2
        refine atomW fun W9 e9 => ?_
        have hb9 : Below w.heap.size w W9 := by rw [e9]; (repeat (first | exact hb8 | exact Below.refl _ _ | refine Below.alloc ?_ (by first | omega | (simp; try omega)) _ | refine below_setRow ?_ (by omega) _ | refine Below.drew ?_))
        have q9 := hb9.size
        have r1_9 : IsRow W9 (w.heap.size) := by rw [e9]; simp [go_sem, r1_8, c1_8, n1_4, r4_8, c4_8, n4_1]
        have c1_9 := congrArg (fun x => blk x (w.heap.size)) e9; simp [go_sem, r1_8, c1_8, n1_4, r4_8, c4_8, n4_1] at c1_9
        have z1_9 := isRow_lt r1_9
        have r4_9 : IsRow W9 (W5.heap.size) := by rw [e9]; simp [go_sem, r1_8, c1_8, n1_4, r4_8, c4_8, n4_1]
        have c4_9 := congrArg (fun x => blk x (W5.heap.size)) e9; simp [go_sem, r1_8, c1_8, n1_4, r4_8, c4_8, n4_1] at c4_9
        have z4_9 := isRow_lt r4_9
        clear e9 r1_8 c1_8 z1_8 r4_8 c4_8 z4_8 hb8
        go_loopw [25] (fun s25 wr => ∃ i : Nat, i ≤ n ∧ s25 = .int .i64 i ∧ Below w.heap.size w wr ∧ (IsRow wr (w.heap.size) ∧ blk wr (w.heap.size) = blk W9 (w.heap.size)) ∧ (IsRow wr (W5.heap.size) ∧ blk wr (W5.heap.size) = row 64 (hdF p n (anF f) (k + 1))) ∧ (∀ a, 1 ≤ a → a < k → ordQ p n f a = false) ∧ (∀ b, b < i → ordR p n f k b = true)) (fun s25 _ => n - (intOf s25).toNat)
        case atStart => exact ⟨0, by omega, rfl, hb9, ⟨r1_9, rfl⟩, ⟨r4_9, c4_9.trans (by rw [HE.out])⟩, ⟨HX7.out, fun b hb => by omega⟩⟩
        case round =>
          obtain ⟨i, hle10, rfl, hb10, ⟨r1_10, c1_10⟩, ⟨r4_10, c4_10⟩, hx10⟩ := hrel
          obtain ⟨W10, rfl⟩ : ∃ W10 : World, W10 = wr := ⟨_, rfl⟩
          have q10 := hb10.size
          have HX10 := Lib.hid hx10; clear hx10
          have E1_10 := Lib.hid c1_9; replace c1_10 := c1_10.trans c1_9
          have z1_10 := isRow_lt r1_10
          have z4_10 := isRow_lt r4_10
          clear r1_9 c1_9 z1_9 r4_9 c4_9 z4_9 hb9
          by_cases hlt10 : i < n
          · skip
            have i0_10 : (0 : Int) ≤ (i : Int) := by omega
            have i8_10 : (i : Int) < 8 := by omega
            have k8_10 : i < 8 := by omega
            have m8_10 : i * 8 + 8 ≤ 64 := by omega
            have m64_10 : i * 64 + 64 ≤ 512 := by omega
            have l1_10 : 10 + i * 64 + 64 ≤ 522 := by omega
            cases h0 : ordR p n f k i
            · skip
              have h1 : segEq 0 8 (fun t => hdF p n (anF f) (k + 1) (i * 8 + t)) (ebas i) = false := h0
              have H := Lib.hid (upto_none HX10.out.1 (all_no (q := ordR p n f k) i n (by omega) h0))
              go_wp2
              refine wp_quiet_all (Below W10.heap.size W10) (by kernel_rfl) (by kernel_rfl) (Below.refl _ _).drew ?_
              iterate 4 (refine q_plain rfl ?_; apply Exists.intro; refine ⟨fun W hW => ?_, ?_⟩; (focus (obtain ⟨x1, y1⟩ := keepB hW z1_10 r1_10 c1_10; obtain ⟨x4, y4⟩ := keepB hW z4_10 r4_10 c4_10; go_simp; first | done | rfl)); simp only [Act.put, List.setIfInBounds_toArray, List.set_cons_zero, List.set_cons_succ])
              (refine q_plain rfl ?_; apply Exists.intro; refine ⟨fun W hW => ?_, ?_⟩; (focus (obtain ⟨x1, y1⟩ := keepB hW z1_10 r1_10 c1_10; obtain ⟨x4, y4⟩ := keepB hW z4_10 r4_10 c4_10; go_simp; (go_at_call 57; exact (basisAt i (by omega) _).mono fun e w2 ⟨he, hw2⟩ => ⟨he, hW.trans (hw2.mono hW.size)⟩))); simp only [Act.put, List.setIfInBounds_toArray, List.set_cons_zero, List.set_cons_succ])
              iterate 1 (refine q_plain rfl ?_; apply Exists.intro; refine ⟨fun W hW => ?_, ?_⟩; (focus (obtain ⟨x1, y1⟩ := keepB hW z1_10 r1_10 c1_10; obtain ⟨x4, y4⟩ := keepB hW z4_10 r4_10 c4_10; go_simp; first | done | rfl)); simp only [Act.put, List.setIfInBounds_toArray, List.set_cons_zero, List.set_cons_succ])
              refine wpQuiet_nil ?_
              intro W11 hw11
              obtain ⟨r1_11, c1_11⟩ := keepB hw11 z1_10 r1_10 c1_10
              have z1_11 := isRow_lt r1_11
              obtain ⟨r4_11, c4_11⟩ := keepB hw11 z4_10 r4_10 c4_10
              have z4_11 := isRow_lt r4_11
              have hb11 := hb10.trans (hw11.mono hb10.size)
              have q11 := hb11.size
              clear hw11 r1_10 c1_10 z1_10 r4_10 c4_10 z4_10 hb10
              go_wp2
              go_roundw
              case rel => exact ⟨k + 1, by omega, by omega, by go_num, (by (repeat (first | exact hb11 | exact Below.refl _ _ | refine Below.alloc ?_ (by first | omega | (simp; try omega)) _ | refine below_setRow ?_ (by omega) _ | refine Below.drew ?_))), ⟨by simp [go_sem, r1_11, c1_11, n1_4, r4_11, c4_11, n4_1], (by rw [E1_7.out]; first | exact c1_11 | (simp [go_sem, r1_11, c1_11, n1_4, r4_11, c4_11, n4_1]; done))⟩, ⟨by simp [go_sem, r1_11, c1_11, n1_4, r4_11, c4_11, n4_1], (by first | exact (c4_11).trans (rfl) | (simp [go_sem, r1_11, c1_11, n1_4, r4_11, c4_11, n4_1]; exact rfl))⟩, H.out⟩
              case measure => simp [intOf]; try omega
            · skip
              have h1 : segEq 0 8 (fun t => hdF p n (anF f) (k + 1) (i * 8 + t)) (ebas i) = true := h0
              have H := Lib.hid (upto_more (q := ordR p n f k) HX10.out.2 h0)
              have H2 := Lib.hid HX10.out.1
              go_wp2
              refine wp_quiet_all (Below W10.heap.size W10) (by kernel_rfl) (by kernel_rfl) (Below.refl _ _).drew ?_
              iterate 4 (refine q_plain rfl ?_; apply Exists.intro; refine ⟨fun W hW => ?_, ?_⟩; (focus (obtain ⟨x1, y1⟩ := keepB hW z1_10 r1_10 c1_10; obtain ⟨x4, y4⟩ := keepB hW z4_10 r4_10 c4_10; go_simp; first | done | rfl)); simp only [Act.put, List.setIfInBounds_toArray, List.set_cons_zero, List.set_cons_succ])
              (refine q_plain rfl ?_; apply Exists.intro; refine ⟨fun W hW => ?_, ?_⟩; (focus (obtain ⟨x1, y1⟩ := keepB hW z1_10 r1_10 c1_10; obtain ⟨x4, y4⟩ := keepB hW z4_10 r4_10 c4_10; go_simp; (go_at_call 57; exact (basisAt i (by omega) _).mono fun e w2 ⟨he, hw2⟩ => ⟨he, hW.trans (hw2.mono hW.size)⟩))); simp only [Act.put, List.setIfInBounds_toArray, List.set_cons_zero, List.set_cons_succ])
              iterate 1 (refine q_plain rfl ?_; apply Exists.intro; refine ⟨fun W hW => ?_, ?_⟩; (focus (obtain ⟨x1, y1⟩ := keepB hW z1_10 r1_10 c1_10; obtain ⟨x4, y4⟩ := keepB hW z4_10 r4_10 c4_10; go_simp; first | done | rfl)); simp only [Act.put, List.setIfInBounds_toArray, List.set_cons_zero, List.set_cons_succ])
              refine wpQuiet_nil ?_
              intro W12 hw12
              obtain ⟨r1_12, c1_12⟩ := keepB hw12 z1_10 r1_10 c1_10
              have z1_12 := isRow_lt r1_12
              obtain ⟨r4_12, c4_12⟩ := keepB hw12 z4_10 r4_10 c4_10
              have z4_12 := isRow_lt r4_12
              have hb12 := hb10.trans (hw12.mono hb10.size)
              have q12 := hb12.size
              clear hw12 r1_10 c1_10 z1_10 r4_10 c4_10 z4_10 hb10
              go_wp2
              go_roundw
              case rel => exact ⟨i + 1, by omega, by go_num, (by (repeat (first | exact hb12 | exact Below.refl _ _ | refine Below.alloc ?_ (by first | omega | (simp; try omega)) _ | refine below_setRow ?_ (by omega) _ | refine Below.drew ?_))), ⟨by simp [go_sem, r1_12, c1_12, n1_4, r4_12, c4_12, n4_1], (by rw [E1_10.out]; first | exact c1_12 | (simp [go_sem, r1_12, c1_12, n1_4, r4_12, c4_12, n4_1]; done))⟩, ⟨by simp [go_sem, r1_12, c1_12, n1_4, r4_12, c4_12, n4_1], (by first | exact (c4_12).trans (rfl) | (simp [go_sem, r1_12, c1_12, n1_4, r4_12, c4_12, n4_1]; exact rfl))⟩, ⟨H2.out, H.out⟩⟩
              case measure => simp [intOf]; try omega
          · skip
            obtain rfl : n = i := by omega
            have H := Lib.hid (oo_at Hc.out (ord_at (by omega) (by omega) HX10.out.1 (all_yes (q := ordR p n f k) n HX10.out.2)) (by omega))
            go_wp2_with fail
            (try rw [Exit.noGoto_ret])
            go_ret2
            exact ⟨ret_ii H.out.1.symm H.out.2.symm, (by (repeat (first | exact hb10 | exact Below.refl _ _ | refine Below.alloc ?_ (by first | omega | (simp; try omega)) _ | refine below_setRow ?_ (by omega) _ | refine Below.drew ?_)))⟩
      · skip
        obtain rfl : k = 61 := by omega
        have H := Lib.hid (oo_none Hc.out (ord_none HX7.out))
        go_wp2_with fail
        (try rw [Exit.noGoto_ret])
        go_ret2
        exact ⟨ret_ii H.out.1.symm H.out.2.symm, (by (repeat (first | exact hb7 | exact Below.refl _ _ | refine Below.alloc ?_ (by first | omega | (simp; try omega)) _ | refine below_setRow ?_ (by omega) _ | refine Below.drew ?_)))⟩

set_option maxRecDepth 100000 in
set_option maxHeartbeats 2000000 in
theorem lawOrderOfAntipode (fp fn : Int) (f : Nat → Int) (w : World) (_wfp : (Lit.int .i64 fp).wf = true) (_wfn : (Lit.int .i64 fn).wf = true) (hf : Bytes 1104 f) :
    Calls Try.prog 10 #[.agg (hop fp fn f)] w fun e w' => e = .returned (.bool true) ∧ Below w.heap.size w w' := by
  have Hf := Lib.hid hf; clear hf
  go_enter Try.func10, Try.ntmps10
  go_wp2_with fail
  refine atomC fun W1 e1 => ?_
  have hb1 : Below w.heap.size w W1 := by rw [e1]; (repeat (first | exact Below.refl _ _ | refine Below.alloc ?_ (by first | omega | (simp; try omega)) _ | refine below_setRow ?_ (by omega) _ | refine Below.drew ?_))
  have q1 := hb1.size
  have r1_1 : IsRow W1 (w.heap.size) := by rw [e1]; simp [go_sem]
  have c1_1 := congrArg (fun x => blk x (w.heap.size)) e1; simp [go_sem] at c1_1
  have z1_1 := isRow_lt r1_1
  clear e1
  refine (toHopf_any _ _ _ _).mono ?_; rintro _ W2 ⟨rfl, hw2⟩
  obtain ⟨r1_2, c1_2⟩ := keepB hw2 z1_1 r1_1 c1_1
  have z1_2 := isRow_lt r1_2
  have hb2 := hb1.trans (hw2.mono hb1.size)
  have q2 := hb2.size
  clear hw2 r1_1 c1_1 z1_1 hb1
  go_wp2_with fail
  refine (specOrder_any _ _ _ _ Hf.out).mono ?_; rintro _ W3 ⟨rfl, hw3⟩
  obtain ⟨r1_3, c1_3⟩ := keepB hw3 z1_2 r1_2 c1_2
  have z1_3 := isRow_lt r1_3
  have hb3 := hb2.trans (hw3.mono hb2.size)
  have q3 := hb3.size
  clear hw3 r1_2 c1_2 z1_2 hb2
  go_wp2_with fail
  refine (toHopf_any _ _ _ _).mono ?_; rintro _ W4 ⟨rfl, hw4⟩
  have hb4 := hb3.trans (hw4.mono hb3.size)
  have q4 := hb4.size
  clear hw4 hb3
  go_wp2_with fail
  refine (order_any _ _ _ _ Hf.out).mono ?_; rintro _ W5 ⟨rfl, hw5⟩
  have hb5 := hb4.trans (hw5.mono hb4.size)
  have q5 := hb5.size
  clear hw5 hb4
  go_wp2_with fail
  go_ret
  exact ⟨rfl, (by (repeat (first | exact hb5 | exact Below.refl _ _ | refine Below.alloc ?_ (by first | omega | (simp; try omega)) _ | refine below_setRow ?_ (by omega) _ | refine Below.drew ?_)))⟩

end Go.Proofs.Ytnjjcimpcnennaa
