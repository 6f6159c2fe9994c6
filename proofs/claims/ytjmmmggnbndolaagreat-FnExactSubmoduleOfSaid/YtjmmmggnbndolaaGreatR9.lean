/- Orders of antipodes. -/
import Derived.Test.YtjmmmggnbndolaaGreatR8
import Derived.WalkMore
namespace Go.Proofs.YtjmmmggnbndolaaGreat
open Go.RowKit
set_option linter.unusedSimpArgs false
set_option linter.unusedVariables false
attribute [local irreducible] wpQuiet wpQE

/-- the linear map that applies G, and then F -/
def compF (p : Int) (F G : Nat → Int) : Nat → Int := fun t => appF p 8 (fun x y => F (x * 8 + y)) (fun y => G (t / 8 * 8 + y)) (t % 8)
def compK (p : Int) (F G : Nat → Int) (i : Nat) : Nat → Int := fun t => if t / 8 < i then compF p F G t else 0
theorem comp_zero (p : Int) (F G : Nat → Int) : row 64 zf = row 64 (compK p F G 0) := row_congr fun t _ => by unfold compK zf; rw [if_neg (by omega)]
theorem comp_step (p : Int) (F G : Nat → Int) (i : Nat) (hi : i < 8) : lay (row 64 (compK p F G i)) (i * 8) (row 8 (appF p 8 (fun x y => F (x * 8 + y)) fun t => G (i * 8 + t))) = row 64 (compK p F G (i + 1)) := by
  rw [lay_row _ _ _ _ _ (by omega)]
  refine row_congr fun t _ => ?_
  by_cases h : i * 8 ≤ t ∧ t < i * 8 + 8
  · rw [if_pos h]
    unfold compK compF
    rw [if_pos (by omega), show t / 8 = i by omega, show t - i * 8 = t % 8 by omega]
  · rw [if_neg h]
    unfold compK
    by_cases h2 : t / 8 < i
    · rw [if_pos h2, if_pos (by omega)]
    · rw [if_neg h2, if_neg (by omega)]
theorem comp_end (p : Int) (F G : Nat → Int) : row 64 (compK p F G 8) = row 64 (compF p F G) := row_congr fun t ht => by unfold compK; rw [if_pos (by omega)]
set_option maxRecDepth 100000 in
set_option maxHeartbeats 1000000 in
theorem composeLinear_any (p : Int) (F G : Nat → Int) (w : World) (hp : 0 < p) (hp' : p ≤ 255) (hF : Bytes 64 F) (hG : Bytes 64 G) :
    Calls Tryz.prog 154 #[.int .i64 p, .agg (row 64 F), .agg (row 64 G)] w fun e w' => e = .returned (.agg (row 64 (compF p F G))) ∧ Below w.heap.size w w' := by
 have HF := Lib.hid hF; clear hF
 have HG := Lib.hid hG; clear hG
 go_enter Tryz.func154, Tryz.ntmps154
 go_wp2
 refine atomW fun W1 e1 => ?_
 have hb1 : Below w.heap.size w W1 := by rw [e1]; exact bt
 have q1 := hb1.size
 have R1 : IsRow W1 (w.heap.size) ∧ IsRow W1 (w.heap.size + 2) ∧ IsRow W1 (w.heap.size + 3) := by rw [e1]; simp [go_sem]
 obtain ⟨r4_1, r6_1, r7_1⟩ := R1
 have C1 := (⟨congrArg (blk · (w.heap.size)) e1, congrArg (blk · (w.heap.size + 2)) e1, congrArg (blk · (w.heap.size + 3)) e1⟩ : _ ∧ _ ∧ _); simp [go_sem] at C1
 obtain ⟨c4_1, c6_1, c7_1⟩ := C1
 have z4_1 := isRow_lt r4_1; have z6_1 := isRow_lt r6_1; have z7_1 := isRow_lt r7_1
 clear e1
 go_loopw [11] (fun s11 wr => ∃ i : Nat, i ≤ 8 ∧ s11 = .int .i64 i ∧ Below w.heap.size w wr ∧ (IsRow wr (w.heap.size) ∧ blk wr (w.heap.size) = blk W1 (w.heap.size)) ∧ (IsRow wr (w.heap.size + 2) ∧ blk wr (w.heap.size + 2) = blk W1 (w.heap.size + 2)) ∧ (IsRow wr (w.heap.size + 3) ∧ blk wr (w.heap.size + 3) = row 64 (compK p F G i))) (fun s11 _ => 8 - (intOf s11).toNat)
 case atStart => exact ⟨0, by omega, rfl, hb1, ⟨r4_1, rfl⟩, ⟨r6_1, rfl⟩, ⟨r7_1, c7_1.trans (comp_zero p F G)⟩⟩
 case round =>
  obtain ⟨i, hle2, rfl, hb2, ⟨r4_2, c4_2⟩, ⟨r6_2, c6_2⟩, ⟨r7_2, c7_2⟩⟩ := hrel
  obtain ⟨W2, rfl⟩ : ∃ W2 : World, W2 = wr := ⟨_, rfl⟩
  have q2 := hb2.size
  have E4_2 := Lib.hid c4_1; replace c4_2 := c4_2.trans c4_1
  have z4_2 := isRow_lt r4_2
  have E6_2 := Lib.hid c6_1; replace c6_2 := c6_2.trans c6_1
  have z6_2 := isRow_lt r6_2
  have z7_2 := isRow_lt r7_2
  clear r4_1 c4_1 z4_1 r6_1 c6_1 z6_1 r7_1 c7_1 z7_1 hb1
  by_cases hlt2 : i < 8
  ·
   have i0_2 : (0 : Int) ≤ (i : Int) := by omega
   have i8_2 : (i : Int) < 8 := by omega
   have k8_2 : i < 8 := by omega
   have m8_2 : i * 8 + 8 ≤ 64 := by omega
   have m64_2 : i * 64 + 64 ≤ 512 := by omega
   have l1_2 : 10 + i * 64 + 64 ≤ 522 := by omega
   have HV : Hid (Bytes 8 fun t => G (i * 8 + t)) := Lib.hid (part_bytes HG.out i (by omega))
   go_wp2_with fail
   have nw4_W2_0 : (w.heap.size) ≠ W2.heap.size := by omega
   have nw6_W2_0 : (w.heap.size + 2) ≠ W2.heap.size := by omega
   have nw7_W2_0 : (w.heap.size + 3) ≠ W2.heap.size := by omega
   refine atomC fun W3 e3 => ?_
   have hb3 : Below w.heap.size w W3 := by rw [e3]; exact bt
   have q3 := hb3.size
   have R3 : IsRow W3 (w.heap.size) ∧ IsRow W3 (w.heap.size + 2) ∧ IsRow W3 (w.heap.size + 3) := by rw [e3]; simp [go_sem, r4_2, c4_2, r6_2, c6_2, r7_2, c7_2, nw4_W2_0, nw6_W2_0, nw7_W2_0]
   obtain ⟨r4_3, r6_3, r7_3⟩ := R3
   have C3 := (⟨congrArg (blk · (w.heap.size)) e3, congrArg (blk · (w.heap.size + 2)) e3, congrArg (blk · (w.heap.size + 3)) e3⟩ : _ ∧ _ ∧ _); simp [go_sem, r4_2, c4_2, r6_2, c6_2, r7_2, c7_2, nw4_W2_0, nw6_W2_0, nw7_W2_0] at C3
   obtain ⟨c4_3, c6_3, c7_3⟩ := C3
   have z4_3 := isRow_lt r4_3; have z6_3 := isRow_lt r6_3; have z7_3 := isRow_lt r7_3
   clear e3 nw4_W2_0 nw6_W2_0 nw7_W2_0 r4_2 c4_2 z4_2 r6_2 c6_2 z6_2 r7_2 c7_2 z7_2 hb2
   refine (applyLinear_any p F _ _ hp hp' HF.out HV.out).mono ?_; rintro _ W4 ⟨rfl, hw4⟩
   obtain ⟨r4_4, c4_4, z4_4⟩ := keepZ hw4 z4_3 r4_3 c4_3
   obtain ⟨r6_4, c6_4, z6_4⟩ := keepZ hw4 z6_3 r6_3 c6_3
   obtain ⟨r7_4, c7_4, z7_4⟩ := keepZ hw4 z7_3 r7_3 c7_3
   obtain ⟨hb4, q4⟩ := bN hb3 hw4
   clear hw4 r4_3 c4_3 z4_3 r6_3 c6_3 z6_3 r7_3 c7_3 z7_3 hb3
   go_wp2
   go_roundw
   case rel => exact ⟨i + 1, by omega, by go_num, bt, ⟨by simp [go_sem, r4_4, c4_4, r6_4, c6_4, r7_4, c7_4], (by rw [E4_2.out]; first | exact c4_4 | (simp [go_sem, r4_4, c4_4, r6_4, c6_4, r7_4, c7_4]; done))⟩, ⟨by simp [go_sem, r4_4, c4_4, r6_4, c6_4, r7_4, c7_4], (by rw [E6_2.out]; first | exact c6_4 | (simp [go_sem, r4_4, c4_4, r6_4, c6_4, r7_4, c7_4]; done))⟩, ⟨by simp [go_sem, r4_4, c4_4, r6_4, c6_4, r7_4, c7_4], (by first | (rw [blk_setRow _ _ _ _ r7_4, if_pos rfl]; exact comp_step p F G i (by omega)) | exact (c7_4).trans (comp_step p F G i (by omega)) | (simp [go_sem, r4_4, c4_4, r6_4, c6_4, r7_4, c7_4]; exact comp_step p F G i (by omega)))⟩⟩
   case measure => simp [intOf]; try omega
  ·
   obtain rfl : i = 8 := by omega
   rw [comp_end p F G] at c7_2
   go_wp2_with fail
   refine bodyPost_ret (result_cell rfl aggLin _ _ (row 64 (compF p F G)) _ rfl ?_ ?_) rfl ⟨rfl, ?_⟩
   · simp [go_sem, r4_2, c4_2, r6_2, c6_2, r7_2, c7_2]
   · simp [go_sem, r4_2, c4_2, r6_2, c6_2, r7_2, c7_2]
   · exact bt

end Go.Proofs.YtjmmmggnbndolaaGreat
