/- Modules: actions as linear maps, and the checks of modules by both programs. -/
import Derived.Test.YtjmmmggnbndolaaGreatM0
namespace Go.Proofs.YtjmmmggnbndolaaGreat
open Go.RowKit
set_option linter.unusedSimpArgs false
set_option linter.unusedVariables false
attribute [local irreducible] wpQuiet wpQE

theorem act_bytes {F : Nat → Int} (h : Bytes 512 F) {i j : Nat} (hi : i < 8) (hj : j < 8) : Bytes 8 (act F i j) := fun t ht => h _ (by omega)
theorem rowOf_bytes {F : Nat → Int} (h : Bytes 512 F) {i : Nat} (hi : i < 8) : Bytes 64 (rowOf 64 F i) := fun t ht => h _ (by omega)
/-- what leads v(j) to a v(j) -/
def actT (p : Int) (d : Nat) (F a : Nat → Int) : Nat → Int := fun u => if u / 8 < d then sumTo (fun i => a i * act F i (u / 8) (u % 8)) 8 % p else 0
/-- the same, of the first i of a, and for v(0) .. v(j - 1) of i too -/
def actK (p : Int) (d : Nat) (F a : Nat → Int) (i j : Nat) : Nat → Int := fun u => if u / 8 < d then sumTo (fun i => a i * act F i (u / 8) (u % 8)) (if u / 8 < j then i + 1 else i) % p else 0
theorem actK_range {p : Int} (hp : 0 < p) (d : Nat) (F a : Nat → Int) (i j t : Nat) : 0 ≤ actK p d F a i j t ∧ actK p d F a i j t < p := by
  unfold actK
  split
  · exact mod_range _ _ hp
  · omega
theorem actT_range {p : Int} (hp : 0 < p) (d : Nat) (F a : Nat → Int) (t : Nat) : 0 ≤ actT p d F a t ∧ actT p d F a t < p := by
  unfold actT
  split
  · exact mod_range _ _ hp
  · omega
theorem actT_bytes {p : Int} (hp : 0 < p) (hp' : p ≤ 255) (d : Nat) (F a : Nat → Int) : Bytes 64 (actT p d F a) := fun t _ => by have := actT_range hp d F a t; omega
theorem act_zero (p : Int) (d : Nat) (F a : Nat → Int) : row 64 zf = row 64 (actK p d F a 0 0) := row_congr fun t _ => by
  unfold actK zf
  rw [if_neg (show ¬ t / 8 < 0 by omega)]
  simp [sumTo]
theorem act_step {p : Int} {d : Nat} {F a : Nat → Int} {i j : Nat} (hj : j < d) : row 64 (addm p (j * 8) 8 (a i) (actK p d F a i j) (act F i j)) = row 64 (actK p d F a i (j + 1)) := row_congr fun u _ => by
  unfold addm
  by_cases h : j * 8 ≤ u ∧ u < j * 8 + 8
  · rw [if_pos h]
    unfold actK
    rw [show u / 8 = j by omega, show u - j * 8 = u % 8 by omega, if_pos hj, if_pos hj, if_neg (by omega), if_pos (by omega), Int.emod_add_emod, sumTo]
  · rw [if_neg h]
    unfold actK
    by_cases h2 : u / 8 < j
    · rw [if_pos h2, if_pos (show u / 8 < j + 1 by omega)]
    · rw [if_neg h2, if_neg (show ¬ u / 8 < j + 1 by omega)]
theorem act_row (p : Int) (d : Nat) (F a : Nat → Int) (i : Nat) : row 64 (actK p d F a i d) = row 64 (actK p d F a (i + 1) 0) := row_congr fun u _ => by
  unfold actK
  by_cases h : u / 8 < d
  · rw [if_pos h, if_pos h, if_pos h, if_neg (by omega)]
  · rw [if_neg h, if_neg h]
theorem act_end (p : Int) (d : Nat) (F a : Nat → Int) : row 64 (actK p d F a 8 0) = row 64 (actT p d F a) := row_congr fun u _ => by
  unfold actK actT
  rw [if_neg (show ¬ u / 8 < 0 by omega)]

set_option maxRecDepth 100000 in
set_option maxHeartbeats 1000000 in
theorem mdim_any (d : Int) (F : Nat → Int) (w : World)  :
    Calls Tryz.prog 195 #[.agg (mdl d F)] w fun e w' => e = .returned (.int .i64 d) ∧ Below w.heap.size w w' := by
 go_enter Tryz.func195, Tryz.ntmps195
 go_wp2_with fail
 go_ret
 exact ⟨rfl, bt⟩

set_option maxRecDepth 100000 in
set_option maxHeartbeats 1000000 in
theorem mimage_any (d : Int) (F : Nat → Int) (i j : Nat) (w : World) (hi : i < 8) (hj : j < 8) :
    Calls Tryz.prog 196 #[.agg (mdl d F), .int .i64 i, .int .i64 j] w fun e w' => e = .returned (.agg (row 8 (act F i j))) ∧ Below w.heap.size w w' := by
 have e1 := mdl_act8 d F i j hi hj
 have i8 : (i : Int) < 8 := by omega
 have j8 : (j : Int) < 8 := by omega
 have l1 : 1 + i * 64 + 64 ≤ 513 := by omega
 have l2 : 1 + i * 64 + j * 8 + 8 ≤ 513 := by omega
 go_enter Tryz.func196, Tryz.ntmps196
 go_wp2_with fail
 refine bodyPost_ret (result_cell rfl aggVec _ _ (row 8 (act F i j)) _ rfl ?_ ?_) rfl ⟨rfl, ?_⟩
 · simp [go_sem]
 · simp [go_sem]
 · exact bt

set_option maxRecDepth 100000 in
set_option maxHeartbeats 1000000 in
theorem actTable_any (p : Int) (d : Nat) (F a : Nat → Int) (w : World) (hp : 0 < p) (hp' : p ≤ 255) (hd : d ≤ 8) (hF : Bytes 512 F) (ha : Bytes 8 a) :
    Calls Tryz.prog 70 #[.int .i64 p, .iface 41 (.agg (mdl d F)), .agg (row 8 a)] w fun e w' => e = .returned (.agg (row 64 (actT p d F a))) ∧ Below w.heap.size w w' := by
 have HF := Lib.hid hF; clear hF
 have Ha := Lib.hid ha; clear ha
 go_enter Tryz.func70, Tryz.ntmps70
 go_wp2
 refine atomW fun W1 e1 => ?_
 have hb1 : Below w.heap.size w W1 := by rw [e1]; exact bt
 have q1 := hb1.size
 have R1 : IsRow W1 (w.heap.size + 1) ∧ IsRow W1 (w.heap.size + 2) := by rw [e1]; simp [go_sem]
 obtain ⟨r6_1, r7_1⟩ := R1
 have C1 := (⟨congrArg (blk · (w.heap.size + 1)) e1, congrArg (blk · (w.heap.size + 2)) e1⟩ : _ ∧ _); simp [go_sem] at C1
 obtain ⟨c6_1, c7_1⟩ := C1
 have z6_1 := isRow_lt r6_1; have z7_1 := isRow_lt r7_1
 clear e1
 go_loopw [13] (fun s13 wr => ∃ i : Nat, i ≤ 8 ∧ s13 = .int .i64 i ∧ Below w.heap.size w wr ∧ (IsRow wr (w.heap.size + 1) ∧ blk wr (w.heap.size + 1) = blk W1 (w.heap.size + 1)) ∧ (IsRow wr (w.heap.size + 2) ∧ blk wr (w.heap.size + 2) = row 64 (actK p d F a i 0))) (fun s13 _ => 8 - (intOf s13).toNat)
 case atStart => exact ⟨0, by omega, rfl, hb1, ⟨r6_1, rfl⟩, ⟨r7_1, c7_1.trans (act_zero p d F a)⟩⟩
 case round =>
  obtain ⟨i, hle2, rfl, hb2, ⟨r6_2, c6_2⟩, ⟨r7_2, c7_2⟩⟩ := hrel
  obtain ⟨W2, rfl⟩ : ∃ W2 : World, W2 = wr := ⟨_, rfl⟩
  have q2 := hb2.size
  have E6_2 := Lib.hid c6_1; replace c6_2 := c6_2.trans c6_1
  have z6_2 := isRow_lt r6_2
  have z7_2 := isRow_lt r7_2
  clear r6_1 c6_1 z6_1 r7_1 c7_1 z7_1 hb1
  by_cases hlt2 : i < 8
  ·
   have i0_2 : (0 : Int) ≤ (i : Int) := by omega
   have i8_2 : (i : Int) < 8 := by omega
   have k8_2 : i < 8 := by omega
   have m8_2 : i * 8 + 8 ≤ 64 := by omega
   have m64_2 : i * 64 + 64 ≤ 512 := by omega
   have l1_2 : 10 + i * 64 + 64 ≤ 522 := by omega
   have b1 := (Ha.out i (by omega)).1
   have b2 := (Ha.out i (by omega)).2
   go_wp2_with fail
   refine (mdim_any d F _).mono ?_; rintro _ W3 ⟨rfl, hw3⟩
   obtain ⟨r6_3, c6_3, z6_3⟩ := keepZ hw3 z6_2 r6_2 c6_2
   obtain ⟨r7_3, c7_3, z7_3⟩ := keepZ hw3 z7_2 r7_2 c7_2
   obtain ⟨hb3, q3⟩ := bN hb2 hw3
   clear hw3 r6_2 c6_2 z6_2 r7_2 c7_2 z7_2 hb2
   go_wp2
   go_loopw [19] (fun s19 wr => ∃ j : Nat, j ≤ d ∧ s19 = .int .i64 j ∧ Below w.heap.size w wr ∧ (IsRow wr (w.heap.size + 1) ∧ blk wr (w.heap.size + 1) = blk W3 (w.heap.size + 1)) ∧ (IsRow wr (w.heap.size + 2) ∧ blk wr (w.heap.size + 2) = row 64 (actK p d F a i j))) (fun s19 _ => d - (intOf s19).toNat)
   case atStart => exact ⟨0, by omega, rfl, hb3, ⟨r6_3, rfl⟩, ⟨r7_3, c7_3⟩⟩
   case round =>
    obtain ⟨j, hle4, rfl, hb4, ⟨r6_4, c6_4⟩, ⟨r7_4, c7_4⟩⟩ := hrel
    obtain ⟨W4, rfl⟩ : ∃ W4 : World, W4 = wr := ⟨_, rfl⟩
    have q4 := hb4.size
    have E6_4 := Lib.hid c6_3; replace c6_4 := c6_4.trans c6_3
    have z6_4 := isRow_lt r6_4
    have z7_4 := isRow_lt r7_4
    clear r6_3 c6_3 z6_3 r7_3 c7_3 z7_3 hb3
    by_cases hlt4 : j < d
    ·
     have i0_4 : (0 : Int) ≤ (j : Int) := by omega
     have i8_4 : (j : Int) < 8 := by omega
     have k8_4 : j < 8 := by omega
     have m8_4 : j * 8 + 8 ≤ 64 := by omega
     have m64_4 : j * 64 + 64 ≤ 512 := by omega
     have l1_4 : 10 + j * 64 + 64 ≤ 522 := by omega
     have l2_4i : 10 + i * 64 + j * 8 + 8 ≤ 522 := by omega
     have l3_4i : 10 + j * 64 + i * 8 + 8 ≤ 522 := by omega
     have l4_4i : i * 64 + j * 8 + 8 ≤ 512 := by omega
     have l5_4i : j * 64 + i * 8 + 8 ≤ 512 := by omega
     have l6_4i : i * 8 + j < 64 := by omega
     have l7_4i : j * 8 + i < 64 := by omega
     have HA := Lib.hid (act_bytes HF.out (i := i) (j := j) (by omega) (by omega))
     go_wp2_with fail
     refine (mimage_any d F i j _ (by omega) (by omega)).mono ?_; rintro _ W5 ⟨rfl, hw5⟩
     obtain ⟨r6_5, c6_5, z6_5⟩ := keepZ hw5 z6_4 r6_4 c6_4
     obtain ⟨r7_5, c7_5, z7_5⟩ := keepZ hw5 z7_4 r7_4 c7_4
     obtain ⟨hb5, q5⟩ := bN hb4 hw5
     clear hw5 r6_4 c6_4 z6_4 r7_4 c7_4 z7_4 hb4
     go_wp2
     have nw6_W5_0 : (w.heap.size + 1) ≠ W5.heap.size := by omega
     have nw7_W5_0 : (w.heap.size + 2) ≠ W5.heap.size := by omega
     refine atomW fun W6 e6 => ?_
     have hb6 : Below w.heap.size w W6 := by rw [e6]; exact bt
     have q6 := hb6.size
     have R6 : IsRow W6 (w.heap.size + 1) ∧ IsRow W6 (w.heap.size + 2) ∧ IsRow W6 (W5.heap.size) := by rw [e6]; simp [go_sem, r6_5, c6_5, r7_5, c7_5, nw6_W5_0, nw7_W5_0]
     obtain ⟨r6_6, r7_6, r11_6⟩ := R6
     have C6 := (⟨congrArg (blk · (w.heap.size + 1)) e6, congrArg (blk · (w.heap.size + 2)) e6, congrArg (blk · (W5.heap.size)) e6⟩ : _ ∧ _ ∧ _); simp [go_sem, r6_5, c6_5, r7_5, c7_5, nw6_W5_0, nw7_W5_0] at C6
     obtain ⟨c6_6, c7_6, c11_6⟩ := C6
     have z6_6 := isRow_lt r6_6; have z7_6 := isRow_lt r7_6; have z11_6 := isRow_lt r11_6
     have n6_11 : (w.heap.size + 1) ≠ (W5.heap.size) := by omega
     have n7_11 : (w.heap.size + 2) ≠ (W5.heap.size) := by omega
     have n11_6 : (W5.heap.size) ≠ (w.heap.size + 1) := by omega
     have n11_7 : (W5.heap.size) ≠ (w.heap.size + 2) := by omega
     clear e6 nw6_W5_0 nw7_W5_0 r6_5 c6_5 z6_5 r7_5 c7_5 z7_5 hb5
     refine wp_quiet_tail 6 (Below W6.heap.size W6) (by kernel_rfl) (by kernel_rfl) (Below.refl _ _).drew ?_
     simp only [List.take_succ_cons, List.take_zero, List.drop_succ_cons, List.drop_zero]
     iterate 6 (refine q_plain rfl ?_; apply Exists.intro; refine ⟨fun W hW => ?_, ?_⟩; (focus (obtain ⟨x6, y6⟩ := keepB hW z6_6 r6_6 c6_6; obtain ⟨x7, y7⟩ := keepB hW z7_6 r7_6 c7_6; obtain ⟨x11, y11⟩ := keepB hW z11_6 r11_6 c11_6; go_simp; first | done | rfl)); simp only [Act.put, List.setIfInBounds_toArray, List.set_cons_zero, List.set_cons_succ])
     refine wpQuiet_nil ?_
     intro W7 hw7
     obtain ⟨r6_7, c6_7, z6_7⟩ := keepZ hw7 z6_6 r6_6 c6_6
     obtain ⟨r7_7, c7_7, z7_7⟩ := keepZ hw7 z7_6 r7_6 c7_6
     obtain ⟨r11_7, c11_7, z11_7⟩ := keepZ hw7 z11_6 r11_6 c11_6
     obtain ⟨hb7, q7⟩ := bN hb6 hw7
     clear hw7 r6_6 c6_6 z6_6 r7_6 c7_6 z7_6 r11_6 c11_6 z11_6 hb6
     go_wp2_with fail
     refine (addMultiple_any p _ _ (j * 8) 64 8 _ _ _ 0 (actK p d F a i j) (act F i j) _ hp hp' b1 b2 r7_7 c7_7 (by omega) (by omega) (fun t _ _ => actK_range hp _ _ _ _ _ t) (byte_at (N := 8) (off' := 0) c11_7 (by omega) (fun t _ => by rw [Nat.zero_add]) HA.out) (by omega)).mono ?_; rintro _ _ ⟨rfl, rfl⟩
     go_wp2
     go_roundw
     case rel => exact ⟨j + 1, by omega, by go_num, bt, ⟨by simp [go_sem, r6_7, c6_7, n6_11, r7_7, c7_7, n7_11, r11_7, c11_7, n11_6, n11_7], (by rw [E6_4.out]; first | exact c6_7 | (simp [go_sem, r6_7, c6_7, n6_11, r7_7, c7_7, n7_11, r11_7, c11_7, n11_6, n11_7]; done))⟩, ⟨by simp [go_sem, r6_7, c6_7, n6_11, r7_7, c7_7, n7_11, r11_7, c11_7, n11_6, n11_7], (by first | (rw [blk_setRow _ _ _ _ r7_7, if_pos rfl]; exact act_step (by omega)) | exact (c7_7).trans (act_step (by omega)) | (simp [go_sem, r6_7, c6_7, n6_11, r7_7, c7_7, n7_11, r11_7, c11_7, n11_6, n11_7]; exact act_step (by omega)))⟩⟩
     case measure => simp [intOf]; try omega
    ·
     obtain rfl : d = j := by omega
     go_wp2
     go_roundw
     case rel => exact ⟨i + 1, by omega, by go_num, bt, ⟨by simp [go_sem, r6_4, c6_4, r7_4, c7_4], (by rw [E6_2.out]; first | exact c6_4 | (simp [go_sem, r6_4, c6_4, r7_4, c7_4]; done))⟩, ⟨by simp [go_sem, r6_4, c6_4, r7_4, c7_4], (by first | exact (c7_4).trans (act_row p _ F a i) | (simp [go_sem, r6_4, c6_4, r7_4, c7_4]; exact act_row p _ F a i))⟩⟩
     case measure => simp [intOf]; try omega
  ·
   obtain rfl : i = 8 := by omega
   rw [act_end] at c7_2
   go_wp2_with fail
   refine bodyPost_ret (result_cell rfl aggLin _ _ (row 64 (actT p d F a)) _ rfl ?_ ?_) rfl ⟨rfl, ?_⟩
   · simp [go_sem, r6_2, c6_2, r7_2, c7_2]
   · simp [go_sem, r6_2, c6_2, r7_2, c7_2]
   · exact bt

theorem times_bytes {p : Int} (hp : 0 < p) (hp' : p ≤ 255) (n : Nat) (m : Nat → Nat → Nat → Int) (v w : Nat → Int) (i : Nat) : Bytes 8 (timesF p n m v w i) := bytes_mod hp hp' _
theorem timesz (p : Int) (n : Nat) (m : Nat → Nat → Nat → Int) (v w : Nat → Int) : row 8 zf = row 8 (timesF p n m v w 0) := row_congr fun i _ => by simp [timesF, sumTo, zf]

set_option maxRecDepth 100000 in
set_option maxHeartbeats 1000000 in
theorem l06Act_any (p : Int) (n d : Nat) (f F a v : Nat → Int) (w : World) (hp : 0 < p) (hp' : p ≤ 255) (hd : d ≤ 8) (hF : Bytes 512 F) (hn : n ≤ 8) (ha : Bytes 8 a) (hv : Bytes 8 v) :
    Calls Tryz.prog 125 #[.agg (hop p n f), .agg (mdl d F), .agg (row 8 a), .agg (row 8 v)] w fun e w' => e = .returned (.agg (row 8 (timesF p d (act F) a v n))) ∧ Below w.heap.size w w' := by
 have HF := Lib.hid hF; clear hF
 have Ha := Lib.hid ha; clear ha
 have Hv := Lib.hid hv; clear hv
 go_enter Tryz.func125, Tryz.ntmps125
 go_wp2
 refine atomW fun W1 e1 => ?_
 have hb1 : Below w.heap.size w W1 := by rw [e1]; exact bt
 have q1 := hb1.size
 have R1 : IsRow W1 (w.heap.size) ∧ IsRow W1 (w.heap.size + 1) ∧ IsRow W1 (w.heap.size + 2) ∧ IsRow W1 (w.heap.size + 3) ∧ IsRow W1 (w.heap.size + 4) ∧ IsRow W1 (w.heap.size + 5) := by rw [e1]; simp [go_sem]
 obtain ⟨r4_1, r5_1, r6_1, r7_1, r8_1, r9_1⟩ := R1
 have C1 := (⟨congrArg (blk · (w.heap.size)) e1, congrArg (blk · (w.heap.size + 1)) e1, congrArg (blk · (w.heap.size + 2)) e1, congrArg (blk · (w.heap.size + 3)) e1, congrArg (blk · (w.heap.size + 4)) e1, congrArg (blk · (w.heap.size + 5)) e1⟩ : _ ∧ _ ∧ _ ∧ _ ∧ _ ∧ _); simp [go_sem] at C1
 obtain ⟨c4_1, c5_1, c6_1, c7_1, c8_1, c9_1⟩ := C1
 have z4_1 := isRow_lt r4_1; have z5_1 := isRow_lt r5_1; have z6_1 := isRow_lt r6_1; have z7_1 := isRow_lt r7_1; have z8_1 := isRow_lt r8_1; have z9_1 := isRow_lt r9_1
 clear e1
 go_loopw [10] (fun s10 wr => ∃ i : Nat, i ≤ n ∧ s10 = .int .i64 i ∧ Below w.heap.size w wr ∧ (IsRow wr (w.heap.size) ∧ blk wr (w.heap.size) = blk W1 (w.heap.size)) ∧ (IsRow wr (w.heap.size + 1) ∧ blk wr (w.heap.size + 1) = blk W1 (w.heap.size + 1)) ∧ (IsRow wr (w.heap.size + 2) ∧ blk wr (w.heap.size + 2) = blk W1 (w.heap.size + 2)) ∧ (IsRow wr (w.heap.size + 3) ∧ blk wr (w.heap.size + 3) = blk W1 (w.heap.size + 3)) ∧ (IsRow wr (w.heap.size + 4) ∧ blk wr (w.heap.size + 4) = blk W1 (w.heap.size + 4)) ∧ (IsRow wr (w.heap.size + 5) ∧ blk wr (w.heap.size + 5) = row 8 (timesF p d (act F) a v i))) (fun s10 _ => n - (intOf s10).toNat)
 case atStart => exact ⟨0, by omega, rfl, hb1, ⟨r4_1, rfl⟩, ⟨r5_1, rfl⟩, ⟨r6_1, rfl⟩, ⟨r7_1, rfl⟩, ⟨r8_1, rfl⟩, ⟨r9_1, c9_1.trans (timesz p d _ a v)⟩⟩
 case round =>
  obtain ⟨i, hle2, rfl, hb2, ⟨r4_2, c4_2⟩, ⟨r5_2, c5_2⟩, ⟨r6_2, c6_2⟩, ⟨r7_2, c7_2⟩, ⟨r8_2, c8_2⟩, ⟨r9_2, c9_2⟩⟩ := hrel
  obtain ⟨W2, rfl⟩ : ∃ W2 : World, W2 = wr := ⟨_, rfl⟩
  have q2 := hb2.size
  have E4_2 := Lib.hid c4_1; replace c4_2 := c4_2.trans c4_1
  have z4_2 := isRow_lt r4_2
  have E5_2 := Lib.hid c5_1; replace c5_2 := c5_2.trans c5_1
  have z5_2 := isRow_lt r5_2
  have E6_2 := Lib.hid c6_1; replace c6_2 := c6_2.trans c6_1
  have z6_2 := isRow_lt r6_2
  have E7_2 := Lib.hid c7_1; replace c7_2 := c7_2.trans c7_1
  have z7_2 := isRow_lt r7_2
  have E8_2 := Lib.hid c8_1; replace c8_2 := c8_2.trans c8_1
  have z8_2 := isRow_lt r8_2
  have z9_2 := isRow_lt r9_2
  clear r4_1 c4_1 z4_1 r5_1 c5_1 z5_1 r6_1 c6_1 z6_1 r7_1 c7_1 z7_1 r8_1 c8_1 z8_1 r9_1 c9_1 z9_1 hb1
  by_cases hlt2 : i < n
  ·
   have i0_2 : (0 : Int) ≤ (i : Int) := by omega
   have i8_2 : (i : Int) < 8 := by omega
   have k8_2 : i < 8 := by omega
   have m8_2 : i * 8 + 8 ≤ 64 := by omega
   have m64_2 : i * 64 + 64 ≤ 512 := by omega
   have l1_2 : 10 + i * 64 + 64 ≤ 522 := by omega
   by_cases hv0 : a i = 0
   ·
    have H := Lib.hid (fun t => times_skip p d (act F) a v i t hv0)
    have h1 : (a i != 0) = false := by simpa using hv0
    clear hv0
    go_wp2
    go_roundw
    case rel => exact ⟨i + 1, by omega, by go_num, bt, ⟨by simp [go_sem, r4_2, c4_2, r5_2, c5_2, r6_2, c6_2, r7_2, c7_2, r8_2, c8_2, r9_2, c9_2], (by rw [E4_2.out]; first | exact c4_2 | (simp [go_sem, r4_2, c4_2, r5_2, c5_2, r6_2, c6_2, r7_2, c7_2, r8_2, c8_2, r9_2, c9_2]; done))⟩, ⟨by simp [go_sem, r4_2, c4_2, r5_2, c5_2, r6_2, c6_2, r7_2, c7_2, r8_2, c8_2, r9_2, c9_2], (by rw [E5_2.out]; first | exact c5_2 | (simp [go_sem, r4_2, c4_2, r5_2, c5_2, r6_2, c6_2, r7_2, c7_2, r8_2, c8_2, r9_2, c9_2]; done))⟩, ⟨by simp [go_sem, r4_2, c4_2, r5_2, c5_2, r6_2, c6_2, r7_2, c7_2, r8_2, c8_2, r9_2, c9_2], (by rw [E6_2.out]; first | exact c6_2 | (simp [go_sem, r4_2, c4_2, r5_2, c5_2, r6_2, c6_2, r7_2, c7_2, r8_2, c8_2, r9_2, c9_2]; done))⟩, ⟨by simp [go_sem, r4_2, c4_2, r5_2, c5_2, r6_2, c6_2, r7_2, c7_2, r8_2, c8_2, r9_2, c9_2], (by rw [E7_2.out]; first | exact c7_2 | (simp [go_sem, r4_2, c4_2, r5_2, c5_2, r6_2, c6_2, r7_2, c7_2, r8_2, c8_2, r9_2, c9_2]; done))⟩, ⟨by simp [go_sem, r4_2, c4_2, r5_2, c5_2, r6_2, c6_2, r7_2, c7_2, r8_2, c8_2, r9_2, c9_2], (by rw [E8_2.out]; first | exact c8_2 | (simp [go_sem, r4_2, c4_2, r5_2, c5_2, r6_2, c6_2, r7_2, c7_2, r8_2, c8_2, r9_2, c9_2]; done))⟩, ⟨by simp [go_sem, r4_2, c4_2, r5_2, c5_2, r6_2, c6_2, r7_2, c7_2, r8_2, c8_2, r9_2, c9_2], (by first | exact (c9_2).trans (row_congr fun t _ => H.out t) | (simp [go_sem, r4_2, c4_2, r5_2, c5_2, r6_2, c6_2, r7_2, c7_2, r8_2, c8_2, r9_2, c9_2]; exact row_congr fun t _ => H.out t))⟩⟩
    case measure => simp [intOf]; try omega
   ·
    have h1 : (a i != 0) = true := by simpa using hv0
    clear hv0
    have b1 := (Ha.out i (by omega)).1
    have b2 := (Ha.out i (by omega)).2
    have q1 : IntKind.i64.wrap (a i) = a i := IntWalk.i64_in _ (by omega)
    have HG := Lib.hid (rowOf_bytes HF.out (i := i) (by omega))
    have HT := Lib.hid (times_bytes hp hp' d (act F) a v i)
    have HB : Hid (Bytes 8 (appF p d (act F i) v)) := Lib.hid (bytes_mod hp hp' _)
    have e1 := mdl_act64 d F i (by omega)
    have l1 : 1 + i * 64 + 64 ≤ 513 := by omega
    go_wp2
    refine wp_quiet_tail 18 (Below W2.heap.size W2) (by kernel_rfl) (by kernel_rfl) (Below.refl _ _).drew ?_
    simp only [List.take_succ_cons, List.take_zero, List.drop_succ_cons, List.drop_zero]
    iterate 12 (refine q_plain rfl ?_; apply Exists.intro; refine ⟨fun W hW => ?_, ?_⟩; (focus (obtain ⟨x4, y4⟩ := keepB hW z4_2 r4_2 c4_2; obtain ⟨x5, y5⟩ := keepB hW z5_2 r5_2 c5_2; obtain ⟨x6, y6⟩ := keepB hW z6_2 r6_2 c6_2; obtain ⟨x7, y7⟩ := keepB hW z7_2 r7_2 c7_2; obtain ⟨x8, y8⟩ := keepB hW z8_2 r8_2 c8_2; obtain ⟨x9, y9⟩ := keepB hW z9_2 r9_2 c9_2; go_simp; first | done | rfl)); simp only [Act.put, List.setIfInBounds_toArray, List.set_cons_zero, List.set_cons_succ])
    (refine q_plain rfl ?_; apply Exists.intro; refine ⟨fun W hW => ?_, ?_⟩; (focus (obtain ⟨x4, y4⟩ := keepB hW z4_2 r4_2 c4_2; obtain ⟨x5, y5⟩ := keepB hW z5_2 r5_2 c5_2; obtain ⟨x6, y6⟩ := keepB hW z6_2 r6_2 c6_2; obtain ⟨x7, y7⟩ := keepB hW z7_2 r7_2 c7_2; obtain ⟨x8, y8⟩ := keepB hW z8_2 r8_2 c8_2; obtain ⟨x9, y9⟩ := keepB hW z9_2 r9_2 c9_2; go_simp; (go_at_call 33; exact (l01Apply_any p d (rowOf 64 F i) v _ hp hp' hd HG.out Hv.out).mono fun e w2 ⟨he, hw2⟩ => ⟨he, hW.trans (hw2.mono hW.size)⟩))); simp only [Act.put, List.setIfInBounds_toArray, List.set_cons_zero, List.set_cons_succ])
    iterate 4 (refine q_plain rfl ?_; apply Exists.intro; refine ⟨fun W hW => ?_, ?_⟩; (focus (obtain ⟨x4, y4⟩ := keepB hW z4_2 r4_2 c4_2; obtain ⟨x5, y5⟩ := keepB hW z5_2 r5_2 c5_2; obtain ⟨x6, y6⟩ := keepB hW z6_2 r6_2 c6_2; obtain ⟨x7, y7⟩ := keepB hW z7_2 r7_2 c7_2; obtain ⟨x8, y8⟩ := keepB hW z8_2 r8_2 c8_2; obtain ⟨x9, y9⟩ := keepB hW z9_2 r9_2 c9_2; go_simp; first | done | rfl)); simp only [Act.put, List.setIfInBounds_toArray, List.set_cons_zero, List.set_cons_succ])
    (refine q_plain rfl ?_; apply Exists.intro; refine ⟨fun W hW => ?_, ?_⟩; (focus (obtain ⟨x4, y4⟩ := keepB hW z4_2 r4_2 c4_2; obtain ⟨x5, y5⟩ := keepB hW z5_2 r5_2 c5_2; obtain ⟨x6, y6⟩ := keepB hW z6_2 r6_2 c6_2; obtain ⟨x7, y7⟩ := keepB hW z7_2 r7_2 c7_2; obtain ⟨x8, y8⟩ := keepB hW z8_2 r8_2 c8_2; obtain ⟨x9, y9⟩ := keepB hW z9_2 r9_2 c9_2; go_simp; (go_at_call 66; exact (l01Add_any p (a i) (timesF p d (act F) a v i) (appF p d (act F i) v) _ hp hp' (by omega) (by omega) HT.out HB.out).mono fun e w2 ⟨he, hw2⟩ => ⟨he, hW.trans (hw2.mono hW.size)⟩))); simp only [Act.put, List.setIfInBounds_toArray, List.set_cons_zero, List.set_cons_succ])
    refine wpQuiet_nil ?_
    intro W3 hw3
    obtain ⟨r4_3, c4_3, z4_3⟩ := keepZ hw3 z4_2 r4_2 c4_2
    obtain ⟨r5_3, c5_3, z5_3⟩ := keepZ hw3 z5_2 r5_2 c5_2
    obtain ⟨r6_3, c6_3, z6_3⟩ := keepZ hw3 z6_2 r6_2 c6_2
    obtain ⟨r7_3, c7_3, z7_3⟩ := keepZ hw3 z7_2 r7_2 c7_2
    obtain ⟨r8_3, c8_3, z8_3⟩ := keepZ hw3 z8_2 r8_2 c8_2
    obtain ⟨r9_3, c9_3, z9_3⟩ := keepZ hw3 z9_2 r9_2 c9_2
    obtain ⟨hb3, q3⟩ := bN hb2 hw3
    clear hw3 r4_2 c4_2 z4_2 r5_2 c5_2 z5_2 r6_2 c6_2 z6_2 r7_2 c7_2 z7_2 r8_2 c8_2 z8_2 r9_2 c9_2 z9_2 hb2
    go_wp2
    go_roundw
    case rel => exact ⟨i + 1, by omega, by go_num, bt, ⟨by simp [go_sem, r4_3, c4_3, r5_3, c5_3, r6_3, c6_3, r7_3, c7_3, r8_3, c8_3, r9_3, c9_3], (by rw [E4_2.out]; first | exact c4_3 | (simp [go_sem, r4_3, c4_3, r5_3, c5_3, r6_3, c6_3, r7_3, c7_3, r8_3, c8_3, r9_3, c9_3]; done))⟩, ⟨by simp [go_sem, r4_3, c4_3, r5_3, c5_3, r6_3, c6_3, r7_3, c7_3, r8_3, c8_3, r9_3, c9_3], (by rw [E5_2.out]; first | exact c5_3 | (simp [go_sem, r4_3, c4_3, r5_3, c5_3, r6_3, c6_3, r7_3, c7_3, r8_3, c8_3, r9_3, c9_3]; done))⟩, ⟨by simp [go_sem, r4_3, c4_3, r5_3, c5_3, r6_3, c6_3, r7_3, c7_3, r8_3, c8_3, r9_3, c9_3], (by rw [E6_2.out]; first | exact c6_3 | (simp [go_sem, r4_3, c4_3, r5_3, c5_3, r6_3, c6_3, r7_3, c7_3, r8_3, c8_3, r9_3, c9_3]; done))⟩, ⟨by simp [go_sem, r4_3, c4_3, r5_3, c5_3, r6_3, c6_3, r7_3, c7_3, r8_3, c8_3, r9_3, c9_3], (by rw [E7_2.out]; first | exact c7_3 | (simp [go_sem, r4_3, c4_3, r5_3, c5_3, r6_3, c6_3, r7_3, c7_3, r8_3, c8_3, r9_3, c9_3]; done))⟩, ⟨by simp [go_sem, r4_3, c4_3, r5_3, c5_3, r6_3, c6_3, r7_3, c7_3, r8_3, c8_3, r9_3, c9_3], (by rw [E8_2.out]; first | exact c8_3 | (simp [go_sem, r4_3, c4_3, r5_3, c5_3, r6_3, c6_3, r7_3, c7_3, r8_3, c8_3, r9_3, c9_3]; done))⟩, ⟨by simp [go_sem, r4_3, c4_3, r5_3, c5_3, r6_3, c6_3, r7_3, c7_3, r8_3, c8_3, r9_3, c9_3], (by first | (rw [blk_setRow _ _ _ _ r9_3, if_pos rfl]; exact addm_row fun t _ => times_step p d (act F) a v i t) | exact (c9_3).trans (addm_row fun t _ => times_step p d (act F) a v i t) | (simp [go_sem, r4_3, c4_3, r5_3, c5_3, r6_3, c6_3, r7_3, c7_3, r8_3, c8_3, r9_3, c9_3]; exact addm_row fun t _ => times_step p d (act F) a v i t))⟩⟩
    case measure => simp [intOf]; try omega
  ·
   obtain rfl : n = i := by omega
   go_wp2_with fail
   refine bodyPost_ret (result_cell rfl aggVec _ _ (row 8 (timesF p d (act F) a v n)) _ rfl ?_ ?_) rfl ⟨rfl, ?_⟩
   · simp [go_sem, r4_2, c4_2, r5_2, c5_2, r6_2, c6_2, r7_2, c7_2, r8_2, c8_2, r9_2, c9_2]
   · simp [go_sem, r4_2, c4_2, r5_2, c5_2, r6_2, c6_2, r7_2, c7_2, r8_2, c8_2, r9_2, c9_2]
   · exact bt

/-! ### what a module is -/
/-- map i: for p and d, and of zeros from n on -/
def entA (p : Int) (n : Nat) (d : Int) (F : Nat → Int) (i : Nat) : Bool := linB p d (rowOf 64 F i) && (decide ((i : Int) < n) || segEq 0 64 (rowOf 64 F i) zf)
def prodE (p : Int) (n : Nat) (f : Nat → Int) (d : Nat) (F : Nat → Int) (k i j : Nat) : Bool := segEq 0 8 (timesF p d (act F) (mtab f i j) (ebas k) n) (appF p d (act F i) (act F j k))
def rowE (p : Int) (n : Nat) (f : Nat → Int) (d : Nat) (F : Nat → Int) (k : Nat) : Bool := segEq 0 8 (timesF p d (act F) f (ebas k) n) (ebas k) && (List.range n).all fun i => (List.range n).all fun j => prodE p n f d F k i j
def actsB (p : Int) (n : Nat) (f : Nat → Int) (d : Nat) (F : Nat → Int) : Bool := (List.range d).all (rowE p n f d F)
def shapeM (p : Int) (n : Nat) (d : Int) (F : Nat → Int) : Bool := (decide (1 ≤ d) && decide (d ≤ 8)) && (List.range 8).all (entA p n d F)
/-- d, F is a module of p, n, f -/
def modB (p : Int) (n : Nat) (f : Nat → Int) (d : Int) (F : Nat → Int) : Bool := shapeM p n d F && actsB p n f d.toNat F
theorem modB_no1 {p : Int} {n : Nat} {f : Nat → Int} {d : Int} {F : Nat → Int} (h : (decide (1 ≤ d) && decide (d ≤ 8)) = false) : modB p n f d F = false := by unfold modB shapeM; rw [h]; rfl
theorem modB_no2 {p : Int} {n : Nat} {f : Nat → Int} {d : Int} {F : Nat → Int} {i : Nat} (hi : i < 8) (h : entA p n d F i = false) : modB p n f d F = false := by
  unfold modB shapeM; rw [all_no i 8 hi h, Bool.and_false]; rfl
theorem modB_no3 {p : Int} {n : Nat} {f : Nat → Int} {d : Nat} {F : Nat → Int} {k : Nat} (hk : k < d) (h : rowE p n f d F k = false) : modB p n f d F = false := by
  unfold modB actsB; rw [Int.toNat_natCast, all_no k d hk h, Bool.and_false]
theorem modB_yes {p : Int} {n : Nat} {f : Nat → Int} {d : Nat} {F : Nat → Int} (h1 : 1 ≤ d) (h2 : d ≤ 8) (ha : ∀ i, i < 8 → entA p n d F i = true) (h : ∀ k, k < d → rowE p n f d F k = true) : modB p n f d F = true := by
  unfold modB shapeM actsB
  rw [Int.toNat_natCast, all_yes 8 ha, all_yes d h, decide_eq_true (by omega), decide_eq_true (by omega)]; rfl
theorem rowE_no1 {p : Int} {n : Nat} {f : Nat → Int} {d : Nat} {F : Nat → Int} {k : Nat} (h : segEq 0 8 (timesF p d (act F) f (ebas k) n) (ebas k) = false) : rowE p n f d F k = false := by unfold rowE; rw [h]; rfl
theorem rowE_no2 {p : Int} {n : Nat} {f : Nat → Int} {d : Nat} {F : Nat → Int} {k i j : Nat} (hi : i < n) (hj : j < n) (h : prodE p n f d F k i j = false) : rowE p n f d F k = false := by
  unfold rowE
  rw [all_no (q := fun i => (List.range n).all fun j => prodE p n f d F k i j) i n hi (all_no j n hj h), Bool.and_false]
theorem rowE_yes {p : Int} {n : Nat} {f : Nat → Int} {d : Nat} {F : Nat → Int} {k : Nat} (h1 : segEq 0 8 (timesF p d (act F) f (ebas k) n) (ebas k) = true) (h : ∀ i, i < n → ∀ j, j < n → prodE p n f d F k i j = true) : rowE p n f d F k = true := by
  unfold rowE
  rw [h1, all_yes n fun i hi => all_yes n fun j hj => h i hi j hj]; rfl
theorem prods_more {p : Int} {n : Nat} {f : Nat → Int} {d : Nat} {F : Nat → Int} {k i : Nat} (h : ∀ a, a < i → ∀ j, j < n → prodE p n f d F k a j = true) (hi : ∀ j, j < n → prodE p n f d F k i j = true) : ∀ a, a < i + 1 → ∀ j, j < n → prodE p n f d F k a j = true := fun a ha j hj => by
  by_cases e : a = i
  · subst e; exact hi j hj
  · exact h a (by omega) j hj

theorem applyAct (p : Int) (d : Nat) (F v : Nat → Int) (i : Nat) (w : World) (hp : 0 < p) (hp' : p ≤ 255) (hd : d ≤ 8) (hF : Bytes 64 (rowOf 64 F i)) (hv : Bytes 8 v) :
    Calls Tryz.prog 33 #[.int .i64 p, .int .i64 d, .agg (row 64 (rowOf 64 F i)), .agg (row 8 v)] w fun e w' => e = .returned (.agg (row 8 (appF p d (act F i) v))) ∧ Below w.heap.size w w' := l01Apply_any p d (rowOf 64 F i) v w hp hp' hd hF hv
theorem mtab_bt {f : Nat → Int} (h : Bytes 520 f) {i j : Nat} (hi : i < 8) (hj : j < 8) : Bytes 8 (mtab f i j) := fun t ht => tab_bytes h _ (by omega)

set_option maxRecDepth 100000 in
set_option maxHeartbeats 4000000 in
theorem l06Holds_any (p : Int) (n : Nat) (f : Nat → Int) (d : Int) (F : Nat → Int) (w : World) (hp : 0 < p) (hp' : p ≤ 255) (hn : n ≤ 8) (hf : Bytes 1104 f) (hF : Bytes 512 F) :
    Calls Tryz.prog 95 #[.agg (hop p n f), .agg (mdl d F)] w fun e w' => e = .returned (.bool (modB p n f d F)) ∧ Below w.heap.size w w' := by
 have Hf := Lib.hid hf; clear hf
 have HF := Lib.hid hF; clear hF
 cases h0 : (decide (1 ≤ d) && decide (d ≤ 8))
 ·
  have H := Lib.hid (modB_no1 (p := p) (n := n) (f := f) (F := F) h0)
  go_enter Tryz.func95, Tryz.ntmps95
  go_wp2_with fail
  refine atomC fun W1 e1 => ?_
  have hb1 : Below w.heap.size w W1 := by rw [e1]; exact bt
  have q1 := hb1.size
  have R1 : IsRow W1 (w.heap.size) ∧ IsRow W1 (w.heap.size + 1) := by rw [e1]; simp [go_sem]
  obtain ⟨r2_1, r3_1⟩ := R1
  have C1 := (⟨congrArg (blk · (w.heap.size)) e1, congrArg (blk · (w.heap.size + 1)) e1⟩ : _ ∧ _); simp [go_sem] at C1
  obtain ⟨c2_1, c3_1⟩ := C1
  have z2_1 := isRow_lt r2_1; have z3_1 := isRow_lt r3_1
  clear e1
  refine (lin_any _ _ _ _).mono ?_; rintro _ _ ⟨rfl, rfl⟩
  go_wp2_with fail
  go_ret
  exact ⟨ret_bool (by rw [H.out]), bt⟩
 ·
  have h0d := h0
  simp only [Bool.and_eq_true, decide_eq_true_eq] at h0d
  obtain ⟨d, rfl⟩ := Int.eq_ofNat_of_zero_le (show 0 ≤ d by omega)
  have hd1 : 1 ≤ d := by omega
  have hd : d ≤ 8 := by omega
  clear h0d
  go_enter Tryz.func95, Tryz.ntmps95
  go_wp2_with fail
  refine atomC fun W2 e2 => ?_
  have hb2 : Below w.heap.size w W2 := by rw [e2]; exact bt
  have q2 := hb2.size
  have R2 : IsRow W2 (w.heap.size) ∧ IsRow W2 (w.heap.size + 1) := by rw [e2]; simp [go_sem]
  obtain ⟨r2_2, r3_2⟩ := R2
  have C2 := (⟨congrArg (blk · (w.heap.size)) e2, congrArg (blk · (w.heap.size + 1)) e2⟩ : _ ∧ _); simp [go_sem] at C2
  obtain ⟨c2_2, c3_2⟩ := C2
  have z2_2 := isRow_lt r2_2; have z3_2 := isRow_lt r3_2
  clear e2
  refine (lin_any _ _ _ _).mono ?_; rintro _ _ ⟨rfl, rfl⟩
  go_wp2
  go_loopw [5] (fun s5 wr => ∃ i : Nat, i ≤ 8 ∧ s5 = .int .i64 i ∧ Below w.heap.size w wr ∧ (IsRow wr (w.heap.size) ∧ blk wr (w.heap.size) = blk W2 (w.heap.size)) ∧ (IsRow wr (w.heap.size + 1) ∧ blk wr (w.heap.size + 1) = blk W2 (w.heap.size + 1)) ∧ ∀ x, x < i → entA p n d F x = true) (fun s5 _ => 8 - (intOf s5).toNat)
  case atStart => exact ⟨0, by omega, rfl, hb2, ⟨r2_2, rfl⟩, ⟨r3_2, rfl⟩, fun x hx => by omega⟩
  case round =>
   obtain ⟨i, hle3, rfl, hb3, ⟨r2_3, c2_3⟩, ⟨r3_3, c3_3⟩, hx3⟩ := hrel
   obtain ⟨W3, rfl⟩ : ∃ W3 : World, W3 = wr := ⟨_, rfl⟩
   have q3 := hb3.size
   have HX3 := Lib.hid hx3; clear hx3
   have E2_3 := Lib.hid c2_2; replace c2_3 := c2_3.trans c2_2
   have z2_3 := isRow_lt r2_3
   have E3_3 := Lib.hid c3_2; replace c3_3 := c3_3.trans c3_2
   have z3_3 := isRow_lt r3_3
   clear r2_2 c2_2 z2_2 r3_2 c3_2 z3_2 hb2
   by_cases hlt3 : i < 8
   ·
    have i0_3 : (0 : Int) ≤ (i : Int) := by omega
    have i8_3 : (i : Int) < 8 := by omega
    have k8_3 : i < 8 := by omega
    have m8_3 : i * 8 + 8 ≤ 64 := by omega
    have m64_3 : i * 64 + 64 ≤ 512 := by omega
    have l1_3 : 10 + i * 64 + 64 ≤ 522 := by omega
    cases hv : linB p d (rowOf 64 F i)
    ·
     have l1 : 1 + i * 64 + 64 ≤ 513 := by omega
     have e1 := mdl_act64 d F i (by omega)
     have HG := Lib.hid (rowOf_bytes HF.out (i := i) (by omega))
     have H := Lib.hid (modB_no2 (p := p) (n := n) (f := f) (d := d) (F := F) (i := i) (by omega) (by unfold entA; rw [hv]; rfl))
     go_wp2
     refine wp_quiet_all (Below W3.heap.size W3) (by kernel_rfl) (by kernel_rfl) (Below.refl _ _).drew ?_
     iterate 8 (refine q_plain rfl ?_; apply Exists.intro; refine ⟨fun W hW => ?_, ?_⟩; (focus (obtain ⟨x2, y2⟩ := keepB hW z2_3 r2_3 c2_3; obtain ⟨x3, y3⟩ := keepB hW z3_3 r3_3 c3_3; go_simp; first | done | rfl)); simp only [Act.put, List.setIfInBounds_toArray, List.set_cons_zero, List.set_cons_succ])
     (refine q_plain rfl ?_; apply Exists.intro; refine ⟨fun W hW => ?_, ?_⟩; (focus (obtain ⟨x2, y2⟩ := keepB hW z2_3 r2_3 c2_3; obtain ⟨x3, y3⟩ := keepB hW z3_3 r3_3 c3_3; go_simp; (go_at_call 116; exact (l01Linear_any p d (rowOf 64 F i) _ HG.out).mono fun e w2 ⟨he, hw2⟩ => ⟨he, hW.trans (hw2.mono hW.size)⟩))); simp only [Act.put, List.setIfInBounds_toArray, List.set_cons_zero, List.set_cons_succ])
     iterate 2 (refine q_plain rfl ?_; apply Exists.intro; refine ⟨fun W hW => ?_, ?_⟩; (focus (obtain ⟨x2, y2⟩ := keepB hW z2_3 r2_3 c2_3; obtain ⟨x3, y3⟩ := keepB hW z3_3 r3_3 c3_3; go_simp; first | done | rfl)); simp only [Act.put, List.setIfInBounds_toArray, List.set_cons_zero, List.set_cons_succ])
     iterate 12 (refine q_skip (by kernel_rfl) ?_; simp only [Act.put, List.setIfInBounds_toArray, List.set_cons_zero, List.set_cons_succ])
     iterate 1 (refine q_plain rfl ?_; apply Exists.intro; refine ⟨fun W hW => ?_, ?_⟩; (focus (obtain ⟨x2, y2⟩ := keepB hW z2_3 r2_3 c2_3; obtain ⟨x3, y3⟩ := keepB hW z3_3 r3_3 c3_3; go_simp; first | done | rfl)); simp only [Act.put, List.setIfInBounds_toArray, List.set_cons_zero, List.set_cons_succ])
     refine wpQuiet_nil ?_
     intro W4 hw4
     obtain ⟨r2_4, c2_4, z2_4⟩ := keepZ hw4 z2_3 r2_3 c2_3
     obtain ⟨r3_4, c3_4, z3_4⟩ := keepZ hw4 z3_3 r3_3 c3_3
     obtain ⟨hb4, q4⟩ := bN hb3 hw4
     clear hw4 r2_3 c2_3 z2_3 r3_3 c3_3 z3_3 hb3
     go_wp2_with fail
     go_ret
     exact ⟨ret_bool (by rw [H.out]), bt⟩
    ·
     by_cases hin : (i : Int) < n
     ·
      have l1 : 1 + i * 64 + 64 ≤ 513 := by omega
      have e1 := mdl_act64 d F i (by omega)
      have HG := Lib.hid (rowOf_bytes HF.out (i := i) (by omega))
      have hin2 : decide (n ≤ i) = false := decide_eq_false (by omega)
      have H := Lib.hid (upto_more (q := entA p n d F) HX3.out (show entA p n d F i = true by unfold entA; rw [hv, decide_eq_true hin]; rfl))
      go_wp2
      refine wp_quiet_all (Below W3.heap.size W3) (by kernel_rfl) (by kernel_rfl) (Below.refl _ _).drew ?_
      iterate 8 (refine q_plain rfl ?_; apply Exists.intro; refine ⟨fun W hW => ?_, ?_⟩; (focus (obtain ⟨x2, y2⟩ := keepB hW z2_3 r2_3 c2_3; obtain ⟨x3, y3⟩ := keepB hW z3_3 r3_3 c3_3; go_simp; first | done | rfl)); simp only [Act.put, List.setIfInBounds_toArray, List.set_cons_zero, List.set_cons_succ])
      (refine q_plain rfl ?_; apply Exists.intro; refine ⟨fun W hW => ?_, ?_⟩; (focus (obtain ⟨x2, y2⟩ := keepB hW z2_3 r2_3 c2_3; obtain ⟨x3, y3⟩ := keepB hW z3_3 r3_3 c3_3; go_simp; (go_at_call 116; exact (l01Linear_any p d (rowOf 64 F i) _ HG.out).mono fun e w2 ⟨he, hw2⟩ => ⟨he, hW.trans (hw2.mono hW.size)⟩))); simp only [Act.put, List.setIfInBounds_toArray, List.set_cons_zero, List.set_cons_succ])
      iterate 2 (refine q_plain rfl ?_; apply Exists.intro; refine ⟨fun W hW => ?_, ?_⟩; (focus (obtain ⟨x2, y2⟩ := keepB hW z2_3 r2_3 c2_3; obtain ⟨x3, y3⟩ := keepB hW z3_3 r3_3 c3_3; go_simp; first | done | rfl)); simp only [Act.put, List.setIfInBounds_toArray, List.set_cons_zero, List.set_cons_succ])
      iterate 5 (refine q_want (by kernel_rfl) ?_; apply Exists.intro; refine ⟨fun W hW => ?_, ?_⟩; (focus (obtain ⟨x2, y2⟩ := keepB hW z2_3 r2_3 c2_3; obtain ⟨x3, y3⟩ := keepB hW z3_3 r3_3 c3_3; go_simp; first | done | rfl)); simp only [Act.put, List.setIfInBounds_toArray, List.set_cons_zero, List.set_cons_succ])
      iterate 6 (refine q_skip (by kernel_rfl) ?_; simp only [Act.put, List.setIfInBounds_toArray, List.set_cons_zero, List.set_cons_succ])
      iterate 1 (refine q_want (by kernel_rfl) ?_; apply Exists.intro; refine ⟨fun W hW => ?_, ?_⟩; (focus (obtain ⟨x2, y2⟩ := keepB hW z2_3 r2_3 c2_3; obtain ⟨x3, y3⟩ := keepB hW z3_3 r3_3 c3_3; go_simp; first | done | rfl)); simp only [Act.put, List.setIfInBounds_toArray, List.set_cons_zero, List.set_cons_succ])
      iterate 1 (refine q_plain rfl ?_; apply Exists.intro; refine ⟨fun W hW => ?_, ?_⟩; (focus (obtain ⟨x2, y2⟩ := keepB hW z2_3 r2_3 c2_3; obtain ⟨x3, y3⟩ := keepB hW z3_3 r3_3 c3_3; go_simp; first | done | rfl)); simp only [Act.put, List.setIfInBounds_toArray, List.set_cons_zero, List.set_cons_succ])
      refine wpQuiet_nil ?_
      intro W5 hw5
      obtain ⟨r2_5, c2_5, z2_5⟩ := keepZ hw5 z2_3 r2_3 c2_3
      obtain ⟨r3_5, c3_5, z3_5⟩ := keepZ hw5 z3_3 r3_3 c3_3
      obtain ⟨hb5, q5⟩ := bN hb3 hw5
      clear hw5 r2_3 c2_3 z2_3 r3_3 c3_3 z3_3 hb3
      go_wp2
      go_roundw
      case rel => exact ⟨i + 1, by omega, by go_num, bt, ⟨by simp [go_sem, r2_5, c2_5, r3_5, c3_5], (by rw [E2_3.out]; first | exact c2_5 | (simp [go_sem, r2_5, c2_5, r3_5, c3_5]; done))⟩, ⟨by simp [go_sem, r2_5, c2_5, r3_5, c3_5], (by rw [E3_3.out]; first | exact c3_5 | (simp [go_sem, r2_5, c2_5, r3_5, c3_5]; done))⟩, H.out⟩
      case measure => simp [intOf]; try omega
     ·
      cases hz : segEq 0 64 (rowOf 64 F i) zf
      ·
       have l1 : 1 + i * 64 + 64 ≤ 513 := by omega
       have e1 := mdl_act64 d F i (by omega)
       have HG := Lib.hid (rowOf_bytes HF.out (i := i) (by omega))
       have hin2 : decide (n ≤ i) = true := decide_eq_true (by omega)
       have H := Lib.hid (modB_no2 (p := p) (n := n) (f := f) (d := d) (F := F) (i := i) (by omega) (by unfold entA; rw [hv, hz, decide_eq_false hin]; rfl))
       go_wp2
       refine wp_quiet_all (Below W3.heap.size W3) (by kernel_rfl) (by kernel_rfl) (Below.refl _ _).drew ?_
       iterate 8 (refine q_plain rfl ?_; apply Exists.intro; refine ⟨fun W hW => ?_, ?_⟩; (focus (obtain ⟨x2, y2⟩ := keepB hW z2_3 r2_3 c2_3; obtain ⟨x3, y3⟩ := keepB hW z3_3 r3_3 c3_3; go_simp; first | done | rfl)); simp only [Act.put, List.setIfInBounds_toArray, List.set_cons_zero, List.set_cons_succ])
       (refine q_plain rfl ?_; apply Exists.intro; refine ⟨fun W hW => ?_, ?_⟩; (focus (obtain ⟨x2, y2⟩ := keepB hW z2_3 r2_3 c2_3; obtain ⟨x3, y3⟩ := keepB hW z3_3 r3_3 c3_3; go_simp; (go_at_call 116; exact (l01Linear_any p d (rowOf 64 F i) _ HG.out).mono fun e w2 ⟨he, hw2⟩ => ⟨he, hW.trans (hw2.mono hW.size)⟩))); simp only [Act.put, List.setIfInBounds_toArray, List.set_cons_zero, List.set_cons_succ])
       iterate 2 (refine q_plain rfl ?_; apply Exists.intro; refine ⟨fun W hW => ?_, ?_⟩; (focus (obtain ⟨x2, y2⟩ := keepB hW z2_3 r2_3 c2_3; obtain ⟨x3, y3⟩ := keepB hW z3_3 r3_3 c3_3; go_simp; first | done | rfl)); simp only [Act.put, List.setIfInBounds_toArray, List.set_cons_zero, List.set_cons_succ])
       iterate 12 (refine q_want (by kernel_rfl) ?_; apply Exists.intro; refine ⟨fun W hW => ?_, ?_⟩; (focus (obtain ⟨x2, y2⟩ := keepB hW z2_3 r2_3 c2_3; obtain ⟨x3, y3⟩ := keepB hW z3_3 r3_3 c3_3; go_simp; first | done | rfl)); simp only [Act.put, List.setIfInBounds_toArray, List.set_cons_zero, List.set_cons_succ])
       iterate 1 (refine q_plain rfl ?_; apply Exists.intro; refine ⟨fun W hW => ?_, ?_⟩; (focus (obtain ⟨x2, y2⟩ := keepB hW z2_3 r2_3 c2_3; obtain ⟨x3, y3⟩ := keepB hW z3_3 r3_3 c3_3; go_simp; first | done | rfl)); simp only [Act.put, List.setIfInBounds_toArray, List.set_cons_zero, List.set_cons_succ])
       refine wpQuiet_nil ?_
       intro W6 hw6
       obtain ⟨r2_6, c2_6, z2_6⟩ := keepZ hw6 z2_3 r2_3 c2_3
       obtain ⟨r3_6, c3_6, z3_6⟩ := keepZ hw6 z3_3 r3_3 c3_3
       obtain ⟨hb6, q6⟩ := bN hb3 hw6
       clear hw6 r2_3 c2_3 z2_3 r3_3 c3_3 z3_3 hb3
       go_wp2_with fail
       go_ret
       exact ⟨ret_bool (by rw [H.out]), bt⟩
      ·
       have l1 : 1 + i * 64 + 64 ≤ 513 := by omega
       have e1 := mdl_act64 d F i (by omega)
       have HG := Lib.hid (rowOf_bytes HF.out (i := i) (by omega))
       have hin2 : decide (n ≤ i) = true := decide_eq_true (by omega)
       have H := Lib.hid (upto_more (q := entA p n d F) HX3.out (show entA p n d F i = true by unfold entA; rw [hv, hz, Bool.or_true]; rfl))
       go_wp2
       refine wp_quiet_all (Below W3.heap.size W3) (by kernel_rfl) (by kernel_rfl) (Below.refl _ _).drew ?_
       iterate 8 (refine q_plain rfl ?_; apply Exists.intro; refine ⟨fun W hW => ?_, ?_⟩; (focus (obtain ⟨x2, y2⟩ := keepB hW z2_3 r2_3 c2_3; obtain ⟨x3, y3⟩ := keepB hW z3_3 r3_3 c3_3; go_simp; first | done | rfl)); simp only [Act.put, List.setIfInBounds_toArray, List.set_cons_zero, List.set_cons_succ])
       (refine q_plain rfl ?_; apply Exists.intro; refine ⟨fun W hW => ?_, ?_⟩; (focus (obtain ⟨x2, y2⟩ := keepB hW z2_3 r2_3 c2_3; obtain ⟨x3, y3⟩ := keepB hW z3_3 r3_3 c3_3; go_simp; (go_at_call 116; exact (l01Linear_any p d (rowOf 64 F i) _ HG.out).mono fun e w2 ⟨he, hw2⟩ => ⟨he, hW.trans (hw2.mono hW.size)⟩))); simp only [Act.put, List.setIfInBounds_toArray, List.set_cons_zero, List.set_cons_succ])
       iterate 2 (refine q_plain rfl ?_; apply Exists.intro; refine ⟨fun W hW => ?_, ?_⟩; (focus (obtain ⟨x2, y2⟩ := keepB hW z2_3 r2_3 c2_3; obtain ⟨x3, y3⟩ := keepB hW z3_3 r3_3 c3_3; go_simp; first | done | rfl)); simp only [Act.put, List.setIfInBounds_toArray, List.set_cons_zero, List.set_cons_succ])
       iterate 12 (refine q_want (by kernel_rfl) ?_; apply Exists.intro; refine ⟨fun W hW => ?_, ?_⟩; (focus (obtain ⟨x2, y2⟩ := keepB hW z2_3 r2_3 c2_3; obtain ⟨x3, y3⟩ := keepB hW z3_3 r3_3 c3_3; go_simp; first | done | rfl)); simp only [Act.put, List.setIfInBounds_toArray, List.set_cons_zero, List.set_cons_succ])
       iterate 1 (refine q_plain rfl ?_; apply Exists.intro; refine ⟨fun W hW => ?_, ?_⟩; (focus (obtain ⟨x2, y2⟩ := keepB hW z2_3 r2_3 c2_3; obtain ⟨x3, y3⟩ := keepB hW z3_3 r3_3 c3_3; go_simp; first | done | rfl)); simp only [Act.put, List.setIfInBounds_toArray, List.set_cons_zero, List.set_cons_succ])
       refine wpQuiet_nil ?_
       intro W7 hw7
       obtain ⟨r2_7, c2_7, z2_7⟩ := keepZ hw7 z2_3 r2_3 c2_3
       obtain ⟨r3_7, c3_7, z3_7⟩ := keepZ hw7 z3_3 r3_3 c3_3
       obtain ⟨hb7, q7⟩ := bN hb3 hw7
       clear hw7 r2_3 c2_3 z2_3 r3_3 c3_3 z3_3 hb3
       go_wp2
       go_roundw
       case rel => exact ⟨i + 1, by omega, by go_num, bt, ⟨by simp [go_sem, r2_7, c2_7, r3_7, c3_7], (by rw [E2_3.out]; first | exact c2_7 | (simp [go_sem, r2_7, c2_7, r3_7, c3_7]; done))⟩, ⟨by simp [go_sem, r2_7, c2_7, r3_7, c3_7], (by rw [E3_3.out]; first | exact c3_7 | (simp [go_sem, r2_7, c2_7, r3_7, c3_7]; done))⟩, H.out⟩
       case measure => simp [intOf]; try omega
   ·
    obtain rfl : i = 8 := by omega
    have HE := HX3
    simp only [show ((8 : Nat) : Int) = 8 from rfl]
    go_wp2
    go_loopw [6] (fun s6 wr => ∃ k : Nat, k ≤ d ∧ s6 = .int .i64 k ∧ Below w.heap.size w wr ∧ (IsRow wr (w.heap.size) ∧ blk wr (w.heap.size) = blk W3 (w.heap.size)) ∧ (IsRow wr (w.heap.size + 1) ∧ blk wr (w.heap.size + 1) = blk W3 (w.heap.size + 1)) ∧ ∀ x, x < k → rowE p n f d F x = true) (fun s6 _ => d - (intOf s6).toNat)
    case atStart => exact ⟨0, by omega, rfl, hb3, ⟨r2_3, rfl⟩, ⟨r3_3, rfl⟩, fun x hx => by omega⟩
    case round =>
     obtain ⟨k, hle8, rfl, hb8, ⟨r2_8, c2_8⟩, ⟨r3_8, c3_8⟩, hx8⟩ := hrel
     obtain ⟨W8, rfl⟩ : ∃ W8 : World, W8 = wr := ⟨_, rfl⟩
     have q8 := hb8.size
     have HX8 := Lib.hid hx8; clear hx8
     have E2_8 := Lib.hid c2_3; replace c2_8 := c2_8.trans c2_3
     have z2_8 := isRow_lt r2_8
     have E3_8 := Lib.hid c3_3; replace c3_8 := c3_8.trans c3_3
     have z3_8 := isRow_lt r3_8
     clear r2_3 c2_3 z2_3 r3_3 c3_3 z3_3 hb3
     by_cases hlt8 : k < d
     ·
      have i0_8 : (0 : Int) ≤ (k : Int) := by omega
      have i8_8 : (k : Int) < 8 := by omega
      have k8_8 : k < 8 := by omega
      have m8_8 : k * 8 + 8 ≤ 64 := by omega
      have m64_8 : k * 64 + 64 ≤ 512 := by omega
      have l1_8 : 10 + k * 64 + 64 ≤ 522 := by omega
      cases hu : segEq 0 8 (timesF p d (act F) f (ebas k) n) (ebas k)
      ·
       have HU : Hid (Bytes 8 f) := Lib.hid fun t ht => Hf.out t (by omega)
       have H := Lib.hid (modB_no3 (p := p) (n := n) (f := f) (d := d) (F := F) (k := k) (by omega) (rowE_no1 hu))
       go_wp2_with fail
       refine (l01BasisAt k (by omega) _).mono ?_; rintro _ W9 ⟨rfl, hw9⟩
       obtain ⟨r2_9, c2_9, z2_9⟩ := keepZ hw9 z2_8 r2_8 c2_8
       obtain ⟨r3_9, c3_9, z3_9⟩ := keepZ hw9 z3_8 r3_8 c3_8
       obtain ⟨hb9, q9⟩ := bN hb8 hw9
       clear hw9 r2_8 c2_8 z2_8 r3_8 c3_8 z3_8 hb8
       go_wp2
       have nw2_W9_0 : (w.heap.size) ≠ W9.heap.size := by omega
       have nw3_W9_0 : (w.heap.size + 1) ≠ W9.heap.size := by omega
       refine atomW fun W10 e10 => ?_
       have hb10 : Below w.heap.size w W10 := by rw [e10]; exact bt
       have q10 := hb10.size
       have R10 : IsRow W10 (w.heap.size) ∧ IsRow W10 (w.heap.size + 1) ∧ IsRow W10 (W9.heap.size) := by rw [e10]; simp [go_sem, r2_9, c2_9, r3_9, c3_9, nw2_W9_0, nw3_W9_0]
       obtain ⟨r2_10, r3_10, r7_10⟩ := R10
       have C10 := (⟨congrArg (blk · (w.heap.size)) e10, congrArg (blk · (w.heap.size + 1)) e10, congrArg (blk · (W9.heap.size)) e10⟩ : _ ∧ _ ∧ _); simp [go_sem, r2_9, c2_9, r3_9, c3_9, nw2_W9_0, nw3_W9_0] at C10
       obtain ⟨c2_10, c3_10, c7_10⟩ := C10
       have z2_10 := isRow_lt r2_10; have z3_10 := isRow_lt r3_10; have z7_10 := isRow_lt r7_10
       have n2_7 : (w.heap.size) ≠ (W9.heap.size) := by omega
       have n3_7 : (w.heap.size + 1) ≠ (W9.heap.size) := by omega
       have n7_2 : (W9.heap.size) ≠ (w.heap.size) := by omega
       have n7_3 : (W9.heap.size) ≠ (w.heap.size + 1) := by omega
       clear e10 nw2_W9_0 nw3_W9_0 r2_9 c2_9 z2_9 r3_9 c3_9 z3_9 hb9
       refine wp_quiet_all (Below W10.heap.size W10) (by kernel_rfl) (by kernel_rfl) (Below.refl _ _).drew ?_
       iterate 5 (refine q_plain rfl ?_; apply Exists.intro; refine ⟨fun W hW => ?_, ?_⟩; (focus (obtain ⟨x2, y2⟩ := keepB hW z2_10 r2_10 c2_10; obtain ⟨x3, y3⟩ := keepB hW z3_10 r3_10 c3_10; obtain ⟨x7, y7⟩ := keepB hW z7_10 r7_10 c7_10; go_simp; first | done | rfl)); simp only [Act.put, List.setIfInBounds_toArray, List.set_cons_zero, List.set_cons_succ])
       (refine q_plain rfl ?_; apply Exists.intro; refine ⟨fun W hW => ?_, ?_⟩; (focus (obtain ⟨x2, y2⟩ := keepB hW z2_10 r2_10 c2_10; obtain ⟨x3, y3⟩ := keepB hW z3_10 r3_10 c3_10; obtain ⟨x7, y7⟩ := keepB hW z7_10 r7_10 c7_10; go_simp; (go_at_call 125; exact (l06Act_any p n d f F f (ebas k) _ hp hp' hd HF.out hn HU.out (ebas_bytes k)).mono fun e w2 ⟨he, hw2⟩ => ⟨he, hW.trans (hw2.mono hW.size)⟩))); simp only [Act.put, List.setIfInBounds_toArray, List.set_cons_zero, List.set_cons_succ])
       iterate 2 (refine q_plain rfl ?_; apply Exists.intro; refine ⟨fun W hW => ?_, ?_⟩; (focus (obtain ⟨x2, y2⟩ := keepB hW z2_10 r2_10 c2_10; obtain ⟨x3, y3⟩ := keepB hW z3_10 r3_10 c3_10; obtain ⟨x7, y7⟩ := keepB hW z7_10 r7_10 c7_10; go_simp; first | done | rfl)); simp only [Act.put, List.setIfInBounds_toArray, List.set_cons_zero, List.set_cons_succ])
       refine wpQuiet_nil ?_
       intro W11 hw11
       obtain ⟨r2_11, c2_11, z2_11⟩ := keepZ hw11 z2_10 r2_10 c2_10
       obtain ⟨r3_11, c3_11, z3_11⟩ := keepZ hw11 z3_10 r3_10 c3_10
       obtain ⟨r7_11, c7_11, z7_11⟩ := keepZ hw11 z7_10 r7_10 c7_10
       obtain ⟨hb11, q11⟩ := bN hb10 hw11
       clear hw11 r2_10 c2_10 z2_10 r3_10 c3_10 z3_10 r7_10 c7_10 z7_10 hb10
       go_wp2_with fail
       go_ret
       exact ⟨ret_bool (by rw [H.out]), bt⟩
      ·
       have HU : Hid (Bytes 8 f) := Lib.hid fun t ht => Hf.out t (by omega)
       have HK := HX8
       have Hu := Lib.hid hu
       go_wp2_with fail
       refine (l01BasisAt k (by omega) _).mono ?_; rintro _ W12 ⟨rfl, hw12⟩
       obtain ⟨r2_12, c2_12, z2_12⟩ := keepZ hw12 z2_8 r2_8 c2_8
       obtain ⟨r3_12, c3_12, z3_12⟩ := keepZ hw12 z3_8 r3_8 c3_8
       obtain ⟨hb12, q12⟩ := bN hb8 hw12
       clear hw12 r2_8 c2_8 z2_8 r3_8 c3_8 z3_8 hb8
       go_wp2
       have nw2_W12_0 : (w.heap.size) ≠ W12.heap.size := by omega
       have nw3_W12_0 : (w.heap.size + 1) ≠ W12.heap.size := by omega
       refine atomW fun W13 e13 => ?_
       have hb13 : Below w.heap.size w W13 := by rw [e13]; exact bt
       have q13 := hb13.size
       have R13 : IsRow W13 (w.heap.size) ∧ IsRow W13 (w.heap.size + 1) ∧ IsRow W13 (W12.heap.size) := by rw [e13]; simp [go_sem, r2_12, c2_12, r3_12, c3_12, nw2_W12_0, nw3_W12_0]
       obtain ⟨r2_13, r3_13, r7_13⟩ := R13
       have C13 := (⟨congrArg (blk · (w.heap.size)) e13, congrArg (blk · (w.heap.size + 1)) e13, congrArg (blk · (W12.heap.size)) e13⟩ : _ ∧ _ ∧ _); simp [go_sem, r2_12, c2_12, r3_12, c3_12, nw2_W12_0, nw3_W12_0] at C13
       obtain ⟨c2_13, c3_13, c7_13⟩ := C13
       have z2_13 := isRow_lt r2_13; have z3_13 := isRow_lt r3_13; have z7_13 := isRow_lt r7_13
       have n2_7 : (w.heap.size) ≠ (W12.heap.size) := by omega
       have n3_7 : (w.heap.size + 1) ≠ (W12.heap.size) := by omega
       have n7_2 : (W12.heap.size) ≠ (w.heap.size) := by omega
       have n7_3 : (W12.heap.size) ≠ (w.heap.size + 1) := by omega
       clear e13 nw2_W12_0 nw3_W12_0 r2_12 c2_12 z2_12 r3_12 c3_12 z3_12 hb12
       refine wp_quiet_all (Below W13.heap.size W13) (by kernel_rfl) (by kernel_rfl) (Below.refl _ _).drew ?_
       iterate 5 (refine q_plain rfl ?_; apply Exists.intro; refine ⟨fun W hW => ?_, ?_⟩; (focus (obtain ⟨x2, y2⟩ := keepB hW z2_13 r2_13 c2_13; obtain ⟨x3, y3⟩ := keepB hW z3_13 r3_13 c3_13; obtain ⟨x7, y7⟩ := keepB hW z7_13 r7_13 c7_13; go_simp; first | done | rfl)); simp only [Act.put, List.setIfInBounds_toArray, List.set_cons_zero, List.set_cons_succ])
       (refine q_plain rfl ?_; apply Exists.intro; refine ⟨fun W hW => ?_, ?_⟩; (focus (obtain ⟨x2, y2⟩ := keepB hW z2_13 r2_13 c2_13; obtain ⟨x3, y3⟩ := keepB hW z3_13 r3_13 c3_13; obtain ⟨x7, y7⟩ := keepB hW z7_13 r7_13 c7_13; go_simp; (go_at_call 125; exact (l06Act_any p n d f F f (ebas k) _ hp hp' hd HF.out hn HU.out (ebas_bytes k)).mono fun e w2 ⟨he, hw2⟩ => ⟨he, hW.trans (hw2.mono hW.size)⟩))); simp only [Act.put, List.setIfInBounds_toArray, List.set_cons_zero, List.set_cons_succ])
       iterate 2 (refine q_plain rfl ?_; apply Exists.intro; refine ⟨fun W hW => ?_, ?_⟩; (focus (obtain ⟨x2, y2⟩ := keepB hW z2_13 r2_13 c2_13; obtain ⟨x3, y3⟩ := keepB hW z3_13 r3_13 c3_13; obtain ⟨x7, y7⟩ := keepB hW z7_13 r7_13 c7_13; go_simp; first | done | rfl)); simp only [Act.put, List.setIfInBounds_toArray, List.set_cons_zero, List.set_cons_succ])
       refine wpQuiet_nil ?_
       intro W14 hw14
       obtain ⟨r2_14, c2_14, z2_14⟩ := keepZ hw14 z2_13 r2_13 c2_13
       obtain ⟨r3_14, c3_14, z3_14⟩ := keepZ hw14 z3_13 r3_13 c3_13
       obtain ⟨r7_14, c7_14, z7_14⟩ := keepZ hw14 z7_13 r7_13 c7_13
       obtain ⟨hb14, q14⟩ := bN hb13 hw14
       clear hw14 r2_13 c2_13 z2_13 r3_13 c3_13 z3_13 r7_13 c7_13 z7_13 hb13
       go_wp2
       go_loopw [8] (fun s8 wr => ∃ i : Nat, i ≤ n ∧ s8 = .int .i64 i ∧ Below w.heap.size w wr ∧ (IsRow wr (w.heap.size) ∧ blk wr (w.heap.size) = blk W14 (w.heap.size)) ∧ (IsRow wr (w.heap.size + 1) ∧ blk wr (w.heap.size + 1) = blk W14 (w.heap.size + 1)) ∧ (IsRow wr (W12.heap.size) ∧ blk wr (W12.heap.size) = blk W14 (W12.heap.size)) ∧ ∀ a, a < i → ∀ j, j < n → prodE p n f d F k a j = true) (fun s8 _ => n - (intOf s8).toNat)
       case atStart => exact ⟨0, by omega, rfl, hb14, ⟨r2_14, rfl⟩, ⟨r3_14, rfl⟩, ⟨r7_14, rfl⟩, fun a ha => by omega⟩
       case round =>
        obtain ⟨i, hle15, rfl, hb15, ⟨r2_15, c2_15⟩, ⟨r3_15, c3_15⟩, ⟨r7_15, c7_15⟩, hx15⟩ := hrel
        obtain ⟨W15, rfl⟩ : ∃ W15 : World, W15 = wr := ⟨_, rfl⟩
        have q15 := hb15.size
        have HX15 := Lib.hid hx15; clear hx15
        have E2_15 := Lib.hid c2_14; replace c2_15 := c2_15.trans c2_14
        have z2_15 := isRow_lt r2_15
        have E3_15 := Lib.hid c3_14; replace c3_15 := c3_15.trans c3_14
        have z3_15 := isRow_lt r3_15
        have E7_15 := Lib.hid c7_14; replace c7_15 := c7_15.trans c7_14
        have z7_15 := isRow_lt r7_15
        clear r2_14 c2_14 z2_14 r3_14 c3_14 z3_14 r7_14 c7_14 z7_14 hb14
        by_cases hlt15 : i < n
        ·
         have i0_15 : (0 : Int) ≤ (i : Int) := by omega
         have i8_15 : (i : Int) < 8 := by omega
         have k8_15 : i < 8 := by omega
         have m8_15 : i * 8 + 8 ≤ 64 := by omega
         have m64_15 : i * 64 + 64 ≤ 512 := by omega
         have l1_15 : 10 + i * 64 + 64 ≤ 522 := by omega
         have l2_15k : 10 + k * 64 + i * 8 + 8 ≤ 522 := by omega
         have l3_15k : 10 + i * 64 + k * 8 + 8 ≤ 522 := by omega
         have l4_15k : k * 64 + i * 8 + 8 ≤ 512 := by omega
         have l5_15k : i * 64 + k * 8 + 8 ≤ 512 := by omega
         have l6_15k : k * 8 + i < 64 := by omega
         have l7_15k : i * 8 + k < 64 := by omega
         have HI := HX15
         go_wp2
         go_loopw [9] (fun s9 wr => ∃ j : Nat, j ≤ n ∧ s9 = .int .i64 j ∧ Below w.heap.size w wr ∧ (IsRow wr (w.heap.size) ∧ blk wr (w.heap.size) = blk W15 (w.heap.size)) ∧ (IsRow wr (w.heap.size + 1) ∧ blk wr (w.heap.size + 1) = blk W15 (w.heap.size + 1)) ∧ (IsRow wr (W12.heap.size) ∧ blk wr (W12.heap.size) = blk W15 (W12.heap.size)) ∧ ∀ y, y < j → prodE p n f d F k i y = true) (fun s9 _ => n - (intOf s9).toNat)
         case atStart => exact ⟨0, by omega, rfl, hb15, ⟨r2_15, rfl⟩, ⟨r3_15, rfl⟩, ⟨r7_15, rfl⟩, fun y hy => by omega⟩
         case round =>
          obtain ⟨j, hle16, rfl, hb16, ⟨r2_16, c2_16⟩, ⟨r3_16, c3_16⟩, ⟨r7_16, c7_16⟩, hx16⟩ := hrel
          obtain ⟨W16, rfl⟩ : ∃ W16 : World, W16 = wr := ⟨_, rfl⟩
          have q16 := hb16.size
          have HX16 := Lib.hid hx16; clear hx16
          have E2_16 := Lib.hid c2_15; replace c2_16 := c2_16.trans c2_15
          have z2_16 := isRow_lt r2_16
          have E3_16 := Lib.hid c3_15; replace c3_16 := c3_16.trans c3_15
          have z3_16 := isRow_lt r3_16
          have E7_16 := Lib.hid c7_15; replace c7_16 := c7_16.trans c7_15
          have z7_16 := isRow_lt r7_16
          clear r2_15 c2_15 z2_15 r3_15 c3_15 z3_15 r7_15 c7_15 z7_15 hb15
          by_cases hlt16 : j < n
          ·
           have i0_16 : (0 : Int) ≤ (j : Int) := by omega
           have i8_16 : (j : Int) < 8 := by omega
           have k8_16 : j < 8 := by omega
           have m8_16 : j * 8 + 8 ≤ 64 := by omega
           have m64_16 : j * 64 + 64 ≤ 512 := by omega
           have l1_16 : 10 + j * 64 + 64 ≤ 522 := by omega
           have l2_16k : 10 + k * 64 + j * 8 + 8 ≤ 522 := by omega
           have l3_16k : 10 + j * 64 + k * 8 + 8 ≤ 522 := by omega
           have l4_16k : k * 64 + j * 8 + 8 ≤ 512 := by omega
           have l5_16k : j * 64 + k * 8 + 8 ≤ 512 := by omega
           have l6_16k : k * 8 + j < 64 := by omega
           have l7_16k : j * 8 + k < 64 := by omega
           have l2_16i : 10 + i * 64 + j * 8 + 8 ≤ 522 := by omega
           have l3_16i : 10 + j * 64 + i * 8 + 8 ≤ 522 := by omega
           have l4_16i : i * 64 + j * 8 + 8 ≤ 512 := by omega
           have l5_16i : j * 64 + i * 8 + 8 ≤ 512 := by omega
           have l6_16i : i * 8 + j < 64 := by omega
           have l7_16i : j * 8 + i < 64 := by omega
           cases he : segEq 0 8 (timesF p d (act F) (mtab f i j) (ebas k) n) (appF p d (act F i) (act F j k))
           ·
            have HM := Lib.hid (mtab_bt (hop_bytes Hf.out) (i := i) (j := j) (by omega) (by omega))
            have HG := Lib.hid (rowOf_bytes HF.out (i := i) (by omega))
            have HA := Lib.hid (act_bytes HF.out (i := j) (j := k) (by omega) (by omega))
            have e1 := mdl_act64 d F i (by omega)
            have e2 := mdl_act8 d F j k (by omega) (by omega)
            have e3 := hop_mul8 p n f i j (by omega) (by omega)
            have l1 : 1 + i * 64 + 64 ≤ 513 := by omega
            have l2 : 1 + j * 64 + k * 8 + 8 ≤ 513 := by omega
            have l3 : 1 + j * 64 + 64 ≤ 513 := by omega
            have l4 : 10 + i * 64 + j * 8 + 8 ≤ 1106 := by omega
            have H := Lib.hid (modB_no3 (p := p) (n := n) (f := f) (d := d) (F := F) (k := k) (by omega) (rowE_no2 (i := i) (j := j) (by omega) (by omega) he))
            go_wp2
            refine wp_quiet_all (Below W16.heap.size W16) (by kernel_rfl) (by kernel_rfl) (Below.refl _ _).drew ?_
            iterate 9 (refine q_plain rfl ?_; apply Exists.intro; refine ⟨fun W hW => ?_, ?_⟩; (focus (obtain ⟨x2, y2⟩ := keepB hW z2_16 r2_16 c2_16; obtain ⟨x3, y3⟩ := keepB hW z3_16 r3_16 c3_16; obtain ⟨x7, y7⟩ := keepB hW z7_16 r7_16 c7_16; go_simp; first | done | rfl)); simp only [Act.put, List.setIfInBounds_toArray, List.set_cons_zero, List.set_cons_succ])
            (refine q_plain rfl ?_; apply Exists.intro; refine ⟨fun W hW => ?_, ?_⟩; (focus (obtain ⟨x2, y2⟩ := keepB hW z2_16 r2_16 c2_16; obtain ⟨x3, y3⟩ := keepB hW z3_16 r3_16 c3_16; obtain ⟨x7, y7⟩ := keepB hW z7_16 r7_16 c7_16; go_simp; (go_at_call 125; exact (l06Act_any p n d f F (mtab f i j) (ebas k) _ hp hp' hd HF.out hn HM.out (ebas_bytes k)).mono fun e w2 ⟨he, hw2⟩ => ⟨he, hW.trans (hw2.mono hW.size)⟩))); simp only [Act.put, List.setIfInBounds_toArray, List.set_cons_zero, List.set_cons_succ])
            iterate 14 (refine q_plain rfl ?_; apply Exists.intro; refine ⟨fun W hW => ?_, ?_⟩; (focus (obtain ⟨x2, y2⟩ := keepB hW z2_16 r2_16 c2_16; obtain ⟨x3, y3⟩ := keepB hW z3_16 r3_16 c3_16; obtain ⟨x7, y7⟩ := keepB hW z7_16 r7_16 c7_16; go_simp; first | done | rfl)); simp only [Act.put, List.setIfInBounds_toArray, List.set_cons_zero, List.set_cons_succ])
            (refine q_plain rfl ?_; apply Exists.intro; refine ⟨fun W hW => ?_, ?_⟩; (focus (obtain ⟨x2, y2⟩ := keepB hW z2_16 r2_16 c2_16; obtain ⟨x3, y3⟩ := keepB hW z3_16 r3_16 c3_16; obtain ⟨x7, y7⟩ := keepB hW z7_16 r7_16 c7_16; go_simp; (go_at_call 33; exact (applyAct p d F (act F j k) i _ hp hp' hd HG.out HA.out).mono fun e w2 ⟨he, hw2⟩ => ⟨he, hW.trans (hw2.mono hW.size)⟩))); simp only [Act.put, List.setIfInBounds_toArray, List.set_cons_zero, List.set_cons_succ])
            iterate 1 (refine q_plain rfl ?_; apply Exists.intro; refine ⟨fun W hW => ?_, ?_⟩; (focus (obtain ⟨x2, y2⟩ := keepB hW z2_16 r2_16 c2_16; obtain ⟨x3, y3⟩ := keepB hW z3_16 r3_16 c3_16; obtain ⟨x7, y7⟩ := keepB hW z7_16 r7_16 c7_16; go_simp; first | done | rfl)); simp only [Act.put, List.setIfInBounds_toArray, List.set_cons_zero, List.set_cons_succ])
            refine wpQuiet_nil ?_
            intro W17 hw17
            obtain ⟨r2_17, c2_17, z2_17⟩ := keepZ hw17 z2_16 r2_16 c2_16
            obtain ⟨r3_17, c3_17, z3_17⟩ := keepZ hw17 z3_16 r3_16 c3_16
            obtain ⟨r7_17, c7_17, z7_17⟩ := keepZ hw17 z7_16 r7_16 c7_16
            obtain ⟨hb17, q17⟩ := bN hb16 hw17
            clear hw17 r2_16 c2_16 z2_16 r3_16 c3_16 z3_16 r7_16 c7_16 z7_16 hb16
            go_wp2_with fail
            go_ret
            exact ⟨ret_bool (by rw [H.out]), bt⟩
           ·
            have HM := Lib.hid (mtab_bt (hop_bytes Hf.out) (i := i) (j := j) (by omega) (by omega))
            have HG := Lib.hid (rowOf_bytes HF.out (i := i) (by omega))
            have HA := Lib.hid (act_bytes HF.out (i := j) (j := k) (by omega) (by omega))
            have e1 := mdl_act64 d F i (by omega)
            have e2 := mdl_act8 d F j k (by omega) (by omega)
            have e3 := hop_mul8 p n f i j (by omega) (by omega)
            have l1 : 1 + i * 64 + 64 ≤ 513 := by omega
            have l2 : 1 + j * 64 + k * 8 + 8 ≤ 513 := by omega
            have l3 : 1 + j * 64 + 64 ≤ 513 := by omega
            have l4 : 10 + i * 64 + j * 8 + 8 ≤ 1106 := by omega
            have H := Lib.hid (upto_more (q := prodE p n f d F k i) HX16.out he)
            go_wp2
            refine wp_quiet_all (Below W16.heap.size W16) (by kernel_rfl) (by kernel_rfl) (Below.refl _ _).drew ?_
            iterate 9 (refine q_plain rfl ?_; apply Exists.intro; refine ⟨fun W hW => ?_, ?_⟩; (focus (obtain ⟨x2, y2⟩ := keepB hW z2_16 r2_16 c2_16; obtain ⟨x3, y3⟩ := keepB hW z3_16 r3_16 c3_16; obtain ⟨x7, y7⟩ := keepB hW z7_16 r7_16 c7_16; go_simp; first | done | rfl)); simp only [Act.put, List.setIfInBounds_toArray, List.set_cons_zero, List.set_cons_succ])
            (refine q_plain rfl ?_; apply Exists.intro; refine ⟨fun W hW => ?_, ?_⟩; (focus (obtain ⟨x2, y2⟩ := keepB hW z2_16 r2_16 c2_16; obtain ⟨x3, y3⟩ := keepB hW z3_16 r3_16 c3_16; obtain ⟨x7, y7⟩ := keepB hW z7_16 r7_16 c7_16; go_simp; (go_at_call 125; exact (l06Act_any p n d f F (mtab f i j) (ebas k) _ hp hp' hd HF.out hn HM.out (ebas_bytes k)).mono fun e w2 ⟨he, hw2⟩ => ⟨he, hW.trans (hw2.mono hW.size)⟩))); simp only [Act.put, List.setIfInBounds_toArray, List.set_cons_zero, List.set_cons_succ])
            iterate 14 (refine q_plain rfl ?_; apply Exists.intro; refine ⟨fun W hW => ?_, ?_⟩; (focus (obtain ⟨x2, y2⟩ := keepB hW z2_16 r2_16 c2_16; obtain ⟨x3, y3⟩ := keepB hW z3_16 r3_16 c3_16; obtain ⟨x7, y7⟩ := keepB hW z7_16 r7_16 c7_16; go_simp; first | done | rfl)); simp only [Act.put, List.setIfInBounds_toArray, List.set_cons_zero, List.set_cons_succ])
            (refine q_plain rfl ?_; apply Exists.intro; refine ⟨fun W hW => ?_, ?_⟩; (focus (obtain ⟨x2, y2⟩ := keepB hW z2_16 r2_16 c2_16; obtain ⟨x3, y3⟩ := keepB hW z3_16 r3_16 c3_16; obtain ⟨x7, y7⟩ := keepB hW z7_16 r7_16 c7_16; go_simp; (go_at_call 33; exact (applyAct p d F (act F j k) i _ hp hp' hd HG.out HA.out).mono fun e w2 ⟨he, hw2⟩ => ⟨he, hW.trans (hw2.mono hW.size)⟩))); simp only [Act.put, List.setIfInBounds_toArray, List.set_cons_zero, List.set_cons_succ])
            iterate 1 (refine q_plain rfl ?_; apply Exists.intro; refine ⟨fun W hW => ?_, ?_⟩; (focus (obtain ⟨x2, y2⟩ := keepB hW z2_16 r2_16 c2_16; obtain ⟨x3, y3⟩ := keepB hW z3_16 r3_16 c3_16; obtain ⟨x7, y7⟩ := keepB hW z7_16 r7_16 c7_16; go_simp; first | done | rfl)); simp only [Act.put, List.setIfInBounds_toArray, List.set_cons_zero, List.set_cons_succ])
            refine wpQuiet_nil ?_
            intro W18 hw18
            obtain ⟨r2_18, c2_18, z2_18⟩ := keepZ hw18 z2_16 r2_16 c2_16
            obtain ⟨r3_18, c3_18, z3_18⟩ := keepZ hw18 z3_16 r3_16 c3_16
            obtain ⟨r7_18, c7_18, z7_18⟩ := keepZ hw18 z7_16 r7_16 c7_16
            obtain ⟨hb18, q18⟩ := bN hb16 hw18
            clear hw18 r2_16 c2_16 z2_16 r3_16 c3_16 z3_16 r7_16 c7_16 z7_16 hb16
            go_wp2
            go_roundw
            case rel => exact ⟨j + 1, by omega, by go_num, bt, ⟨by simp [go_sem, r2_18, c2_18, n2_7, r3_18, c3_18, n3_7, r7_18, c7_18, n7_2, n7_3], (by rw [E2_16.out]; first | exact c2_18 | (simp [go_sem, r2_18, c2_18, n2_7, r3_18, c3_18, n3_7, r7_18, c7_18, n7_2, n7_3]; done))⟩, ⟨by simp [go_sem, r2_18, c2_18, n2_7, r3_18, c3_18, n3_7, r7_18, c7_18, n7_2, n7_3], (by rw [E3_16.out]; first | exact c3_18 | (simp [go_sem, r2_18, c2_18, n2_7, r3_18, c3_18, n3_7, r7_18, c7_18, n7_2, n7_3]; done))⟩, ⟨by simp [go_sem, r2_18, c2_18, n2_7, r3_18, c3_18, n3_7, r7_18, c7_18, n7_2, n7_3], (by rw [E7_16.out]; first | exact c7_18 | (simp [go_sem, r2_18, c2_18, n2_7, r3_18, c3_18, n3_7, r7_18, c7_18, n7_2, n7_3]; done))⟩, H.out⟩
            case measure => simp [intOf]; try omega
          ·
           obtain rfl : n = j := by omega
           have H := Lib.hid (prods_more HI.out HX16.out)
           go_wp2
           go_roundw
           case rel => exact ⟨i + 1, by omega, by go_num, bt, ⟨by simp [go_sem, r2_16, c2_16, n2_7, r3_16, c3_16, n3_7, r7_16, c7_16, n7_2, n7_3], (by rw [E2_15.out]; first | exact c2_16 | (simp [go_sem, r2_16, c2_16, n2_7, r3_16, c3_16, n3_7, r7_16, c7_16, n7_2, n7_3]; done))⟩, ⟨by simp [go_sem, r2_16, c2_16, n2_7, r3_16, c3_16, n3_7, r7_16, c7_16, n7_2, n7_3], (by rw [E3_15.out]; first | exact c3_16 | (simp [go_sem, r2_16, c2_16, n2_7, r3_16, c3_16, n3_7, r7_16, c7_16, n7_2, n7_3]; done))⟩, ⟨by simp [go_sem, r2_16, c2_16, n2_7, r3_16, c3_16, n3_7, r7_16, c7_16, n7_2, n7_3], (by rw [E7_15.out]; first | exact c7_16 | (simp [go_sem, r2_16, c2_16, n2_7, r3_16, c3_16, n3_7, r7_16, c7_16, n7_2, n7_3]; done))⟩, H.out⟩
           case measure => simp [intOf]; try omega
        ·
         obtain rfl : n = i := by omega
         have H := Lib.hid (upto_more (q := rowE p n f d F) HK.out (rowE_yes Hu.out HX15.out))
         go_wp2
         go_roundw
         case rel => exact ⟨k + 1, by omega, by go_num, bt, ⟨by simp [go_sem, r2_15, c2_15, n2_7, r3_15, c3_15, n3_7, r7_15, c7_15, n7_2, n7_3], (by rw [E2_8.out]; first | exact c2_15 | (simp [go_sem, r2_15, c2_15, n2_7, r3_15, c3_15, n3_7, r7_15, c7_15, n7_2, n7_3]; done))⟩, ⟨by simp [go_sem, r2_15, c2_15, n2_7, r3_15, c3_15, n3_7, r7_15, c7_15, n7_2, n7_3], (by rw [E3_8.out]; first | exact c3_15 | (simp [go_sem, r2_15, c2_15, n2_7, r3_15, c3_15, n3_7, r7_15, c7_15, n7_2, n7_3]; done))⟩, H.out⟩
         case measure => simp [intOf]; try omega
     ·
      obtain rfl : d = k := by omega
      have H := Lib.hid (modB_yes hd1 hd HE.out HX8.out)
      go_wp2_with fail
      go_ret
      exact ⟨ret_bool (by rw [H.out] <;> rfl), bt⟩

end Go.Proofs.YtjmmmggnbndolaaGreat
