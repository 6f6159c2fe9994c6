/- Characters of modules. -/
import Derived.Test.YtfmhgfnadgaiaaaGreatM3
import Derived.Test.YtfmhgfnadgaiaaaGreatP16
namespace Go.Proofs.YtfmhgfnadgaiaaaGreat
open Go.RowKit
set_option linter.unusedSimpArgs false
set_option linter.unusedVariables false
attribute [local irreducible] wpQuiet wpQE

def chF (p : Int) (d : Nat) (F : Nat → Int) (i : Nat) : Int := dsum (rowOf 64 F i) d % p
/-- the characters of the first i -/
def chK (p : Int) (d : Nat) (F : Nat → Int) (i : Nat) : Nat → Int := fun t => if t < i then chF p d F t else 0
theorem ch_zero (p : Int) (d : Nat) (F : Nat → Int) : row 8 zf = row 8 (chK p d F 0) := row_congr fun t _ => by unfold chK zf; rw [if_neg (by omega)]
theorem ch_step (p : Int) (d : Nat) (F : Nat → Int) (i : Nat) : row 8 (upd (chK p d F i) i (chF p d F i)) = row 8 (chK p d F (i + 1)) := row_congr fun t _ => by
  unfold upd chK
  by_cases h : t = i
  · subst h; rw [if_pos rfl, if_pos (by omega)]
  · rw [if_neg h]
    exact ifj (by omega) _
theorem dsum_sum (F : Nat → Int) : ∀ n, dsum F n = sumTo (fun k => F (k * 8 + k)) n
  | 0 => rfl
  | n + 1 => by rw [dsum, sumTo, dsum_sum F n]
theorem ch_act {p : Int} {n d : Nat} {F : Nat → Int} (hS : ModS p n d F) (hd : d ≤ 8) {i : Nat} (hi : i < 8) : dsum (actT p d F (ebas i)) 8 % p = chF p d F i := by
  unfold chF
  rw [dsum_sum, dsum_sum, sumTo_more (n := d) (fun k h1 h2 => actT_low h1 h2) hd]
  exact congrArg (· % p) (sumTo_congr d fun k hk => actT_basis hS hd hi hk (by omega))

set_option maxRecDepth 100000 in
set_option maxHeartbeats 1000000 in
theorem trace_any (p : Int) (F : Nat → Int) (w : World) (hp : 0 < p) (hp' : p ≤ 255) (hF : Bytes 64 F) :
    Calls Tryz.prog 117 #[.int .i64 p, .agg (row 64 F)] w fun e w' => e = .returned (.int .i64 (dsum F 8 % p)) ∧ Below w.heap.size w w' := by
 have HF := Lib.hid hF; clear hF
 go_enter Tryz.func117, Tryz.ntmps117
 go_wp2
 refine atomW fun W1 e1 => ?_
 have hb1 : Below w.heap.size w W1 := by rw [e1]; exact bt
 have q1 := hb1.size
 clear e1
 go_loopw [5, 9] (fun s5 s9 wr => ∃ i : Nat, i ≤ 8 ∧ s5 = .int .i64 (dsum F i) ∧ s9 = .int .i64 i ∧ Below w.heap.size w wr) (fun _ s9 _ => 8 - (intOf s9).toNat)
 case atStart => exact ⟨0, by omega, rfl, rfl, hb1⟩
 case round =>
  obtain ⟨i, hle2, rfl, rfl, hb2⟩ := hrel
  obtain ⟨W2, rfl⟩ : ∃ W2 : World, W2 = wr := ⟨_, rfl⟩
  have q2 := hb2.size
  clear hb1
  have b1 := (dsum_le HF.out i (by omega)).1
  have b2 := (dsum_le HF.out i (by omega)).2
  by_cases hlt2 : i < 8
  ·
   have i0_2 : (0 : Int) ≤ (i : Int) := by omega
   have i8_2 : (i : Int) < 8 := by omega
   have k8_2 : i < 8 := by omega
   have m8_2 : i * 8 + 8 ≤ 64 := by omega
   have m64_2 : i * 64 + 64 ≤ 512 := by omega
   have l1_2 : 10 + i * 64 + 64 ≤ 522 := by omega
   have hk9 : i * 8 + i < 64 := by omega
   have b3 := (HF.out (i * 8 + i) hk9).1
   have b4 := (HF.out (i * 8 + i) hk9).2
   have q1 : IntKind.i64.wrap (F (i * 8 + i)) = F (i * 8 + i) := IntWalk.i64_in _ (by omega)
   have q2 : IntKind.i64.wrap (dsum F i + F (i * 8 + i)) = dsum F i + F (i * 8 + i) := IntWalk.i64_in _ (by omega)
   go_wp2
   go_roundw
   case rel => exact ⟨i + 1, by omega, rfl, by go_num, bt⟩
   case measure => simp [intOf]; try omega
  ·
   obtain rfl : i = 8 := by omega
   have h3 := (mod_range (dsum F 8) p hp).1
   have h4 := (mod_range (dsum F 8) p hp).2
   go_wp2_with fail
   go_ret
   exact ⟨rfl, bt⟩

set_option maxRecDepth 100000 in
set_option maxHeartbeats 1000000 in
theorem character_any (p : Int) (n d : Nat) (f F : Nat → Int) (w : World) (hp : 0 < p) (hp' : p ≤ 255) (hn : n ≤ 8) (hd : d ≤ 8) (hF : Bytes 512 F) (hS : ModS p n d F) :
    Calls Tryz.prog 71 #[.agg (hop p n f), .iface 41 (.agg (mdl d F))] w fun e w' => e = .returned (.agg (row 8 (chK p d F n))) ∧ Below w.heap.size w w' := by
 have HF := Lib.hid hF; clear hF
 have HS := Lib.hid hS; clear hS
 go_enter Tryz.func71, Tryz.ntmps71
 go_wp2
 refine atomW fun W1 e1 => ?_
 have hb1 : Below w.heap.size w W1 := by rw [e1]; exact bt
 have q1 := hb1.size
 have R1 : IsRow W1 (w.heap.size) ∧ IsRow W1 (w.heap.size + 1) ∧ IsRow W1 (w.heap.size + 2) := by rw [e1]; simp [go_sem]
 obtain ⟨r2_1, r4_1, r5_1⟩ := R1
 have C1 := (⟨congrArg (blk · (w.heap.size)) e1, congrArg (blk · (w.heap.size + 1)) e1, congrArg (blk · (w.heap.size + 2)) e1⟩ : _ ∧ _ ∧ _); simp [go_sem] at C1
 obtain ⟨c2_1, c4_1, c5_1⟩ := C1
 have z2_1 := isRow_lt r2_1; have z4_1 := isRow_lt r4_1; have z5_1 := isRow_lt r5_1
 clear e1
 go_loopw [9] (fun s9 wr => ∃ i : Nat, i ≤ n ∧ s9 = .int .i64 i ∧ Below w.heap.size w wr ∧ (IsRow wr (w.heap.size) ∧ blk wr (w.heap.size) = blk W1 (w.heap.size)) ∧ (IsRow wr (w.heap.size + 1) ∧ blk wr (w.heap.size + 1) = blk W1 (w.heap.size + 1)) ∧ (IsRow wr (w.heap.size + 2) ∧ blk wr (w.heap.size + 2) = row 8 (chK p d F i))) (fun s9 _ => n - (intOf s9).toNat)
 case atStart => exact ⟨0, by omega, rfl, hb1, ⟨r2_1, rfl⟩, ⟨r4_1, rfl⟩, ⟨r5_1, c5_1.trans (ch_zero p d F)⟩⟩
 case round =>
  obtain ⟨i, hle2, rfl, hb2, ⟨r2_2, c2_2⟩, ⟨r4_2, c4_2⟩, ⟨r5_2, c5_2⟩⟩ := hrel
  obtain ⟨W2, rfl⟩ : ∃ W2 : World, W2 = wr := ⟨_, rfl⟩
  have q2 := hb2.size
  have E2_2 := Lib.hid c2_1; replace c2_2 := c2_2.trans c2_1
  have z2_2 := isRow_lt r2_2
  have E4_2 := Lib.hid c4_1; replace c4_2 := c4_2.trans c4_1
  have z4_2 := isRow_lt r4_2
  have z5_2 := isRow_lt r5_2
  clear r2_1 c2_1 z2_1 r4_1 c4_1 z4_1 r5_1 c5_1 z5_1 hb1
  by_cases hlt2 : i < n
  ·
   have i0_2 : (0 : Int) ≤ (i : Int) := by omega
   have i8_2 : (i : Int) < 8 := by omega
   have k8_2 : i < 8 := by omega
   have m8_2 : i * 8 + 8 ≤ 64 := by omega
   have m64_2 : i * 64 + 64 ≤ 512 := by omega
   have l1_2 : 10 + i * 64 + 64 ≤ 522 := by omega
   have A1 := Lib.hid (actT_bytes hp hp' d F (ebas i))
   have e0 := ch_act HS.out hd (i := i) (by omega)
   have b1 := mod_range (dsum (rowOf 64 F i) d) p hp
   have q1 : IntKind.u8.wrap (chF p d F i) = chF p d F i := IntWalk.u8_in _ (by unfold chF; omega)
   go_wp2
   refine wp_quiet_tail 12 (Below W2.heap.size W2) (by kernel_rfl) (by kernel_rfl) (Below.refl _ _).drew ?_
   simp only [List.take_succ_cons, List.take_zero, List.drop_succ_cons, List.drop_zero]
   iterate 7 (refine q_plain rfl ?_; apply Exists.intro; refine ⟨fun W hW => ?_, ?_⟩; (focus (obtain ⟨x2, y2⟩ := keepB hW z2_2 r2_2 c2_2; obtain ⟨x4, y4⟩ := keepB hW z4_2 r4_2 c4_2; obtain ⟨x5, y5⟩ := keepB hW z5_2 r5_2 c5_2; go_simp; first | done | rfl)); simp only [Act.put, List.setIfInBounds_toArray, List.set_cons_zero, List.set_cons_succ])
   (refine q_plain rfl ?_; apply Exists.intro; refine ⟨fun W hW => ?_, ?_⟩; (focus (obtain ⟨x2, y2⟩ := keepB hW z2_2 r2_2 c2_2; obtain ⟨x4, y4⟩ := keepB hW z4_2 r4_2 c4_2; obtain ⟨x5, y5⟩ := keepB hW z5_2 r5_2 c5_2; go_simp; (go_at_call 113; exact (basisAt i (by omega) _).mono fun e w2 ⟨he, hw2⟩ => ⟨he, hW.trans (hw2.mono hW.size)⟩))); simp only [Act.put, List.setIfInBounds_toArray, List.set_cons_zero, List.set_cons_succ])
   (refine q_plain rfl ?_; apply Exists.intro; refine ⟨fun W hW => ?_, ?_⟩; (focus (obtain ⟨x2, y2⟩ := keepB hW z2_2 r2_2 c2_2; obtain ⟨x4, y4⟩ := keepB hW z4_2 r4_2 c4_2; obtain ⟨x5, y5⟩ := keepB hW z5_2 r5_2 c5_2; go_simp; (go_at_call 112; exact (actTable_any p d F (ebas i) _ hp hp' hd HF.out (ebas_bytes i)).mono fun e w2 ⟨he, hw2⟩ => ⟨he, hW.trans (hw2.mono hW.size)⟩))); simp only [Act.put, List.setIfInBounds_toArray, List.set_cons_zero, List.set_cons_succ])
   (refine q_plain rfl ?_; apply Exists.intro; refine ⟨fun W hW => ?_, ?_⟩; (focus (obtain ⟨x2, y2⟩ := keepB hW z2_2 r2_2 c2_2; obtain ⟨x4, y4⟩ := keepB hW z4_2 r4_2 c4_2; obtain ⟨x5, y5⟩ := keepB hW z5_2 r5_2 c5_2; go_simp; (go_at_call 117; exact (trace_any p (actT p d F (ebas i)) _ hp hp' A1.out).mono fun e w2 ⟨he, hw2⟩ => ⟨he, hW.trans (hw2.mono hW.size)⟩))); simp only [Act.put, List.setIfInBounds_toArray, List.set_cons_zero, List.set_cons_succ])
   iterate 2 (refine q_plain rfl ?_; apply Exists.intro; refine ⟨fun W hW => ?_, ?_⟩; (focus (obtain ⟨x2, y2⟩ := keepB hW z2_2 r2_2 c2_2; obtain ⟨x4, y4⟩ := keepB hW z4_2 r4_2 c4_2; obtain ⟨x5, y5⟩ := keepB hW z5_2 r5_2 c5_2; go_simp; first | done | rfl)); simp only [Act.put, List.setIfInBounds_toArray, List.set_cons_zero, List.set_cons_succ])
   refine wpQuiet_nil ?_
   intro W3 hw3
   obtain ⟨r2_3, c2_3, z2_3⟩ := keepZ hw3 z2_2 r2_2 c2_2
   obtain ⟨r4_3, c4_3, z4_3⟩ := keepZ hw3 z4_2 r4_2 c4_2
   obtain ⟨r5_3, c5_3, z5_3⟩ := keepZ hw3 z5_2 r5_2 c5_2
   obtain ⟨hb3, q3⟩ := bN hb2 hw3
   clear hw3 r2_2 c2_2 z2_2 r4_2 c4_2 z4_2 r5_2 c5_2 z5_2 hb2
   go_wp2
   go_roundw
   case rel => exact ⟨i + 1, by omega, by go_num, bt, ⟨by simp [go_sem, r2_3, c2_3, r4_3, c4_3, r5_3, c5_3], (by rw [E2_2.out]; first | exact c2_3 | (simp [go_sem, r2_3, c2_3, r4_3, c4_3, r5_3, c5_3]; done))⟩, ⟨by simp [go_sem, r2_3, c2_3, r4_3, c4_3, r5_3, c5_3], (by rw [E4_2.out]; first | exact c4_3 | (simp [go_sem, r2_3, c2_3, r4_3, c4_3, r5_3, c5_3]; done))⟩, ⟨by simp [go_sem, r2_3, c2_3, r4_3, c4_3, r5_3, c5_3], (by first | (rw [blk_setRow _ _ _ _ r5_3, if_pos rfl]; exact ch_step p d F i) | exact (c5_3).trans (ch_step p d F i) | (simp [go_sem, r2_3, c2_3, r4_3, c4_3, r5_3, c5_3]; exact ch_step p d F i))⟩⟩
   case measure => simp [intOf]; try omega
  ·
   obtain rfl : n = i := by omega
   go_wp2_with fail
   refine bodyPost_ret (result_cell rfl aggVec _ _ (row 8 (chK p d F n)) _ rfl ?_ ?_) rfl ⟨rfl, ?_⟩
   · simp [go_sem, r2_2, c2_2, r4_2, c4_2, r5_2, c5_2]
   · simp [go_sem, r2_2, c2_2, r4_2, c4_2, r5_2, c5_2]
   · exact bt

set_option maxRecDepth 100000 in
set_option maxHeartbeats 1000000 in
theorem ofModule_ch (p n : Int) (f : Nat → Int) (d : Int) (F : Nat → Int) (w : World) (hf : Bytes 1104 f) (hF : Bytes 512 F) :
    Calls Tryz.prog 70 #[.agg (hop p n f), .agg (mdl d F), .func (.func 71) #[] #[]] w fun e w' => e = .returned (.tuple #[.agg (row 8 (onlyF (hm1 p n f d F) (chK p d.toNat F n.toNat))), .int .i64 (codeB (hm1 p n f d F))]) ∧ Below w.heap.size w w' := by
 have Hf := Lib.hid hf; clear hf
 have HF := Lib.hid hF; clear hF
 cases hc : hm1 p n f d F
 ·
  go_enter Tryz.func70, Tryz.ntmps70
  go_wp2_with fail
  refine atomC fun W1 e1 => ?_
  have hb1 : Below w.heap.size w W1 := by rw [e1]; exact bt
  have q1 := hb1.size
  have R1 : IsRow W1 (w.heap.size) ∧ IsRow W1 (w.heap.size + 1) ∧ IsRow W1 (w.heap.size + 2) ∧ IsRow W1 (w.heap.size + 3) := by rw [e1]; simp [go_sem]
  obtain ⟨r3_1, r4_1, r6_1, r11_1⟩ := R1
  have C1 := (⟨congrArg (blk · (w.heap.size)) e1, congrArg (blk · (w.heap.size + 1)) e1, congrArg (blk · (w.heap.size + 2)) e1, congrArg (blk · (w.heap.size + 3)) e1⟩ : _ ∧ _ ∧ _ ∧ _); simp [go_sem] at C1
  obtain ⟨c3_1, c4_1, c6_1, c11_1⟩ := C1
  have z3_1 := isRow_lt r3_1; have z4_1 := isRow_lt r4_1; have z6_1 := isRow_lt r6_1; have z11_1 := isRow_lt r11_1
  clear e1
  refine (areMod1 p n f d F _ _ Hf.out HF.out r11_1 c11_1).mono ?_; rintro _ W2 ⟨rfl, hw2⟩
  obtain ⟨r3_2, c3_2, z3_2⟩ := keepZ hw2 z3_1 r3_1 c3_1
  obtain ⟨r4_2, c4_2, z4_2⟩ := keepZ hw2 z4_1 r4_1 c4_1
  obtain ⟨r6_2, c6_2, z6_2⟩ := keepZ hw2 z6_1 r6_1 c6_1
  obtain ⟨r11_2, c11_2, z11_2⟩ := keepZ hw2 z11_1 r11_1 c11_1
  obtain ⟨hb2, q2⟩ := bN hb1 hw2
  clear hw2 r3_1 c3_1 z3_1 r4_1 c4_1 z4_1 r6_1 c6_1 z6_1 r11_1 c11_1 z11_1 hb1
  have nw3_W2_0 : (w.heap.size) ≠ W2.heap.size := by omega
  have nw4_W2_0 : (w.heap.size + 1) ≠ W2.heap.size := by omega
  have nw6_W2_0 : (w.heap.size + 2) ≠ W2.heap.size := by omega
  have nw11_W2_0 : (w.heap.size + 3) ≠ W2.heap.size := by omega
  go_wp2_with fail
  refine bodyPost_ret (result_cell_tmp rfl aggVec _ _ (row 8 zf) _ _ rfl rfl ?_ ?_) rfl ⟨by rfl, ?_⟩
  · simp [go_sem, r3_2, c3_2, r4_2, c4_2, r6_2, c6_2, r11_2, c11_2, nw3_W2_0, nw4_W2_0, nw6_W2_0, nw11_W2_0]
  · simp [go_sem, r3_2, c3_2, r4_2, c4_2, r6_2, c6_2, r11_2, c11_2, nw3_W2_0, nw4_W2_0, nw6_W2_0, nw11_W2_0]
  · exact bt
 ·
  have hh := (hm1_parts hc).1
  have hmm := (hm1_parts hc).2
  obtain ⟨hp2, hp31, hn1, hn8⟩ := sizes_range (hopf_sizes hh)
  obtain ⟨n, rfl⟩ := Int.eq_ofNat_of_zero_le (show 0 ≤ n by omega)
  have hp : 0 < p := by omega
  have hp' : p ≤ 255 := by omega
  have hn : n ≤ 8 := by omega
  have HH := Lib.hid hh
  rw [Int.toNat_natCast] at hmm
  obtain ⟨_, _, hd1, hd8⟩ := sizes_range (modB_sizes (hopf_sizes hh) hmm)
  obtain ⟨d, rfl⟩ := Int.eq_ofNat_of_zero_le (show 0 ≤ d by omega)
  have hd : d ≤ 8 := by omega
  have HS := Lib.hid (modB_shape HF.out hmm)
  clear hmm hh
  go_enter Tryz.func70, Tryz.ntmps70
  go_wp2_with fail
  refine atomC fun W3 e3 => ?_
  have hb3 : Below w.heap.size w W3 := by rw [e3]; exact bt
  have q3 := hb3.size
  have R3 : IsRow W3 (w.heap.size) ∧ IsRow W3 (w.heap.size + 1) ∧ IsRow W3 (w.heap.size + 2) ∧ IsRow W3 (w.heap.size + 3) := by rw [e3]; simp [go_sem]
  obtain ⟨r3_3, r4_3, r6_3, r11_3⟩ := R3
  have C3 := (⟨congrArg (blk · (w.heap.size)) e3, congrArg (blk · (w.heap.size + 1)) e3, congrArg (blk · (w.heap.size + 2)) e3, congrArg (blk · (w.heap.size + 3)) e3⟩ : _ ∧ _ ∧ _ ∧ _); simp [go_sem] at C3
  obtain ⟨c3_3, c4_3, c6_3, c11_3⟩ := C3
  have z3_3 := isRow_lt r3_3; have z4_3 := isRow_lt r4_3; have z6_3 := isRow_lt r6_3; have z11_3 := isRow_lt r11_3
  clear e3
  refine (areMod1 p n f d F _ _ Hf.out HF.out r11_3 c11_3).mono ?_; rintro _ W4 ⟨rfl, hw4⟩
  obtain ⟨r3_4, c3_4, z3_4⟩ := keepZ hw4 z3_3 r3_3 c3_3
  obtain ⟨r4_4, c4_4, z4_4⟩ := keepZ hw4 z4_3 r4_3 c4_3
  obtain ⟨r6_4, c6_4, z6_4⟩ := keepZ hw4 z6_3 r6_3 c6_3
  obtain ⟨r11_4, c11_4, z11_4⟩ := keepZ hw4 z11_3 r11_3 c11_3
  obtain ⟨hb4, q4⟩ := bN hb3 hw4
  clear hw4 r3_3 c3_3 z3_3 r4_3 c4_3 z4_3 r6_3 c6_3 z6_3 r11_3 c11_3 z11_3 hb3
  go_wp2_with fail
  refine (character_any p n d f F _ hp hp' hn hd HF.out HS.out).mono ?_; rintro _ W5 ⟨rfl, hw5⟩
  obtain ⟨r6_5, c6_5, z6_5⟩ := keepZ hw5 z6_4 r6_4 c6_4
  obtain ⟨hb5, q5⟩ := bN hb4 hw5
  clear hw5 r6_4 c6_4 z6_4 hb4
  go_wp2_with fail
  refine bodyPost_ret (result_cell_tmp rfl aggVec _ _ (row 8 (chK p d F n)) _ _ rfl rfl ?_ ?_) rfl ⟨by rfl, ?_⟩
  · simp [go_sem, r6_5, c6_5]
  · simp [go_sem, r6_5, c6_5]
  · exact bt

set_option maxRecDepth 100000 in
set_option maxHeartbeats 1000000 in
theorem characterOf_any (p n : Int) (f : Nat → Int) (d : Int) (F : Nat → Int) (w : World) (hf : Bytes 1104 f) (hF : Bytes 512 F) :
    Calls Tryz.prog 31 #[.agg (hop p n f), .agg (mdl d F)] w fun e w' => e = .returned (.tuple #[.agg (row 8 (onlyF (hm1 p n f d F) (chK p d.toNat F n.toNat))), .int .i64 (codeB (hm1 p n f d F))]) ∧ Below w.heap.size w w' := by
 have Hf := Lib.hid hf; clear hf
 have HF := Lib.hid hF; clear hF
 go_enter Tryz.func31, Tryz.ntmps31
 go_wp2_with fail
 refine atomC fun W1 e1 => ?_
 have hb1 : Below w.heap.size w W1 := by rw [e1]; exact bt
 have q1 := hb1.size
 have r4_1 : IsRow W1 (w.heap.size + 2) := by rw [e1]; simp [go_sem]
 have c4_1 := congrArg (fun x => blk x (w.heap.size + 2)) e1; simp [go_sem] at c4_1
 have z4_1 := isRow_lt r4_1
 clear e1
 refine (ofModule_ch _ _ _ _ _ _ Hf.out HF.out).mono ?_; rintro _ W2 ⟨rfl, hw2⟩
 obtain ⟨r4_2, c4_2, z4_2⟩ := keepZ hw2 z4_1 r4_1 c4_1
 obtain ⟨hb2, q2⟩ := bN hb1 hw2
 clear hw2 r4_1 c4_1 z4_1 hb1
 go_wp2_with fail
 refine bodyPost_ret (result_cell_tmp rfl aggVec _ _ (row 8 (onlyF (hm1 p n f d F) (chK p d.toNat F n.toNat))) _ _ rfl rfl ?_ ?_) rfl ⟨rfl, ?_⟩
 · simp [go_sem, r4_2, c4_2]
 · simp [go_sem, r4_2, c4_2]
 · exact bt

set_option maxRecDepth 100000 in
set_option maxHeartbeats 1000000 in
theorem specCharacterOf_any (p n : Int) (f : Nat → Int) (d : Int) (F : Nat → Int) (w : World) (hf : Bytes 1104 f) (hF : Bytes 512 F) :
    Calls Tryz.prog 30 #[.agg (hop p n f), .agg (mdl d F)] w fun e w' => e = .returned (.tuple #[.agg (row 8 (onlyF (hm1 p n f d F) (chK p d.toNat F n.toNat))), .int .i64 (codeB (hm1 p n f d F))]) ∧ Below w.heap.size w w' := by
 have Hf := Lib.hid hf; clear hf
 have HF := Lib.hid hF; clear hF
 cases hc : hm1 p n f d F
 ·
  have hc1 : codeB false = 1 := rfl
  go_enter Tryz.func30, Tryz.ntmps30
  go_wp2_with fail
  refine atomC fun W1 e1 => ?_
  have hb1 : Below w.heap.size w W1 := by rw [e1]; exact bt
  have q1 := hb1.size
  have R1 : IsRow W1 (w.heap.size) ∧ IsRow W1 (w.heap.size + 1) ∧ IsRow W1 (w.heap.size + 2) ∧ IsRow W1 (w.heap.size + 3) := by rw [e1]; simp [go_sem]
  obtain ⟨r2_1, r3_1, r4_1, r11_1⟩ := R1
  have C1 := (⟨congrArg (blk · (w.heap.size)) e1, congrArg (blk · (w.heap.size + 1)) e1, congrArg (blk · (w.heap.size + 2)) e1, congrArg (blk · (w.heap.size + 3)) e1⟩ : _ ∧ _ ∧ _ ∧ _); simp [go_sem] at C1
  obtain ⟨c2_1, c3_1, c4_1, c11_1⟩ := C1
  have z2_1 := isRow_lt r2_1; have z3_1 := isRow_lt r3_1; have z4_1 := isRow_lt r4_1; have z11_1 := isRow_lt r11_1
  clear e1
  refine (code1 p n f d F _ _ Hf.out HF.out r11_1 c11_1).mono ?_; rintro _ W2 ⟨rfl, hw2⟩
  obtain ⟨r2_2, c2_2, z2_2⟩ := keepZ hw2 z2_1 r2_1 c2_1
  obtain ⟨r3_2, c3_2, z3_2⟩ := keepZ hw2 z3_1 r3_1 c3_1
  obtain ⟨r4_2, c4_2, z4_2⟩ := keepZ hw2 z4_1 r4_1 c4_1
  obtain ⟨r11_2, c11_2, z11_2⟩ := keepZ hw2 z11_1 r11_1 c11_1
  obtain ⟨hb2, q2⟩ := bN hb1 hw2
  clear hw2 r2_1 c2_1 z2_1 r3_1 c3_1 z3_1 r4_1 c4_1 z4_1 r11_1 c11_1 z11_1 hb1
  go_wp2_with fail
  refine bodyPost_ret (result_cell_tmp rfl aggVec _ _ (row 8 zf) _ _ rfl rfl ?_ ?_) rfl ⟨by rfl, ?_⟩
  · simp [go_sem, r2_2, c2_2, r3_2, c3_2, r4_2, c4_2, r11_2, c11_2]
  · simp [go_sem, r2_2, c2_2, r3_2, c3_2, r4_2, c4_2, r11_2, c11_2]
  · exact bt
 ·
  have hh := (hm1_parts hc).1
  have hmm := (hm1_parts hc).2
  obtain ⟨hp2, hp31, hn1, hn8⟩ := sizes_range (hopf_sizes hh)
  obtain ⟨n, rfl⟩ := Int.eq_ofNat_of_zero_le (show 0 ≤ n by omega)
  have hp : 0 < p := by omega
  have hp' : p ≤ 255 := by omega
  have hn : n ≤ 8 := by omega
  have HH := Lib.hid hh
  rw [Int.toNat_natCast] at hmm
  obtain ⟨_, _, hd1, hd8⟩ := sizes_range (modB_sizes (hopf_sizes hh) hmm)
  obtain ⟨d, rfl⟩ := Int.eq_ofNat_of_zero_le (show 0 ≤ d by omega)
  have hd : d ≤ 8 := by omega
  have HS := Lib.hid (modB_shape HF.out hmm)
  clear hmm hh
  have hc1 : codeB true = 0 := rfl
  go_enter Tryz.func30, Tryz.ntmps30
  go_wp2_with fail
  refine atomC fun W3 e3 => ?_
  have hb3 : Below w.heap.size w W3 := by rw [e3]; exact bt
  have q3 := hb3.size
  have R3 : IsRow W3 (w.heap.size) ∧ IsRow W3 (w.heap.size + 1) ∧ IsRow W3 (w.heap.size + 2) ∧ IsRow W3 (w.heap.size + 3) := by rw [e3]; simp [go_sem]
  obtain ⟨r2_3, r3_3, r4_3, r11_3⟩ := R3
  have C3 := (⟨congrArg (blk · (w.heap.size)) e3, congrArg (blk · (w.heap.size + 1)) e3, congrArg (blk · (w.heap.size + 2)) e3, congrArg (blk · (w.heap.size + 3)) e3⟩ : _ ∧ _ ∧ _ ∧ _); simp [go_sem] at C3
  obtain ⟨c2_3, c3_3, c4_3, c11_3⟩ := C3
  have z2_3 := isRow_lt r2_3; have z3_3 := isRow_lt r3_3; have z4_3 := isRow_lt r4_3; have z11_3 := isRow_lt r11_3
  clear e3
  refine (code1 p n f d F _ _ Hf.out HF.out r11_3 c11_3).mono ?_; rintro _ W4 ⟨rfl, hw4⟩
  obtain ⟨r2_4, c2_4, z2_4⟩ := keepZ hw4 z2_3 r2_3 c2_3
  obtain ⟨r3_4, c3_4, z3_4⟩ := keepZ hw4 z3_3 r3_3 c3_3
  obtain ⟨r4_4, c4_4, z4_4⟩ := keepZ hw4 z4_3 r4_3 c4_3
  obtain ⟨r11_4, c11_4, z11_4⟩ := keepZ hw4 z11_3 r11_3 c11_3
  obtain ⟨hb4, q4⟩ := bN hb3 hw4
  clear hw4 r2_3 c2_3 z2_3 r3_3 c3_3 z3_3 r4_3 c4_3 z4_3 r11_3 c11_3 z11_3 hb3
  go_wp2
  have nw2_W4_0 : (w.heap.size) ≠ W4.heap.size := by omega
  have nw3_W4_0 : (w.heap.size + 1) ≠ W4.heap.size := by omega
  have nw4_W4_0 : (w.heap.size + 2) ≠ W4.heap.size := by omega
  refine atomW fun W5 e5 => ?_
  have hb5 : Below w.heap.size w W5 := by rw [e5]; exact bt
  have q5 := hb5.size
  have R5 : IsRow W5 (w.heap.size) ∧ IsRow W5 (w.heap.size + 1) ∧ IsRow W5 (w.heap.size + 2) ∧ IsRow W5 (W4.heap.size) := by rw [e5]; simp [go_sem, r2_4, c2_4, r3_4, c3_4, r4_4, c4_4, nw2_W4_0, nw3_W4_0, nw4_W4_0, r11_4]
  obtain ⟨r2_5, r3_5, r4_5, r7_5⟩ := R5
  have C5 := (⟨congrArg (blk · (w.heap.size)) e5, congrArg (blk · (w.heap.size + 1)) e5, congrArg (blk · (w.heap.size + 2)) e5, congrArg (blk · (W4.heap.size)) e5⟩ : _ ∧ _ ∧ _ ∧ _); simp [go_sem, r2_4, c2_4, r3_4, c3_4, r4_4, c4_4, nw2_W4_0, nw3_W4_0, nw4_W4_0, r11_4] at C5
  obtain ⟨c2_5, c3_5, c4_5, c7_5⟩ := C5
  have z2_5 := isRow_lt r2_5; have z3_5 := isRow_lt r3_5; have z4_5 := isRow_lt r4_5; have z7_5 := isRow_lt r7_5
  have n2_7 : (w.heap.size) ≠ (W4.heap.size) := by omega
  have n3_7 : (w.heap.size + 1) ≠ (W4.heap.size) := by omega
  have n4_7 : (w.heap.size + 2) ≠ (W4.heap.size) := by omega
  have n7_2 : (W4.heap.size) ≠ (w.heap.size) := by omega
  have n7_3 : (W4.heap.size) ≠ (w.heap.size + 1) := by omega
  have n7_4 : (W4.heap.size) ≠ (w.heap.size + 2) := by omega
  clear e5 nw2_W4_0 nw3_W4_0 nw4_W4_0 r2_4 c2_4 z2_4 r3_4 c3_4 z3_4 r4_4 c4_4 z4_4 hb4
  go_loopw [8] (fun s8 wr => ∃ i : Nat, i ≤ n ∧ s8 = .int .i64 i ∧ Below w.heap.size w wr ∧ (IsRow wr (w.heap.size) ∧ blk wr (w.heap.size) = blk W5 (w.heap.size)) ∧ (IsRow wr (w.heap.size + 1) ∧ blk wr (w.heap.size + 1) = blk W5 (w.heap.size + 1)) ∧ (IsRow wr (w.heap.size + 2) ∧ blk wr (w.heap.size + 2) = blk W5 (w.heap.size + 2)) ∧ (IsRow wr (W4.heap.size) ∧ blk wr (W4.heap.size) = row 8 (chK p d F i))) (fun s8 _ => n - (intOf s8).toNat)
  case atStart => exact ⟨0, by omega, rfl, hb5, ⟨r2_5, rfl⟩, ⟨r3_5, rfl⟩, ⟨r4_5, rfl⟩, ⟨r7_5, c7_5.trans (ch_zero p d F)⟩⟩
  case round =>
   obtain ⟨i, hle6, rfl, hb6, ⟨r2_6, c2_6⟩, ⟨r3_6, c3_6⟩, ⟨r4_6, c4_6⟩, ⟨r7_6, c7_6⟩⟩ := hrel
   obtain ⟨W6, rfl⟩ : ∃ W6 : World, W6 = wr := ⟨_, rfl⟩
   have q6 := hb6.size
   have E2_6 := Lib.hid c2_5; replace c2_6 := c2_6.trans c2_5
   have z2_6 := isRow_lt r2_6
   have E3_6 := Lib.hid c3_5; replace c3_6 := c3_6.trans c3_5
   have z3_6 := isRow_lt r3_6
   have E4_6 := Lib.hid c4_5; replace c4_6 := c4_6.trans c4_5
   have z4_6 := isRow_lt r4_6
   have z7_6 := isRow_lt r7_6
   clear r2_5 c2_5 z2_5 r3_5 c3_5 z3_5 r4_5 c4_5 z4_5 r7_5 c7_5 z7_5 hb5
   by_cases hlt6 : i < n
   ·
    have i0_6 : (0 : Int) ≤ (i : Int) := by omega
    have i8_6 : (i : Int) < 8 := by omega
    have k8_6 : i < 8 := by omega
    have m8_6 : i * 8 + 8 ≤ 64 := by omega
    have m64_6 : i * 64 + 64 ≤ 512 := by omega
    have l1_6 : 10 + i * 64 + 64 ≤ 522 := by omega
    have HG := Lib.hid (rowOf_bytes HF.out (i := i) (by omega))
    have e1 := mdl_act64 d F i (by omega)
    have l1 : 1 + i * 64 + 64 ≤ 513 := by omega
    have b1 := mod_range (dsum (rowOf 64 F i) d) p hp
    have e2 : dsum (rowOf 64 F i) d % p % p = chF p d F i := Int.emod_emod _ _
    go_wp2
    refine wp_quiet_tail 14 (Below W6.heap.size W6) (by kernel_rfl) (by kernel_rfl) (Below.refl _ _).drew ?_
    simp only [List.take_succ_cons, List.take_zero, List.drop_succ_cons, List.drop_zero]
    iterate 11 (refine q_plain rfl ?_; apply Exists.intro; refine ⟨fun W hW => ?_, ?_⟩; (focus (obtain ⟨x2, y2⟩ := keepB hW z2_6 r2_6 c2_6; obtain ⟨x3, y3⟩ := keepB hW z3_6 r3_6 c3_6; obtain ⟨x4, y4⟩ := keepB hW z4_6 r4_6 c4_6; obtain ⟨x7, y7⟩ := keepB hW z7_6 r7_6 c7_6; go_simp; first | done | rfl)); simp only [Act.put, List.setIfInBounds_toArray, List.set_cons_zero, List.set_cons_succ])
    (refine q_plain rfl ?_; apply Exists.intro; refine ⟨fun W hW => ?_, ?_⟩; (focus (obtain ⟨x2, y2⟩ := keepB hW z2_6 r2_6 c2_6; obtain ⟨x3, y3⟩ := keepB hW z3_6 r3_6 c3_6; obtain ⟨x4, y4⟩ := keepB hW z4_6 r4_6 c4_6; obtain ⟨x7, y7⟩ := keepB hW z7_6 r7_6 c7_6; go_simp; (go_at_call 69; exact (l01Trace_any p d (rowOf 64 F i) _ hp hp' hd HG.out).mono fun e w2 ⟨he, hw2⟩ => ⟨he, hW.trans (hw2.mono hW.size)⟩))); simp only [Act.put, List.setIfInBounds_toArray, List.set_cons_zero, List.set_cons_succ])
    (refine q_plain rfl ?_; apply Exists.intro; refine ⟨fun W hW => ?_, ?_⟩; (focus (obtain ⟨x2, y2⟩ := keepB hW z2_6 r2_6 c2_6; obtain ⟨x3, y3⟩ := keepB hW z3_6 r3_6 c3_6; obtain ⟨x4, y4⟩ := keepB hW z4_6 r4_6 c4_6; obtain ⟨x7, y7⟩ := keepB hW z7_6 r7_6 c7_6; go_simp; (go_at_call 68; exact (l01Mod_any p (dsum (rowOf 64 F i) d % p) _ hp hp' (by omega) (by omega)).mono fun e w2 ⟨he, hw2⟩ => ⟨he, hw2 ▸ hW⟩))); simp only [Act.put, List.setIfInBounds_toArray, List.set_cons_zero, List.set_cons_succ])
    iterate 1 (refine q_plain rfl ?_; apply Exists.intro; refine ⟨fun W hW => ?_, ?_⟩; (focus (obtain ⟨x2, y2⟩ := keepB hW z2_6 r2_6 c2_6; obtain ⟨x3, y3⟩ := keepB hW z3_6 r3_6 c3_6; obtain ⟨x4, y4⟩ := keepB hW z4_6 r4_6 c4_6; obtain ⟨x7, y7⟩ := keepB hW z7_6 r7_6 c7_6; go_simp; first | done | rfl)); simp only [Act.put, List.setIfInBounds_toArray, List.set_cons_zero, List.set_cons_succ])
    refine wpQuiet_nil ?_
    intro W7 hw7
    obtain ⟨r2_7, c2_7, z2_7⟩ := keepZ hw7 z2_6 r2_6 c2_6
    obtain ⟨r3_7, c3_7, z3_7⟩ := keepZ hw7 z3_6 r3_6 c3_6
    obtain ⟨r4_7, c4_7, z4_7⟩ := keepZ hw7 z4_6 r4_6 c4_6
    obtain ⟨r7_7, c7_7, z7_7⟩ := keepZ hw7 z7_6 r7_6 c7_6
    obtain ⟨hb7, q7⟩ := bN hb6 hw7
    clear hw7 r2_6 c2_6 z2_6 r3_6 c3_6 z3_6 r4_6 c4_6 z4_6 r7_6 c7_6 z7_6 hb6
    go_wp2
    go_roundw
    case rel => exact ⟨i + 1, by omega, by go_num, bt, ⟨by simp [go_sem, r2_7, c2_7, n2_7, r3_7, c3_7, n3_7, r4_7, c4_7, n4_7, r7_7, c7_7, n7_2, n7_3, n7_4], (by rw [E2_6.out]; first | exact c2_7 | (simp [go_sem, r2_7, c2_7, n2_7, r3_7, c3_7, n3_7, r4_7, c4_7, n4_7, r7_7, c7_7, n7_2, n7_3, n7_4]; done))⟩, ⟨by simp [go_sem, r2_7, c2_7, n2_7, r3_7, c3_7, n3_7, r4_7, c4_7, n4_7, r7_7, c7_7, n7_2, n7_3, n7_4], (by rw [E3_6.out]; first | exact c3_7 | (simp [go_sem, r2_7, c2_7, n2_7, r3_7, c3_7, n3_7, r4_7, c4_7, n4_7, r7_7, c7_7, n7_2, n7_3, n7_4]; done))⟩, ⟨by simp [go_sem, r2_7, c2_7, n2_7, r3_7, c3_7, n3_7, r4_7, c4_7, n4_7, r7_7, c7_7, n7_2, n7_3, n7_4], (by rw [E4_6.out]; first | exact c4_7 | (simp [go_sem, r2_7, c2_7, n2_7, r3_7, c3_7, n3_7, r4_7, c4_7, n4_7, r7_7, c7_7, n7_2, n7_3, n7_4]; done))⟩, ⟨by simp [go_sem, r2_7, c2_7, n2_7, r3_7, c3_7, n3_7, r4_7, c4_7, n4_7, r7_7, c7_7, n7_2, n7_3, n7_4], (by first | (rw [blk_setRow _ _ _ _ r7_7, if_pos rfl]; exact ch_step p d F i) | exact (c7_7).trans (ch_step p d F i) | (simp [go_sem, r2_7, c2_7, n2_7, r3_7, c3_7, n3_7, r4_7, c4_7, n4_7, r7_7, c7_7, n7_2, n7_3, n7_4]; exact ch_step p d F i))⟩⟩
    case measure => simp [intOf]; try omega
   ·
    obtain rfl : n = i := by omega
    go_wp2_with fail
    refine bodyPost_ret (result_cell_tmp rfl aggVec _ _ (row 8 (chK p d F n)) _ _ rfl rfl ?_ ?_) rfl ⟨by rfl, ?_⟩
    · simp [go_sem, r2_6, c2_6, n2_7, r3_6, c3_6, n3_7, r4_6, c4_6, n4_7, r7_6, c7_6, n7_2, n7_3, n7_4]
    · simp [go_sem, r2_6, c2_6, n2_7, r3_6, c3_6, n3_7, r4_6, c4_6, n4_7, r7_6, c7_6, n7_2, n7_3, n7_4]
    · exact bt

set_option maxRecDepth 100000 in
set_option maxHeartbeats 2000000 in
theorem lawCharacterOf (fp fn : Int) (f : Nat → Int) (md : Int) (m : Nat → Int) (w : World) (_wfp : (Lit.int .i64 fp).wf = true) (_wfn : (Lit.int .i64 fn).wf = true) (hf : Bytes 1104 f) (_wmd : (Lit.int .i64 md).wf = true) (hm : Bytes 512 m) :
    Calls Tryz.prog 8 #[.agg (hop fp fn f), .agg (mdl md m)] w fun e w' => e = .returned (.bool true) ∧ Below w.heap.size w w' := by
 have Hf := Lib.hid hf; clear hf
 have Hm := Lib.hid hm; clear hm
 go_enter Tryz.func8, Tryz.ntmps8
 go_wp2
 refine atomW fun W1 e1 => ?_
 have hb1 : Below w.heap.size w W1 := by rw [e1]; exact bt
 have q1 := hb1.size
 have R1 : IsRow W1 (w.heap.size) ∧ IsRow W1 (w.heap.size + 1) := by rw [e1]; simp [go_sem]
 obtain ⟨r2_1, r3_1⟩ := R1
 have C1 := (⟨congrArg (blk · (w.heap.size)) e1, congrArg (blk · (w.heap.size + 1)) e1⟩ : _ ∧ _); simp [go_sem] at C1
 obtain ⟨c2_1, c3_1⟩ := C1
 have z2_1 := isRow_lt r2_1; have z3_1 := isRow_lt r3_1
 clear e1
 refine wp_quiet_alloc_late 8 7 _ _ (.cells (row 8 zf) 29) (Below W1.heap.size W1) (Made W1 (row 8 zf)) (by kernel_rfl) rfl rfl rfl (by kernel_rfl) (by kernel_rfl) (fun c a w d v h => by cases d <;> exact h) (fun a W => (xallocVec _ _ _ _ _ _ _).trans (allocVec W)) (closed_below W1) (closed_made W1 _) (fun b W h => h.1) (fun W h => made_new W1 _ _ W h) (Below.refl _ _).drew ?_
 simp only [List.take_succ_cons, List.take_zero, List.drop_succ_cons, List.drop_zero]
 iterate 1 (refine e_plain rfl ?_; apply Exists.intro; refine ⟨fun D hD hK W hW => ?_, ?_⟩; (focus (obtain ⟨x2, y2⟩ := keepB (hD W hW) z2_1 r2_1 c2_1; obtain ⟨x3, y3⟩ := keepB (hD W hW) z3_1 r3_1 c3_1; unfold Oper.quietAt; go_simp; first | done | rfl)); simp only [Act.put, List.setIfInBounds_toArray, List.set_cons_zero, List.set_cons_succ])
 (refine e_plain rfl ?_; apply Exists.intro; refine ⟨fun D hD hK W hW => ?_, ?_⟩; (focus (obtain ⟨x2, y2⟩ := keepB (hD W hW) z2_1 r2_1 c2_1; obtain ⟨x3, y3⟩ := keepB (hD W hW) z3_1 r3_1 c3_1; unfold Oper.quietAt; go_simp; (go_at_call 15; exact (toHopf_any _ _ _ _).mono fun e w2 ⟨he, hw2⟩ => ⟨he, hK _ _ hW hw2⟩))); simp only [Act.put, List.setIfInBounds_toArray, List.set_cons_zero, List.set_cons_succ])
 iterate 1 (refine e_plain rfl ?_; apply Exists.intro; refine ⟨fun D hD hK W hW => ?_, ?_⟩; (focus (obtain ⟨x2, y2⟩ := keepB (hD W hW) z2_1 r2_1 c2_1; obtain ⟨x3, y3⟩ := keepB (hD W hW) z3_1 r3_1 c3_1; unfold Oper.quietAt; go_simp; first | done | rfl)); simp only [Act.put, List.setIfInBounds_toArray, List.set_cons_zero, List.set_cons_succ])
 (refine e_plain rfl ?_; apply Exists.intro; refine ⟨fun D hD hK W hW => ?_, ?_⟩; (focus (obtain ⟨x2, y2⟩ := keepB (hD W hW) z2_1 r2_1 c2_1; obtain ⟨x3, y3⟩ := keepB (hD W hW) z3_1 r3_1 c3_1; unfold Oper.quietAt; go_simp; (go_at_call 18; exact (toModule_any _ _ _).mono fun e w2 ⟨he, hw2⟩ => ⟨he, hK _ _ hW hw2⟩))); simp only [Act.put, List.setIfInBounds_toArray, List.set_cons_zero, List.set_cons_succ])
 (refine e_plain rfl ?_; apply Exists.intro; refine ⟨fun D hD hK W hW => ?_, ?_⟩; (focus (obtain ⟨x2, y2⟩ := keepB (hD W hW) z2_1 r2_1 c2_1; obtain ⟨x3, y3⟩ := keepB (hD W hW) z3_1 r3_1 c3_1; unfold Oper.quietAt; go_simp; (go_at_call 30; exact (specCharacterOf_any _ _ _ _ _ _ Hf.out Hm.out).mono fun e w2 ⟨he, hw2⟩ => ⟨he, hK _ _ hW hw2⟩))); simp only [Act.put, List.setIfInBounds_toArray, List.set_cons_zero, List.set_cons_succ])
 iterate 3 (refine e_plain rfl ?_; apply Exists.intro; refine ⟨fun D hD hK W hW => ?_, ?_⟩; (focus (obtain ⟨x2, y2⟩ := keepB (hD W hW) z2_1 r2_1 c2_1; obtain ⟨x3, y3⟩ := keepB (hD W hW) z3_1 r3_1 c3_1; unfold Oper.quietAt; go_simp; first | done | rfl)); simp only [Act.put, List.setIfInBounds_toArray, List.set_cons_zero, List.set_cons_succ])
 refine e_nil ?_
 intro a2 W2 hW2
 obtain ⟨hw2, hl2, m1_2, m2_2⟩ := hW2
 have n2_5 : (w.heap.size) ≠ (a2) := by have := z2_1; omega
 have n5_2 : (a2) ≠ (w.heap.size) := by have := z2_1; omega
 have n3_5 : (w.heap.size + 1) ≠ (a2) := by have := z3_1; omega
 have n5_3 : (a2) ≠ (w.heap.size + 1) := by have := z3_1; omega
 obtain ⟨r2_2, c2_2, z2_2⟩ := keepZ hw2 z2_1 r2_1 c2_1
 obtain ⟨r3_2, c3_2, z3_2⟩ := keepZ hw2 z3_1 r3_1 c3_1
 obtain ⟨hb2, q2⟩ := bN hb1 hw2
 clear hw2 r2_1 c2_1 z2_1 r3_1 c3_1 z3_1 hb1
 have z5_2 := isRow_lt m1_2
 simp only [Act.put, List.setIfInBounds_toArray, List.set_cons_zero, List.set_cons_succ]
 go_wp2
 refine atomW fun W3 e3 => ?_
 have hb3 : Below w.heap.size w W3 := by rw [e3]; exact bt
 have q3 := hb3.size
 have R3 : IsRow W3 (w.heap.size) ∧ IsRow W3 (w.heap.size + 1) ∧ IsRow W3 (a2) := by rw [e3]; simp [go_sem, r2_2, c2_2, n2_5, r3_2, c3_2, n3_5, m1_2, m2_2, n5_2, n5_3]
 obtain ⟨r2_3, r3_3, r5_3⟩ := R3
 have C3 := (⟨congrArg (blk · (w.heap.size)) e3, congrArg (blk · (w.heap.size + 1)) e3, congrArg (blk · (a2)) e3⟩ : _ ∧ _ ∧ _); simp [go_sem, r2_2, c2_2, n2_5, r3_2, c3_2, n3_5, m1_2, m2_2, n5_2, n5_3] at C3
 obtain ⟨c2_3, c3_3, c5_3⟩ := C3
 have z2_3 := isRow_lt r2_3; have z3_3 := isRow_lt r3_3; have z5_3 := isRow_lt r5_3
 clear e3 r2_2 c2_2 z2_2 r3_2 c3_2 z3_2 m1_2 m2_2 z5_2 hb2
 refine wp_quiet_alloc_late 8 7 _ _ (.cells (row 8 zf) 29) (Below W3.heap.size W3) (Made W3 (row 8 zf)) (by kernel_rfl) rfl rfl rfl (by kernel_rfl) (by kernel_rfl) (fun c a w d v h => by cases d <;> exact h) (fun a W => (xallocVec _ _ _ _ _ _ _).trans (allocVec W)) (closed_below W3) (closed_made W3 _) (fun b W h => h.1) (fun W h => made_new W3 _ _ W h) (Below.refl _ _).drew ?_
 simp only [List.take_succ_cons, List.take_zero, List.drop_succ_cons, List.drop_zero]
 iterate 1 (refine e_plain rfl ?_; apply Exists.intro; refine ⟨fun D hD hK W hW => ?_, ?_⟩; (focus (obtain ⟨x2, y2⟩ := keepB (hD W hW) z2_3 r2_3 c2_3; obtain ⟨x3, y3⟩ := keepB (hD W hW) z3_3 r3_3 c3_3; obtain ⟨x5, y5⟩ := keepB (hD W hW) z5_3 r5_3 c5_3; unfold Oper.quietAt; go_simp; first | done | rfl)); simp only [Act.put, List.setIfInBounds_toArray, List.set_cons_zero, List.set_cons_succ])
 (refine e_plain rfl ?_; apply Exists.intro; refine ⟨fun D hD hK W hW => ?_, ?_⟩; (focus (obtain ⟨x2, y2⟩ := keepB (hD W hW) z2_3 r2_3 c2_3; obtain ⟨x3, y3⟩ := keepB (hD W hW) z3_3 r3_3 c3_3; obtain ⟨x5, y5⟩ := keepB (hD W hW) z5_3 r5_3 c5_3; unfold Oper.quietAt; go_simp; (go_at_call 15; exact (toHopf_any _ _ _ _).mono fun e w2 ⟨he, hw2⟩ => ⟨he, hK _ _ hW hw2⟩))); simp only [Act.put, List.setIfInBounds_toArray, List.set_cons_zero, List.set_cons_succ])
 iterate 1 (refine e_plain rfl ?_; apply Exists.intro; refine ⟨fun D hD hK W hW => ?_, ?_⟩; (focus (obtain ⟨x2, y2⟩ := keepB (hD W hW) z2_3 r2_3 c2_3; obtain ⟨x3, y3⟩ := keepB (hD W hW) z3_3 r3_3 c3_3; obtain ⟨x5, y5⟩ := keepB (hD W hW) z5_3 r5_3 c5_3; unfold Oper.quietAt; go_simp; first | done | rfl)); simp only [Act.put, List.setIfInBounds_toArray, List.set_cons_zero, List.set_cons_succ])
 (refine e_plain rfl ?_; apply Exists.intro; refine ⟨fun D hD hK W hW => ?_, ?_⟩; (focus (obtain ⟨x2, y2⟩ := keepB (hD W hW) z2_3 r2_3 c2_3; obtain ⟨x3, y3⟩ := keepB (hD W hW) z3_3 r3_3 c3_3; obtain ⟨x5, y5⟩ := keepB (hD W hW) z5_3 r5_3 c5_3; unfold Oper.quietAt; go_simp; (go_at_call 18; exact (toModule_any _ _ _).mono fun e w2 ⟨he, hw2⟩ => ⟨he, hK _ _ hW hw2⟩))); simp only [Act.put, List.setIfInBounds_toArray, List.set_cons_zero, List.set_cons_succ])
 (refine e_plain rfl ?_; apply Exists.intro; refine ⟨fun D hD hK W hW => ?_, ?_⟩; (focus (obtain ⟨x2, y2⟩ := keepB (hD W hW) z2_3 r2_3 c2_3; obtain ⟨x3, y3⟩ := keepB (hD W hW) z3_3 r3_3 c3_3; obtain ⟨x5, y5⟩ := keepB (hD W hW) z5_3 r5_3 c5_3; unfold Oper.quietAt; go_simp; (go_at_call 31; exact (characterOf_any _ _ _ _ _ _ Hf.out Hm.out).mono fun e w2 ⟨he, hw2⟩ => ⟨he, hK _ _ hW hw2⟩))); simp only [Act.put, List.setIfInBounds_toArray, List.set_cons_zero, List.set_cons_succ])
 iterate 3 (refine e_plain rfl ?_; apply Exists.intro; refine ⟨fun D hD hK W hW => ?_, ?_⟩; (focus (obtain ⟨x2, y2⟩ := keepB (hD W hW) z2_3 r2_3 c2_3; obtain ⟨x3, y3⟩ := keepB (hD W hW) z3_3 r3_3 c3_3; obtain ⟨x5, y5⟩ := keepB (hD W hW) z5_3 r5_3 c5_3; unfold Oper.quietAt; go_simp; first | done | rfl)); simp only [Act.put, List.setIfInBounds_toArray, List.set_cons_zero, List.set_cons_succ])
 refine e_nil ?_
 intro a4 W4 hW4
 obtain ⟨hw4, hl4, m1_4, m2_4⟩ := hW4
 have n2_7 : (w.heap.size) ≠ (a4) := by have := z2_3; omega
 have n7_2 : (a4) ≠ (w.heap.size) := by have := z2_3; omega
 have n3_7 : (w.heap.size + 1) ≠ (a4) := by have := z3_3; omega
 have n7_3 : (a4) ≠ (w.heap.size + 1) := by have := z3_3; omega
 have n5_7 : (a2) ≠ (a4) := by have := z5_3; omega
 have n7_5 : (a4) ≠ (a2) := by have := z5_3; omega
 obtain ⟨r2_4, c2_4, z2_4⟩ := keepZ hw4 z2_3 r2_3 c2_3
 obtain ⟨r3_4, c3_4, z3_4⟩ := keepZ hw4 z3_3 r3_3 c3_3
 obtain ⟨r5_4, c5_4, z5_4⟩ := keepZ hw4 z5_3 r5_3 c5_3
 obtain ⟨hb4, q4⟩ := bN hb3 hw4
 clear hw4 r2_3 c2_3 z2_3 r3_3 c3_3 z3_3 r5_3 c5_3 z5_3 hb3
 have z7_4 := isRow_lt m1_4
 simp only [Act.put, List.setIfInBounds_toArray, List.set_cons_zero, List.set_cons_succ]
 go_wp2_with fail
 refine atomC fun W5 e5 => ?_
 have hb5 : Below w.heap.size w W5 := by rw [e5]; exact bt
 have q5 := hb5.size
 clear e5 hb4
 refine (eqVector_same _ _).mono ?_; rintro _ W6 ⟨rfl, hw6⟩
 obtain ⟨hb6, q6⟩ := bN hb5 hw6
 clear hw6 hb5
 go_wp2_with fail
 go_ret
 exact ⟨rfl, bt⟩

end Go.Proofs.YtfmhgfnadgaiaaaGreat
