/- Laws RegularModule and TrivialModule. -/
import Derived.Test.YtfmhgfnadgaiaaaM3
import Derived.Test.YtfmhgfnadgaiaaaQ15
namespace Go.Proofs.Ytfmhgfnadgaiaaa
open Go.RowKit
set_option linter.unusedSimpArgs false
set_option linter.unusedVariables false
attribute [local irreducible] wpQuiet wpQE

@[go_sem ↓] theorem xbuildReg (ρ : Operand → Value) (dst : Option Tmp) (a : Operand) (ty : TypeId) (pos : String) (after : Array Edge) (guard : Option (Nat × Bool)) (w : World) :
    (execOp ρ ⟨dst, .build 145 #[(0, a)], ty, pos, after, guard⟩).run Try.prog w = buildS Try.prog 145 #[(0, ρ a)] w := by kernel_rfl
set_option maxRecDepth 100000 in
@[go_sem] theorem buildReg (p n : Int) (f : Nat → Int) (w : World) : buildS Try.prog 145 #[(0, .agg (hop p n f))] w = .ok (.value (.agg (hop p n f))) w := by
  refine build_struct (fields := fieldsOf Try.prog 145) (places := #[(0, 1106)]) (zc := hop 0 0 zf) (by kernel_rfl) (by rw [hop_zeros]; kernel_rfl) (fun w => by kernel_rfl) ?_ w
  show Instr.fill _ _ [_] = _
  rw [fill_row (off := 0) (m := 1106) rfl (hop_size _ _ _) (by rw [hop_size]; omega), lay_hop_all]
  rfl

@[go_sem ↓] theorem xbuildTriv (ρ : Operand → Value) (dst : Option Tmp) (a b : Operand) (ty : TypeId) (pos : String) (after : Array Edge) (guard : Option (Nat × Bool)) (w : World) :
    (execOp ρ ⟨dst, .build 105 #[(0, a), (1, b)], ty, pos, after, guard⟩).run Try.prog w = buildS Try.prog 105 #[(0, ρ a), (1, ρ b)] w := by kernel_rfl
set_option maxRecDepth 100000 in
@[go_sem] theorem buildTriv (p n c : Int) (f : Nat → Int) (w : World) : buildS Try.prog 105 #[(0, .agg (hop p n f)), (1, .int .i64 c)] w = .ok (.value (.agg (hopx p n f #[.int .i64 c]))) w := by
  refine build_struct (fields := fieldsOf Try.prog 105) (places := #[(0, 1106), (1106, 1)]) (zc := hopx 0 0 zf #[.int .i64 0]) (by kernel_rfl) (by rw [hopx_z1]; kernel_rfl) (fun w => by kernel_rfl) ?_ w
  show Instr.fill _ _ [_, _] = _
  rw [fill_row (off := 0) (m := 1106) rfl (hop_size _ _ _) (by rw [hopx_size]; simp), lay_hopx, fill_cell (off := 1106) rfl rfl (by rw [hopx_size]; simp), hopx_set1]
  rfl

theorem tab_modS {p : Int} {n : Nat} {f : Nat → Int} (hs : sizesB p n = true) (hF : Bytes 512 (tab f)) (h : tabB p n (tab f) = true) : ModS p n n (tab f) := by
  refine mod_shape hF ?_
  obtain ⟨_, _, hn1, hn8⟩ := sizes_range hs
  unfold shapeM
  rw [decide_eq_true hn1, decide_eq_true hn8]
  exact h
theorem hopf_tab {p n : Int} {f : Nat → Int} (h : hopfB p n f = true) : tabB p n (tab f) = true := (shape_parts (shapeH_parts (hopf_shape h)).1).2.2
/-- the trivial module: e(i) v(j) is the Counit of e(i) times v(j) -/
def trG (f : Nat → Int) (i j t : Nat) : Int := if t = j then coF f i else 0
/-- by the program -/
def trI (p : Int) (f : Nat → Int) (i j : Nat) : Nat → Int := scK p (coF f i) (ebas j) 8
def trP (c : Nat) (f : Nat → Int) (i k : Nat) : Nat → Int := fun u => if (u / 8 % 8 < c ∧ u % 8 = u / 8 % 8) ∧ (u / 64 < i ∨ (u / 64 = i ∧ u / 8 % 8 < k)) then coF f (u / 64) else 0
theorem tr_zero (e : Int) (c : Nat) (f : Nat → Int) : mdl e zf = mdl e (trP c f 0 0) := mdl_congr fun u _ => by unfold trP zf; rw [if_neg (by omega)]
theorem tr_step {e : Int} {c : Nat} {f : Nat → Int} {i k : Nat} (hi : i < 8) (hk : k < c) (hc : c ≤ 8) : (mdl e (trP c f i k)).setIfInBounds (1 + i * 64 + k * 8 + k) (.int .u8 (coF f i)) = mdl e (trP c f i (k + 1)) := by
  rw [mdl_set _ _ hi (by omega) (by omega)]
  refine mdl_congr fun u hu => ?_
  unfold upd
  by_cases h : u = i * 64 + (k * 8 + k)
  · rw [if_pos h]
    unfold trP
    have e1 : u / 8 = i * 8 + k := by omega
    have e2 : u / 64 = i := by omega
    have e3 : u % 8 = k := by omega
    have e4 : u / 8 % 8 = k := by rw [e1]; omega
    rw [if_pos (by rw [e2, e3, e4]; omega), e2]
  · rw [if_neg h]
    unfold trP
    exact ifj (by omega) _
theorem tr_row {e : Int} {c : Nat} {f : Nat → Int} {i : Nat} : mdl e (trP c f i c) = mdl e (trP c f (i + 1) 0) := mdl_congr fun u hu => by
  unfold trP
  exact ifj (by omega) _
theorem tr_end {e : Int} {n c : Nat} {f : Nat → Int} : mdl e (trP c f n 0) = mdl e (finM n c (trG f)) := mdl_congr fun u hu => by
  unfold trP finM trG
  by_cases h : u / 64 < n ∧ u / 8 % 8 < c
  · rw [if_pos h]
    exact ifj (by omega) _
  · rw [if_neg h, if_neg (by omega)]
theorem sc_ebas {p x : Int} {j t : Nat} (hx : 0 ≤ x ∧ x < p) (ht : t < 8) : scK p x (ebas j) 8 t = if t = j then x else 0 := by
  unfold scK ebas upd zf
  rw [if_pos ht]
  by_cases h : t = j
  · rw [if_pos h, if_pos h, Int.mul_one]; exact Int.emod_eq_of_lt hx.1 hx.2
  · rw [if_neg h, if_neg h, Int.mul_zero]; simp

set_option maxRecDepth 100000 in
set_option maxHeartbeats 1000000 in
theorem rdim_any (p n : Int) (f : Nat → Int) (w : World)  :
    Calls Try.prog 189 #[.agg (hop p n f)] w fun e w' => e = .returned (.int .i64 n) ∧ Below w.heap.size w w' := by
 go_enter Try.func189, Try.ntmps189
 go_wp2_with fail
 go_ret
 exact ⟨rfl, bt⟩

set_option maxRecDepth 100000 in
set_option maxHeartbeats 1000000 in
theorem rimage_any (p : Int) (n i j : Nat) (f : Nat → Int) (w : World) (hi : i < 8) (hj : j < 8) :
    Calls Try.prog 190 #[.agg (hop p n f), .int .i64 i, .int .i64 j] w fun e w' => e = .returned (.agg (row 8 (mtab f i j))) ∧ Below w.heap.size w w' := by
 have i8 : (i : Int) < 8 := by omega
 have j8 : (j : Int) < 8 := by omega
 have e1 := hop_mul8 p n f i j hi hj
 have l1 : 10 + i * 64 + 64 ≤ 1106 := by omega
 have l2 : 10 + i * 64 + j * 8 + 8 ≤ 1106 := by omega
 go_enter Try.func190, Try.ntmps190
 go_wp2_with fail
 refine bodyPost_ret (result_cell rfl aggVec _ _ (row 8 (mtab f i j)) _ rfl ?_ ?_) rfl ⟨rfl, ?_⟩
 · simp [go_sem]
 · simp [go_sem]
 · exact bt

set_option maxRecDepth 100000 in
set_option maxHeartbeats 1000000 in
theorem moduleOf_reg (p : Int) (n : Nat) (f : Nat → Int) (w : World) (hn : n ≤ 8) :
    Calls Try.prog 70 #[.agg (hop p n f), .iface 145 (.agg (hop p n f))] w fun e w' => e = .returned (.agg (mdl n (finM n n (mtab f)))) ∧ Below w.heap.size w w' := by
 go_enter Try.func70, Try.ntmps70
 go_wp2_with fail
 refine atomC fun W1 e1 => ?_
 have hb1 : Below w.heap.size w W1 := by rw [e1]; exact bt
 have q1 := hb1.size
 have R1 : IsRow W1 (w.heap.size) ∧ IsRow W1 (w.heap.size + 1) := by rw [e1]; simp [go_sem]
 obtain ⟨r2_1, r4_1⟩ := R1
 have C1 := (⟨congrArg (blk · (w.heap.size)) e1, congrArg (blk · (w.heap.size + 1)) e1⟩ : _ ∧ _); simp [go_sem] at C1
 obtain ⟨c2_1, c4_1⟩ := C1
 have z2_1 := isRow_lt r2_1; have z4_1 := isRow_lt r4_1
 clear e1
 refine (rdim_any p n f _).mono ?_; rintro _ W2 ⟨rfl, hw2⟩
 obtain ⟨r2_2, c2_2, z2_2⟩ := keepZ hw2 z2_1 r2_1 c2_1
 obtain ⟨r4_2, c4_2, z4_2⟩ := keepZ hw2 z4_1 r4_1 c4_1
 obtain ⟨hb2, q2⟩ := bN hb1 hw2
 clear hw2 r2_1 c2_1 z2_1 r4_1 c4_1 z4_1 hb1
 go_wp2
 have nw4_W2_0 : (w.heap.size + 1) ≠ W2.heap.size := by omega
 refine atomW fun W3 e3 => ?_
 have hb3 : Below w.heap.size w W3 := by rw [e3]; exact bt
 have q3 := hb3.size
 have R3 : IsRow W3 (w.heap.size + 1) ∧ IsRow W3 (W2.heap.size) := by rw [e3]; simp [go_sem, r4_2, c4_2, nw4_W2_0, r2_2]
 obtain ⟨r4_3, r5_3⟩ := R3
 have C3 := (⟨congrArg (blk · (w.heap.size + 1)) e3, congrArg (blk · (W2.heap.size)) e3⟩ : _ ∧ _); simp [go_sem, r4_2, c4_2, nw4_W2_0, r2_2] at C3
 obtain ⟨c4_3, c5_3⟩ := C3
 have z4_3 := isRow_lt r4_3; have z5_3 := isRow_lt r5_3
 have n4_5 : (w.heap.size + 1) ≠ (W2.heap.size) := by omega
 have n5_4 : (W2.heap.size) ≠ (w.heap.size + 1) := by omega
 clear e3 nw4_W2_0 r4_2 c4_2 z4_2 hb2
 go_loopw [13] (fun s13 wr => ∃ i : Nat, i ≤ n ∧ s13 = .int .i64 i ∧ Below w.heap.size w wr ∧ (IsRow wr (w.heap.size + 1) ∧ blk wr (w.heap.size + 1) = blk W3 (w.heap.size + 1)) ∧ (IsRow wr (W2.heap.size) ∧ blk wr (W2.heap.size) = mdl n (finK n (mtab f) i 0))) (fun s13 _ => n - (intOf s13).toNat)
 case atStart => exact ⟨0, by omega, rfl, hb3, ⟨r4_3, rfl⟩, ⟨r5_3, c5_3.trans (fin_zero n n (mtab f))⟩⟩
 case round =>
  obtain ⟨i, hle4, rfl, hb4, ⟨r4_4, c4_4⟩, ⟨r5_4, c5_4⟩⟩ := hrel
  obtain ⟨W4, rfl⟩ : ∃ W4 : World, W4 = wr := ⟨_, rfl⟩
  have q4 := hb4.size
  have E4_4 := Lib.hid c4_3; replace c4_4 := c4_4.trans c4_3
  have z4_4 := isRow_lt r4_4
  have z5_4 := isRow_lt r5_4
  clear r4_3 c4_3 z4_3 r5_3 c5_3 z5_3 hb3
  by_cases hlt4 : i < n
  ·
   have i0_4 : (0 : Int) ≤ (i : Int) := by omega
   have i8_4 : (i : Int) < 8 := by omega
   have k8_4 : i < 8 := by omega
   have m8_4 : i * 8 + 8 ≤ 64 := by omega
   have m64_4 : i * 64 + 64 ≤ 512 := by omega
   have l1_4 : 10 + i * 64 + 64 ≤ 522 := by omega
   go_wp2_with fail
   refine (rdim_any p n f _).mono ?_; rintro _ W5 ⟨rfl, hw5⟩
   obtain ⟨r4_5, c4_5, z4_5⟩ := keepZ hw5 z4_4 r4_4 c4_4
   obtain ⟨r5_5, c5_5, z5_5⟩ := keepZ hw5 z5_4 r5_4 c5_4
   obtain ⟨hb5, q5⟩ := bN hb4 hw5
   clear hw5 r4_4 c4_4 z4_4 r5_4 c5_4 z5_4 hb4
   go_wp2
   go_loopw [18] (fun s18 wr => ∃ j : Nat, j ≤ n ∧ s18 = .int .i64 j ∧ Below w.heap.size w wr ∧ (IsRow wr (w.heap.size + 1) ∧ blk wr (w.heap.size + 1) = blk W5 (w.heap.size + 1)) ∧ (IsRow wr (W2.heap.size) ∧ blk wr (W2.heap.size) = mdl n (finK n (mtab f) i j))) (fun s18 _ => n - (intOf s18).toNat)
   case atStart => exact ⟨0, by omega, rfl, hb5, ⟨r4_5, rfl⟩, ⟨r5_5, c5_5⟩⟩
   case round =>
    obtain ⟨j, hle6, rfl, hb6, ⟨r4_6, c4_6⟩, ⟨r5_6, c5_6⟩⟩ := hrel
    obtain ⟨W6, rfl⟩ : ∃ W6 : World, W6 = wr := ⟨_, rfl⟩
    have q6 := hb6.size
    have E4_6 := Lib.hid c4_5; replace c4_6 := c4_6.trans c4_5
    have z4_6 := isRow_lt r4_6
    have z5_6 := isRow_lt r5_6
    clear r4_5 c4_5 z4_5 r5_5 c5_5 z5_5 hb5
    by_cases hlt6 : j < n
    ·
     have i0_6 : (0 : Int) ≤ (j : Int) := by omega
     have i8_6 : (j : Int) < 8 := by omega
     have k8_6 : j < 8 := by omega
     have m8_6 : j * 8 + 8 ≤ 64 := by omega
     have m64_6 : j * 64 + 64 ≤ 512 := by omega
     have l1_6 : 10 + j * 64 + 64 ≤ 522 := by omega
     have l2_6i : 10 + i * 64 + j * 8 + 8 ≤ 522 := by omega
     have l3_6i : 10 + j * 64 + i * 8 + 8 ≤ 522 := by omega
     have l4_6i : i * 64 + j * 8 + 8 ≤ 512 := by omega
     have l5_6i : j * 64 + i * 8 + 8 ≤ 512 := by omega
     have l6_6i : i * 8 + j < 64 := by omega
     have l7_6i : j * 8 + i < 64 := by omega
     have l6 : 1 + i * 64 + 64 ≤ 513 := by omega
     have l7 : 1 + i * 64 + j * 8 + 8 ≤ 513 := by omega
     go_wp2
     refine wp_quiet_tail 9 (Below W6.heap.size W6) (by kernel_rfl) (by kernel_rfl) (Below.refl _ _).drew ?_
     simp only [List.take_succ_cons, List.take_zero, List.drop_succ_cons, List.drop_zero]
     iterate 5 (refine q_plain rfl ?_; apply Exists.intro; refine ⟨fun W hW => ?_, ?_⟩; (focus (obtain ⟨x4, y4⟩ := keepB hW z4_6 r4_6 c4_6; obtain ⟨x5, y5⟩ := keepB hW z5_6 r5_6 c5_6; go_simp; first | done | rfl)); simp only [Act.put, List.setIfInBounds_toArray, List.set_cons_zero, List.set_cons_succ])
     (refine q_plain rfl ?_; apply Exists.intro; refine ⟨fun W hW => ?_, ?_⟩; (focus (obtain ⟨x4, y4⟩ := keepB hW z4_6 r4_6 c4_6; obtain ⟨x5, y5⟩ := keepB hW z5_6 r5_6 c5_6; go_simp; (go_at_call 190; exact (rimage_any p n i j f _ (by omega) (by omega)).mono fun e w2 ⟨he, hw2⟩ => ⟨he, hW.trans (hw2.mono hW.size)⟩))); simp only [Act.put, List.setIfInBounds_toArray, List.set_cons_zero, List.set_cons_succ])
     iterate 3 (refine q_plain rfl ?_; apply Exists.intro; refine ⟨fun W hW => ?_, ?_⟩; (focus (obtain ⟨x4, y4⟩ := keepB hW z4_6 r4_6 c4_6; obtain ⟨x5, y5⟩ := keepB hW z5_6 r5_6 c5_6; go_simp; first | done | rfl)); simp only [Act.put, List.setIfInBounds_toArray, List.set_cons_zero, List.set_cons_succ])
     refine wpQuiet_nil ?_
     intro W7 hw7
     obtain ⟨r4_7, c4_7, z4_7⟩ := keepZ hw7 z4_6 r4_6 c4_6
     obtain ⟨r5_7, c5_7, z5_7⟩ := keepZ hw7 z5_6 r5_6 c5_6
     obtain ⟨hb7, q7⟩ := bN hb6 hw7
     clear hw7 r4_6 c4_6 z4_6 r5_6 c5_6 z5_6 hb6
     go_wp2
     go_roundw
     case rel => exact ⟨j + 1, by omega, by go_num, bt, ⟨by simp [go_sem, r4_7, c4_7, n4_5, r5_7, c5_7, n5_4], (by rw [E4_6.out]; first | exact c4_7 | (simp [go_sem, r4_7, c4_7, n4_5, r5_7, c5_7, n5_4]; done))⟩, ⟨by simp [go_sem, r4_7, c4_7, n4_5, r5_7, c5_7, n5_4], (by first | (rw [blk_setRow _ _ _ _ r5_7, if_pos rfl]; exact fin_step (by omega) (by omega) (by omega)) | exact (c5_7).trans (fin_step (by omega) (by omega) (by omega)) | (simp [go_sem, r4_7, c4_7, n4_5, r5_7, c5_7, n5_4]; exact fin_step (by omega) (by omega) (by omega)))⟩⟩
     case measure => simp [intOf]; try omega
    ·
     obtain rfl : n = j := by omega
     go_wp2
     go_roundw
     case rel => exact ⟨i + 1, by omega, by go_num, bt, ⟨by simp [go_sem, r4_6, c4_6, n4_5, r5_6, c5_6, n5_4], (by rw [E4_4.out]; first | exact c4_6 | (simp [go_sem, r4_6, c4_6, n4_5, r5_6, c5_6, n5_4]; done))⟩, ⟨by simp [go_sem, r4_6, c4_6, n4_5, r5_6, c5_6, n5_4], (by first | exact (c5_6).trans (fin_row _ _ _ _) | (simp [go_sem, r4_6, c4_6, n4_5, r5_6, c5_6, n5_4]; exact fin_row _ _ _ _))⟩⟩
     case measure => simp [intOf]; try omega
  ·
   obtain rfl : n = i := by omega
   rw [fin_end] at c5_4
   go_wp2_with fail
   refine bodyPost_ret (result_cell rfl aggMod _ _ (mdl n (finM n n (mtab f))) _ rfl ?_ ?_) rfl ⟨rfl, ?_⟩
   · simp [go_sem, r4_4, c4_4, n4_5, r5_4, c5_4, n5_4]
   · simp [go_sem, r4_4, c4_4, n4_5, r5_4, c5_4, n5_4]
   · exact bt

set_option maxRecDepth 100000 in
set_option maxHeartbeats 1000000 in
theorem regularModule_any (p : Int) (n : Nat) (f : Nat → Int) (w : World) (hn : n ≤ 8) :
    Calls Try.prog 73 #[.agg (hop p n f)] w fun e w' => e = .returned (.agg (mdl n (finM n n (mtab f)))) ∧ Below w.heap.size w w' := by
 go_enter Try.func73, Try.ntmps73
 go_wp2_with fail
 refine atomC fun W1 e1 => ?_
 have hb1 : Below w.heap.size w W1 := by rw [e1]; exact bt
 have q1 := hb1.size
 have r2_1 : IsRow W1 (w.heap.size + 1) := by rw [e1]; simp [go_sem]
 have c2_1 := congrArg (fun x => blk x (w.heap.size + 1)) e1; simp [go_sem] at c2_1
 have z2_1 := isRow_lt r2_1
 clear e1
 refine (moduleOf_reg p n f _ hn).mono ?_; rintro _ W2 ⟨rfl, hw2⟩
 obtain ⟨r2_2, c2_2, z2_2⟩ := keepZ hw2 z2_1 r2_1 c2_1
 obtain ⟨hb2, q2⟩ := bN hb1 hw2
 clear hw2 r2_1 c2_1 z2_1 hb1
 go_wp2_with fail
 refine bodyPost_ret (result_cell rfl aggMod _ _ (mdl n (finM n n (mtab f))) _ rfl ?_ ?_) rfl ⟨rfl, ?_⟩
 · simp [go_sem, r2_2, c2_2]
 · simp [go_sem, r2_2, c2_2]
 · exact bt

set_option maxRecDepth 100000 in
set_option maxHeartbeats 1000000 in
theorem ofHopf_reg (p n : Int) (f : Nat → Int) (w : World) (hf : Bytes 1104 f) :
    Calls Try.prog 72 #[.agg (hop p n f), .func (.func 73) #[] #[]] w fun e w' => e = .returned (.tuple #[.agg (mdl (onlyI (hopfB p n f) n) (onlyF (hopfB p n f) (tab f))), .int .i64 (codeB (hopfB p n f))]) ∧ Below w.heap.size w w' := by
 have Hf := Lib.hid hf; clear hf
 cases hh : hopfB p n f
 ·
  go_enter Try.func72, Try.ntmps72
  go_wp2_with fail
  refine atomC fun W1 e1 => ?_
  have hb1 : Below w.heap.size w W1 := by rw [e1]; exact bt
  have q1 := hb1.size
  have R1 : IsRow W1 (w.heap.size) ∧ IsRow W1 (w.heap.size + 1) := by rw [e1]; simp [go_sem]
  obtain ⟨r2_1, r4_1⟩ := R1
  have C1 := (⟨congrArg (blk · (w.heap.size)) e1, congrArg (blk · (w.heap.size + 1)) e1⟩ : _ ∧ _); simp [go_sem] at C1
  obtain ⟨c2_1, c4_1⟩ := C1
  have z2_1 := isRow_lt r2_1; have z4_1 := isRow_lt r4_1
  clear e1
  refine (isHopf_any _ _ _ _ Hf.out).mono ?_; rintro _ W2 ⟨rfl, hw2⟩
  obtain ⟨r2_2, c2_2, z2_2⟩ := keepZ hw2 z2_1 r2_1 c2_1
  obtain ⟨r4_2, c4_2, z4_2⟩ := keepZ hw2 z4_1 r4_1 c4_1
  obtain ⟨hb2, q2⟩ := bN hb1 hw2
  clear hw2 r2_1 c2_1 z2_1 r4_1 c4_1 z4_1 hb1
  have nw2_W2_0 : (w.heap.size) ≠ W2.heap.size := by omega
  have nw4_W2_0 : (w.heap.size + 1) ≠ W2.heap.size := by omega
  go_wp2_with fail
  refine bodyPost_ret (result_cell_tmp rfl aggMod _ _ (mdl 0 zf) _ _ rfl rfl ?_ ?_) rfl ⟨by rfl, ?_⟩
  · simp [go_sem, r2_2, c2_2, r4_2, c4_2, nw2_W2_0, nw4_W2_0]
  · simp [go_sem, r2_2, c2_2, r4_2, c4_2, nw2_W2_0, nw4_W2_0]
  · exact bt
 ·
  obtain ⟨hp2, hp31, hn1, hn8⟩ := sizes_range (hopf_sizes hh)
  obtain ⟨n, rfl⟩ := Int.eq_ofNat_of_zero_le (show 0 ≤ n by omega)
  have hp : 0 < p := by omega
  have hp' : p ≤ 255 := by omega
  have hn : n ≤ 8 := by omega
  have HH := Lib.hid hh
  have HE := Lib.hid (fin_self (e := n) (tab_modS (hopf_sizes hh) (tab_bytes (hop_bytes Hf.out)) (hopf_tab hh)))
  go_enter Try.func72, Try.ntmps72
  go_wp2_with fail
  refine atomC fun W3 e3 => ?_
  have hb3 : Below w.heap.size w W3 := by rw [e3]; exact bt
  have q3 := hb3.size
  have R3 : IsRow W3 (w.heap.size) ∧ IsRow W3 (w.heap.size + 1) := by rw [e3]; simp [go_sem]
  obtain ⟨r2_3, r4_3⟩ := R3
  have C3 := (⟨congrArg (blk · (w.heap.size)) e3, congrArg (blk · (w.heap.size + 1)) e3⟩ : _ ∧ _); simp [go_sem] at C3
  obtain ⟨c2_3, c4_3⟩ := C3
  have z2_3 := isRow_lt r2_3; have z4_3 := isRow_lt r4_3
  clear e3
  refine (isHopf_any _ _ _ _ Hf.out).mono ?_; rintro _ W4 ⟨rfl, hw4⟩
  obtain ⟨r2_4, c2_4, z2_4⟩ := keepZ hw4 z2_3 r2_3 c2_3
  obtain ⟨r4_4, c4_4, z4_4⟩ := keepZ hw4 z4_3 r4_3 c4_3
  obtain ⟨hb4, q4⟩ := bN hb3 hw4
  clear hw4 r2_3 c2_3 z2_3 r4_3 c4_3 z4_3 hb3
  go_wp2_with fail
  refine (regularModule_any p n f _ hn).mono ?_; rintro _ W5 ⟨rfl, hw5⟩
  obtain ⟨r4_5, c4_5, z4_5⟩ := keepZ hw5 z4_4 r4_4 c4_4
  obtain ⟨hb5, q5⟩ := bN hb4 hw5
  clear hw5 r4_4 c4_4 z4_4 hb4
  go_wp2_with fail
  refine bodyPost_ret (result_cell_tmp rfl aggMod _ _ (mdl n (finM n n (mtab f))) _ _ rfl rfl ?_ ?_) rfl ⟨by rw [show mdl n (finM n n (mtab f)) = mdl n (tab f) from HE.out] <;> rfl, ?_⟩
  · simp [go_sem, r4_5, c4_5]
  · simp [go_sem, r4_5, c4_5]
  · exact bt

set_option maxRecDepth 100000 in
set_option maxHeartbeats 1000000 in
theorem implReg_any (p n : Int) (f : Nat → Int) (w : World) (hf : Bytes 1104 f) :
    Calls Try.prog 35 #[.agg (hop p n f)] w fun e w' => e = .returned (.tuple #[.agg (mdl (onlyI (hopfB p n f) n) (onlyF (hopfB p n f) (tab f))), .int .i64 (codeB (hopfB p n f))]) ∧ Below w.heap.size w w' := by
 have Hf := Lib.hid hf; clear hf
 go_enter Try.func35, Try.ntmps35
 go_wp2_with fail
 refine atomC fun W1 e1 => ?_
 have hb1 : Below w.heap.size w W1 := by rw [e1]; exact bt
 have q1 := hb1.size
 have r2_1 : IsRow W1 (w.heap.size + 1) := by rw [e1]; simp [go_sem]
 have c2_1 := congrArg (fun x => blk x (w.heap.size + 1)) e1; simp [go_sem] at c2_1
 have z2_1 := isRow_lt r2_1
 clear e1
 refine (ofHopf_reg _ _ _ _ Hf.out).mono ?_; rintro _ W2 ⟨rfl, hw2⟩
 obtain ⟨r2_2, c2_2, z2_2⟩ := keepZ hw2 z2_1 r2_1 c2_1
 obtain ⟨hb2, q2⟩ := bN hb1 hw2
 clear hw2 r2_1 c2_1 z2_1 hb1
 go_wp2_with fail
 refine bodyPost_ret (result_cell_tmp rfl aggMod _ _ (mdl (onlyI (hopfB p n f) n) (onlyF (hopfB p n f) (tab f))) _ _ rfl rfl ?_ ?_) rfl ⟨rfl, ?_⟩
 · simp [go_sem, r2_2, c2_2]
 · simp [go_sem, r2_2, c2_2]
 · exact bt

set_option maxRecDepth 100000 in
set_option maxHeartbeats 1000000 in
theorem specReg_any (p n : Int) (f : Nat → Int) (w : World) (hf : Bytes 1104 f) :
    Calls Try.prog 34 #[.agg (hop p n f)] w fun e w' => e = .returned (.tuple #[.agg (mdl (onlyI (hopfB p n f) n) (onlyF (hopfB p n f) (tab f))), .int .i64 (codeB (hopfB p n f))]) ∧ Below w.heap.size w w' := by
 have Hf := Lib.hid hf; clear hf
 cases hh : hopfB p n f
 ·
  go_enter Try.func34, Try.ntmps34
  go_wp2_with fail
  refine atomC fun W1 e1 => ?_
  have hb1 : Below w.heap.size w W1 := by rw [e1]; exact bt
  have q1 := hb1.size
  have R1 : IsRow W1 (w.heap.size) ∧ IsRow W1 (w.heap.size + 1) := by rw [e1]; simp [go_sem]
  obtain ⟨r1_1, r2_1⟩ := R1
  have C1 := (⟨congrArg (blk · (w.heap.size)) e1, congrArg (blk · (w.heap.size + 1)) e1⟩ : _ ∧ _); simp [go_sem] at C1
  obtain ⟨c1_1, c2_1⟩ := C1
  have z1_1 := isRow_lt r1_1; have z2_1 := isRow_lt r2_1
  clear e1
  refine (l03Is_any _ _ _ _ Hf.out).mono ?_; rintro _ W2 ⟨rfl, hw2⟩
  obtain ⟨r1_2, c1_2, z1_2⟩ := keepZ hw2 z1_1 r1_1 c1_1
  obtain ⟨r2_2, c2_2, z2_2⟩ := keepZ hw2 z2_1 r2_1 c2_1
  obtain ⟨hb2, q2⟩ := bN hb1 hw2
  clear hw2 r1_1 c1_1 z1_1 r2_1 c2_1 z2_1 hb1
  go_wp2_with fail
  refine bodyPost_ret (result_cell_tmp rfl aggMod _ _ (mdl 0 zf) _ _ rfl rfl ?_ ?_) rfl ⟨by rfl, ?_⟩
  · simp [go_sem, r1_2, c1_2, r2_2, c2_2]
  · simp [go_sem, r1_2, c1_2, r2_2, c2_2]
  · exact bt
 ·
  go_enter Try.func34, Try.ntmps34
  go_wp2_with fail
  refine atomC fun W3 e3 => ?_
  have hb3 : Below w.heap.size w W3 := by rw [e3]; exact bt
  have q3 := hb3.size
  have R3 : IsRow W3 (w.heap.size) ∧ IsRow W3 (w.heap.size + 1) := by rw [e3]; simp [go_sem]
  obtain ⟨r1_3, r2_3⟩ := R3
  have C3 := (⟨congrArg (blk · (w.heap.size)) e3, congrArg (blk · (w.heap.size + 1)) e3⟩ : _ ∧ _); simp [go_sem] at C3
  obtain ⟨c1_3, c2_3⟩ := C3
  have z1_3 := isRow_lt r1_3; have z2_3 := isRow_lt r2_3
  clear e3
  refine (l03Is_any _ _ _ _ Hf.out).mono ?_; rintro _ W4 ⟨rfl, hw4⟩
  obtain ⟨r1_4, c1_4, z1_4⟩ := keepZ hw4 z1_3 r1_3 c1_3
  obtain ⟨r2_4, c2_4, z2_4⟩ := keepZ hw4 z2_3 r2_3 c2_3
  obtain ⟨hb4, q4⟩ := bN hb3 hw4
  clear hw4 r1_3 c1_3 z1_3 r2_3 c2_3 z2_3 hb3
  go_wp2_with fail
  refine bodyPost_ret (result_cell_tmp rfl aggMod _ _ (mdl n (tab f)) _ _ rfl rfl ?_ ?_) rfl ⟨by rfl, ?_⟩
  · simp [go_sem, r1_4, c1_4, r2_4, c2_4]
  · simp [go_sem, r1_4, c1_4, r2_4, c2_4]
  · exact bt

set_option maxRecDepth 100000 in
set_option maxHeartbeats 2000000 in
theorem lawRegularModule (fp fn : Int) (f : Nat → Int) (w : World) (_wfp : (Lit.int .i64 fp).wf = true) (_wfn : (Lit.int .i64 fn).wf = true) (hf : Bytes 1104 f) :
    Calls Try.prog 9 #[.agg (hop fp fn f)] w fun e w' => e = .returned (.bool true) ∧ Below w.heap.size w w' := by
 have Hf := Lib.hid hf; clear hf
 go_enter Try.func9, Try.ntmps9
 go_wp2_with fail
 refine atomC fun W1 e1 => ?_
 have hb1 : Below w.heap.size w W1 := by rw [e1]; exact bt
 have q1 := hb1.size
 have r1_1 : IsRow W1 (w.heap.size) := by rw [e1]; simp [go_sem]
 have c1_1 := congrArg (fun x => blk x (w.heap.size)) e1; simp [go_sem] at c1_1
 have z1_1 := isRow_lt r1_1
 clear e1
 refine (toHopf_any _ _ _ _).mono ?_; rintro _ W2 ⟨rfl, hw2⟩
 obtain ⟨r1_2, c1_2, z1_2⟩ := keepZ hw2 z1_1 r1_1 c1_1
 obtain ⟨hb2, q2⟩ := bN hb1 hw2
 clear hw2 r1_1 c1_1 z1_1 hb1
 go_wp2_with fail
 refine (specReg_any _ _ _ _ Hf.out).mono ?_; rintro _ W3 ⟨rfl, hw3⟩
 obtain ⟨r1_3, c1_3, z1_3⟩ := keepZ hw3 z1_2 r1_2 c1_2
 obtain ⟨hb3, q3⟩ := bN hb2 hw3
 clear hw3 r1_2 c1_2 z1_2 hb2
 go_wp2_with fail
 refine atomC fun W4 e4 => ?_
 have hb4 : Below w.heap.size w W4 := by rw [e4]; exact bt
 have q4 := hb4.size
 have r3_4 : IsRow W4 (W3.heap.size) := by rw [e4]; simp [go_sem, r1_3]
 have c3_4 := congrArg (fun x => blk x (W3.heap.size)) e4; simp [go_sem, r1_3] at c3_4
 have z3_4 := isRow_lt r3_4
 clear e4 hb3
 refine (toHopf_any _ _ _ _).mono ?_; rintro _ W5 ⟨rfl, hw5⟩
 obtain ⟨r3_5, c3_5, z3_5⟩ := keepZ hw5 z3_4 r3_4 c3_4
 obtain ⟨hb5, q5⟩ := bN hb4 hw5
 clear hw5 r3_4 c3_4 z3_4 hb4
 go_wp2_with fail
 refine (implReg_any _ _ _ _ Hf.out).mono ?_; rintro _ W6 ⟨rfl, hw6⟩
 obtain ⟨r3_6, c3_6, z3_6⟩ := keepZ hw6 z3_5 r3_5 c3_5
 obtain ⟨hb6, q6⟩ := bN hb5 hw6
 clear hw6 r3_5 c3_5 z3_5 hb5
 go_wp2_with fail
 refine atomC fun W7 e7 => ?_
 have hb7 : Below w.heap.size w W7 := by rw [e7]; exact bt
 have q7 := hb7.size
 clear e7 hb6
 refine (eqModule_same _ _ _).mono ?_; rintro _ W8 ⟨rfl, hw8⟩
 obtain ⟨hb8, q8⟩ := bN hb7 hw8
 clear hw8 hb7
 go_wp2_with fail
 go_ret
 exact ⟨rfl, bt⟩

set_option maxRecDepth 100000 in
set_option maxHeartbeats 1000000 in
theorem tdim_any (p n c : Int) (f : Nat → Int) (w : World)  :
    Calls Try.prog 187 #[.agg (hopx p n f #[.int .i64 c])] w fun e w' => e = .returned (.int .i64 c) ∧ Below w.heap.size w w' := by
 go_enter Try.func187, Try.ntmps187
 go_wp2_with fail
 go_ret
 exact ⟨rfl, bt⟩

set_option maxRecDepth 100000 in
set_option maxHeartbeats 1000000 in
theorem timage_any (p : Int) (n c i j : Nat) (f : Nat → Int) (w : World) (hp : 0 < p) (hp' : p ≤ 255) (hf : Bytes 1104 f) (hn : n ≤ 8) (hc : c ≤ 8) (hi : i < 8) (hj : j < 8) :
    Calls Try.prog 188 #[.agg (hopx p n f #[.int .i64 c]), .int .i64 i, .int .i64 j] w fun e w' => e = .returned (.agg (row 8 (trI p f i j))) ∧ Below w.heap.size w w' := by
 have Hf := Lib.hid hf; clear hf
 have i8 : (i : Int) < 8 := by omega
 have j8 : (j : Int) < 8 := by omega
 have e1 : (hopx p n f #[.int .i64 c])[522 + i]? = some (.int .u8 (coF f i)) := (hopx_at p n f _ (by omega)).trans (hop_cq p n f i hi)
 have e2 := fun h => el_of e1 h
 have b1 := (co_bytes Hf.out i (by omega)).1
 have b2 := (co_bytes Hf.out i (by omega)).2
 have l1 : 522 + i < 1106 := by omega
 have l2 : 522 + i < 1107 := by omega
 have l3 : 522 + i + 1 ≤ 1107 := by omega
 have l4 : i < 8 := hi
 go_enter Try.func188, Try.ntmps188
 go_wp2_with fail
 refine atomC fun W1 e1 => ?_
 have hb1 : Below w.heap.size w W1 := by rw [e1]; exact bt
 have q1 := hb1.size
 have R1 : IsRow W1 (w.heap.size) ∧ IsRow W1 (w.heap.size + 1) := by rw [e1]; simp [go_sem]
 obtain ⟨r3_1, r6_1⟩ := R1
 have C1 := (⟨congrArg (blk · (w.heap.size)) e1, congrArg (blk · (w.heap.size + 1)) e1⟩ : _ ∧ _); simp [go_sem] at C1
 obtain ⟨c3_1, c6_1⟩ := C1
 have z3_1 := isRow_lt r3_1; have z6_1 := isRow_lt r6_1
 clear e1
 refine (basisAt j hj _).mono ?_; rintro _ W2 ⟨rfl, hw2⟩
 obtain ⟨r3_2, c3_2, z3_2⟩ := keepZ hw2 z3_1 r3_1 c3_1
 obtain ⟨r6_2, c6_2, z6_2⟩ := keepZ hw2 z6_1 r6_1 c6_1
 obtain ⟨hb2, q2⟩ := bN hb1 hw2
 clear hw2 r3_1 c3_1 z3_1 r6_1 c6_1 z6_1 hb1
 go_wp2
 have nw3_W2_0 : (w.heap.size) ≠ W2.heap.size := by omega
 have nw6_W2_0 : (w.heap.size + 1) ≠ W2.heap.size := by omega
 refine atomW fun W3 e3 => ?_
 have hb3 : Below w.heap.size w W3 := by rw [e3]; exact bt
 have q3 := hb3.size
 have R3 : IsRow W3 (w.heap.size) ∧ IsRow W3 (w.heap.size + 1) ∧ IsRow W3 (W2.heap.size) := by rw [e3]; simp [go_sem, r3_2, c3_2, r6_2, c6_2, nw3_W2_0, nw6_W2_0]
 obtain ⟨r3_3, r6_3, r7_3⟩ := R3
 have C3 := (⟨congrArg (blk · (w.heap.size)) e3, congrArg (blk · (w.heap.size + 1)) e3, congrArg (blk · (W2.heap.size)) e3⟩ : _ ∧ _ ∧ _); simp [go_sem, r3_2, c3_2, r6_2, c6_2, nw3_W2_0, nw6_W2_0] at C3
 obtain ⟨c3_3, c6_3, c7_3⟩ := C3
 have z3_3 := isRow_lt r3_3; have z6_3 := isRow_lt r6_3; have z7_3 := isRow_lt r7_3
 have n3_7 : (w.heap.size) ≠ (W2.heap.size) := by omega
 have n6_7 : (w.heap.size + 1) ≠ (W2.heap.size) := by omega
 have n7_3 : (W2.heap.size) ≠ (w.heap.size) := by omega
 have n7_6 : (W2.heap.size) ≠ (w.heap.size + 1) := by omega
 clear e3 nw3_W2_0 nw6_W2_0 r3_2 c3_2 z3_2 r6_2 c6_2 z6_2 hb2
 refine wp_quiet_tail 9 (Below W3.heap.size W3) (by kernel_rfl) (by kernel_rfl) (Below.refl _ _).drew ?_
 simp only [List.take_succ_cons, List.take_zero, List.drop_succ_cons, List.drop_zero]
 iterate 9 (refine q_plain rfl ?_; apply Exists.intro; refine ⟨fun W hW => ?_, ?_⟩; (focus (obtain ⟨x3, y3⟩ := keepB hW z3_3 r3_3 c3_3; obtain ⟨x6, y6⟩ := keepB hW z6_3 r6_3 c6_3; obtain ⟨x7, y7⟩ := keepB hW z7_3 r7_3 c7_3; go_simp; first | done | rfl)); simp only [Act.put, List.setIfInBounds_toArray, List.set_cons_zero, List.set_cons_succ])
 refine wpQuiet_nil ?_
 intro W4 hw4
 obtain ⟨r3_4, c3_4, z3_4⟩ := keepZ hw4 z3_3 r3_3 c3_3
 obtain ⟨r6_4, c6_4, z6_4⟩ := keepZ hw4 z6_3 r6_3 c6_3
 obtain ⟨r7_4, c7_4, z7_4⟩ := keepZ hw4 z7_3 r7_3 c7_3
 obtain ⟨hb4, q4⟩ := bN hb3 hw4
 clear hw4 r3_3 c3_3 z3_3 r6_3 c6_3 z6_3 r7_3 c7_3 z7_3 hb3
 go_wp2_with fail
 refine (scaleRow_any p (coF f i) _ 8 8 (ebas j) _ hp hp' b1 b2 (by omega) (by omega) r7_4 c7_4 (ebas_bytes j)).mono ?_; rintro _ W5 ⟨rfl, hw5, r7_5, c7_5⟩
 obtain ⟨r6_5, c6_5⟩ := keepA hw5 z6_4 (by first | assumption | (simp; done) | omega) r6_4 c6_4
 have z6_5 := isRow_lt r6_5
 have z7_5 := isRow_lt r7_5
 have hb5 := Below.aside hb4 hw5 (by omega)
 have q5 := hb5.size
 clear hw5 r6_4 c6_4 z6_4 r7_4 c7_4 z7_4 hb4
 go_wp2_with fail
 refine bodyPost_ret (result_cell rfl aggVec _ _ (row 8 (scK p (coF f i) (ebas j) 8)) _ rfl ?_ ?_) rfl ⟨rfl, ?_⟩
 · simp [go_sem, r6_5, c6_5, n6_7, r7_5, c7_5, n7_3, n7_6]
 · simp [go_sem, r6_5, c6_5, n6_7, r7_5, c7_5, n7_3, n7_6]
 · exact bt

set_option maxRecDepth 100000 in
set_option maxHeartbeats 1000000 in
theorem moduleOf_triv (p : Int) (n c : Nat) (f : Nat → Int) (w : World) (hp : 0 < p) (hp' : p ≤ 255) (hf : Bytes 1104 f) (hn : n ≤ 8) (hc : c ≤ 8) :
    Calls Try.prog 70 #[.agg (hop p n f), .iface 105 (.agg (hopx p n f #[.int .i64 c]))] w fun e w' => e = .returned (.agg (mdl c (finM n c (trI p f)))) ∧ Below w.heap.size w w' := by
 have Hf := Lib.hid hf; clear hf
 go_enter Try.func70, Try.ntmps70
 go_wp2_with fail
 refine atomC fun W1 e1 => ?_
 have hb1 : Below w.heap.size w W1 := by rw [e1]; exact bt
 have q1 := hb1.size
 have R1 : IsRow W1 (w.heap.size) ∧ IsRow W1 (w.heap.size + 1) := by rw [e1]; simp [go_sem]
 obtain ⟨r2_1, r4_1⟩ := R1
 have C1 := (⟨congrArg (blk · (w.heap.size)) e1, congrArg (blk · (w.heap.size + 1)) e1⟩ : _ ∧ _); simp [go_sem] at C1
 obtain ⟨c2_1, c4_1⟩ := C1
 have z2_1 := isRow_lt r2_1; have z4_1 := isRow_lt r4_1
 clear e1
 refine (tdim_any p n c f _).mono ?_; rintro _ W2 ⟨rfl, hw2⟩
 obtain ⟨r2_2, c2_2, z2_2⟩ := keepZ hw2 z2_1 r2_1 c2_1
 obtain ⟨r4_2, c4_2, z4_2⟩ := keepZ hw2 z4_1 r4_1 c4_1
 obtain ⟨hb2, q2⟩ := bN hb1 hw2
 clear hw2 r2_1 c2_1 z2_1 r4_1 c4_1 z4_1 hb1
 go_wp2
 have nw4_W2_0 : (w.heap.size + 1) ≠ W2.heap.size := by omega
 refine atomW fun W3 e3 => ?_
 have hb3 : Below w.heap.size w W3 := by rw [e3]; exact bt
 have q3 := hb3.size
 have R3 : IsRow W3 (w.heap.size + 1) ∧ IsRow W3 (W2.heap.size) := by rw [e3]; simp [go_sem, r4_2, c4_2, nw4_W2_0, r2_2]
 obtain ⟨r4_3, r5_3⟩ := R3
 have C3 := (⟨congrArg (blk · (w.heap.size + 1)) e3, congrArg (blk · (W2.heap.size)) e3⟩ : _ ∧ _); simp [go_sem, r4_2, c4_2, nw4_W2_0, r2_2] at C3
 obtain ⟨c4_3, c5_3⟩ := C3
 have z4_3 := isRow_lt r4_3; have z5_3 := isRow_lt r5_3
 have n4_5 : (w.heap.size + 1) ≠ (W2.heap.size) := by omega
 have n5_4 : (W2.heap.size) ≠ (w.heap.size + 1) := by omega
 clear e3 nw4_W2_0 r4_2 c4_2 z4_2 hb2
 go_loopw [13] (fun s13 wr => ∃ i : Nat, i ≤ n ∧ s13 = .int .i64 i ∧ Below w.heap.size w wr ∧ (IsRow wr (w.heap.size + 1) ∧ blk wr (w.heap.size + 1) = blk W3 (w.heap.size + 1)) ∧ (IsRow wr (W2.heap.size) ∧ blk wr (W2.heap.size) = mdl c (finK c (trI p f) i 0))) (fun s13 _ => n - (intOf s13).toNat)
 case atStart => exact ⟨0, by omega, rfl, hb3, ⟨r4_3, rfl⟩, ⟨r5_3, c5_3.trans (fin_zero c c (trI p f))⟩⟩
 case round =>
  obtain ⟨i, hle4, rfl, hb4, ⟨r4_4, c4_4⟩, ⟨r5_4, c5_4⟩⟩ := hrel
  obtain ⟨W4, rfl⟩ : ∃ W4 : World, W4 = wr := ⟨_, rfl⟩
  have q4 := hb4.size
  have E4_4 := Lib.hid c4_3; replace c4_4 := c4_4.trans c4_3
  have z4_4 := isRow_lt r4_4
  have z5_4 := isRow_lt r5_4
  clear r4_3 c4_3 z4_3 r5_3 c5_3 z5_3 hb3
  by_cases hlt4 : i < n
  ·
   have i0_4 : (0 : Int) ≤ (i : Int) := by omega
   have i8_4 : (i : Int) < 8 := by omega
   have k8_4 : i < 8 := by omega
   have m8_4 : i * 8 + 8 ≤ 64 := by omega
   have m64_4 : i * 64 + 64 ≤ 512 := by omega
   have l1_4 : 10 + i * 64 + 64 ≤ 522 := by omega
   go_wp2_with fail
   refine (tdim_any p n c f _).mono ?_; rintro _ W5 ⟨rfl, hw5⟩
   obtain ⟨r4_5, c4_5, z4_5⟩ := keepZ hw5 z4_4 r4_4 c4_4
   obtain ⟨r5_5, c5_5, z5_5⟩ := keepZ hw5 z5_4 r5_4 c5_4
   obtain ⟨hb5, q5⟩ := bN hb4 hw5
   clear hw5 r4_4 c4_4 z4_4 r5_4 c5_4 z5_4 hb4
   go_wp2
   go_loopw [18] (fun s18 wr => ∃ j : Nat, j ≤ c ∧ s18 = .int .i64 j ∧ Below w.heap.size w wr ∧ (IsRow wr (w.heap.size + 1) ∧ blk wr (w.heap.size + 1) = blk W5 (w.heap.size + 1)) ∧ (IsRow wr (W2.heap.size) ∧ blk wr (W2.heap.size) = mdl c (finK c (trI p f) i j))) (fun s18 _ => c - (intOf s18).toNat)
   case atStart => exact ⟨0, by omega, rfl, hb5, ⟨r4_5, rfl⟩, ⟨r5_5, c5_5⟩⟩
   case round =>
    obtain ⟨j, hle6, rfl, hb6, ⟨r4_6, c4_6⟩, ⟨r5_6, c5_6⟩⟩ := hrel
    obtain ⟨W6, rfl⟩ : ∃ W6 : World, W6 = wr := ⟨_, rfl⟩
    have q6 := hb6.size
    have E4_6 := Lib.hid c4_5; replace c4_6 := c4_6.trans c4_5
    have z4_6 := isRow_lt r4_6
    have z5_6 := isRow_lt r5_6
    clear r4_5 c4_5 z4_5 r5_5 c5_5 z5_5 hb5
    by_cases hlt6 : j < c
    ·
     have i0_6 : (0 : Int) ≤ (j : Int) := by omega
     have i8_6 : (j : Int) < 8 := by omega
     have k8_6 : j < 8 := by omega
     have m8_6 : j * 8 + 8 ≤ 64 := by omega
     have m64_6 : j * 64 + 64 ≤ 512 := by omega
     have l1_6 : 10 + j * 64 + 64 ≤ 522 := by omega
     have l2_6i : 10 + i * 64 + j * 8 + 8 ≤ 522 := by omega
     have l3_6i : 10 + j * 64 + i * 8 + 8 ≤ 522 := by omega
     have l4_6i : i * 64 + j * 8 + 8 ≤ 512 := by omega
     have l5_6i : j * 64 + i * 8 + 8 ≤ 512 := by omega
     have l6_6i : i * 8 + j < 64 := by omega
     have l7_6i : j * 8 + i < 64 := by omega
     have l6 : 1 + i * 64 + 64 ≤ 513 := by omega
     have l7 : 1 + i * 64 + j * 8 + 8 ≤ 513 := by omega
     go_wp2
     refine wp_quiet_tail 9 (Below W6.heap.size W6) (by kernel_rfl) (by kernel_rfl) (Below.refl _ _).drew ?_
     simp only [List.take_succ_cons, List.take_zero, List.drop_succ_cons, List.drop_zero]
     iterate 5 (refine q_plain rfl ?_; apply Exists.intro; refine ⟨fun W hW => ?_, ?_⟩; (focus (obtain ⟨x4, y4⟩ := keepB hW z4_6 r4_6 c4_6; obtain ⟨x5, y5⟩ := keepB hW z5_6 r5_6 c5_6; go_simp; first | done | rfl)); simp only [Act.put, List.setIfInBounds_toArray, List.set_cons_zero, List.set_cons_succ])
     (refine q_plain rfl ?_; apply Exists.intro; refine ⟨fun W hW => ?_, ?_⟩; (focus (obtain ⟨x4, y4⟩ := keepB hW z4_6 r4_6 c4_6; obtain ⟨x5, y5⟩ := keepB hW z5_6 r5_6 c5_6; go_simp; (go_at_call 188; exact (timage_any p n c i j f _ hp hp' Hf.out hn hc (by omega) (by omega)).mono fun e w2 ⟨he, hw2⟩ => ⟨he, hW.trans (hw2.mono hW.size)⟩))); simp only [Act.put, List.setIfInBounds_toArray, List.set_cons_zero, List.set_cons_succ])
     iterate 3 (refine q_plain rfl ?_; apply Exists.intro; refine ⟨fun W hW => ?_, ?_⟩; (focus (obtain ⟨x4, y4⟩ := keepB hW z4_6 r4_6 c4_6; obtain ⟨x5, y5⟩ := keepB hW z5_6 r5_6 c5_6; go_simp; first | done | rfl)); simp only [Act.put, List.setIfInBounds_toArray, List.set_cons_zero, List.set_cons_succ])
     refine wpQuiet_nil ?_
     intro W7 hw7
     obtain ⟨r4_7, c4_7, z4_7⟩ := keepZ hw7 z4_6 r4_6 c4_6
     obtain ⟨r5_7, c5_7, z5_7⟩ := keepZ hw7 z5_6 r5_6 c5_6
     obtain ⟨hb7, q7⟩ := bN hb6 hw7
     clear hw7 r4_6 c4_6 z4_6 r5_6 c5_6 z5_6 hb6
     go_wp2
     go_roundw
     case rel => exact ⟨j + 1, by omega, by go_num, bt, ⟨by simp [go_sem, r4_7, c4_7, n4_5, r5_7, c5_7, n5_4], (by rw [E4_6.out]; first | exact c4_7 | (simp [go_sem, r4_7, c4_7, n4_5, r5_7, c5_7, n5_4]; done))⟩, ⟨by simp [go_sem, r4_7, c4_7, n4_5, r5_7, c5_7, n5_4], (by first | (rw [blk_setRow _ _ _ _ r5_7, if_pos rfl]; exact fin_step (by omega) (by omega) (by omega)) | exact (c5_7).trans (fin_step (by omega) (by omega) (by omega)) | (simp [go_sem, r4_7, c4_7, n4_5, r5_7, c5_7, n5_4]; exact fin_step (by omega) (by omega) (by omega)))⟩⟩
     case measure => simp [intOf]; try omega
    ·
     obtain rfl : c = j := by omega
     go_wp2
     go_roundw
     case rel => exact ⟨i + 1, by omega, by go_num, bt, ⟨by simp [go_sem, r4_6, c4_6, n4_5, r5_6, c5_6, n5_4], (by rw [E4_4.out]; first | exact c4_6 | (simp [go_sem, r4_6, c4_6, n4_5, r5_6, c5_6, n5_4]; done))⟩, ⟨by simp [go_sem, r4_6, c4_6, n4_5, r5_6, c5_6, n5_4], (by first | exact (c5_6).trans (fin_row _ _ _ _) | (simp [go_sem, r4_6, c4_6, n4_5, r5_6, c5_6, n5_4]; exact fin_row _ _ _ _))⟩⟩
     case measure => simp [intOf]; try omega
  ·
   obtain rfl : n = i := by omega
   rw [fin_end] at c5_4
   go_wp2_with fail
   refine bodyPost_ret (result_cell rfl aggMod _ _ (mdl c (finM n c (trI p f))) _ rfl ?_ ?_) rfl ⟨rfl, ?_⟩
   · simp [go_sem, r4_4, c4_4, n4_5, r5_4, c5_4, n5_4]
   · simp [go_sem, r4_4, c4_4, n4_5, r5_4, c5_4, n5_4]
   · exact bt

theorem moduleOf_trivZ (p : Int) (n : Nat) (c : Int) (f : Nat → Int) (w : World) (hp : 0 < p) (hp' : p ≤ 255) (hf : Bytes 1104 f) (hn : n ≤ 8) (hr : 1 ≤ c ∧ c ≤ 8) : Calls Try.prog 70 #[.agg (hop p n f), .iface 105 (.agg (hopx p n f #[.int .i64 c]))] w fun e w' => e = .returned (.agg (mdl c (finM n c.toNat (trI p f)))) ∧ Below w.heap.size w w' := by
  obtain ⟨c, rfl⟩ := Int.eq_ofNat_of_zero_le (show 0 ≤ c by omega)
  exact moduleOf_triv p n c f w hp hp' hf hn (by omega)

/-- ErrNone, ErrInvalid, ErrRange -/
def trC (p n : Int) (f : Nat → Int) (c : Int) : Int := match hopfB p n f with | false => 1 | true => if 1 ≤ c ∧ c ≤ 8 then 0 else 2
def trOk (p n : Int) (f : Nat → Int) (c : Int) : Bool := hopfB p n f && (decide (1 ≤ c) && decide (c ≤ 8))
theorem tr_no1 {p n : Int} {f : Nat → Int} {c : Int} (h : hopfB p n f = false) : trC p n f c = 1 ∧ trOk p n f c = false := by unfold trC trOk; rw [h]; exact ⟨rfl, rfl⟩
theorem tr_no2 {p n : Int} {f : Nat → Int} {c : Int} (h : hopfB p n f = true) (h2 : ¬ (1 ≤ c ∧ c ≤ 8)) : trC p n f c = 2 ∧ trOk p n f c = false := by
  unfold trC trOk; rw [h]
  exact ⟨if_neg h2, by rw [Bool.true_and, Bool.and_eq_false_iff]; rcases Decidable.not_and_iff_or_not.1 h2 with h | h; exact .inl (decide_eq_false h); exact .inr (decide_eq_false h)⟩
theorem tr_yes {p n : Int} {f : Nat → Int} {c : Int} (h : hopfB p n f = true) (h2 : 1 ≤ c ∧ c ≤ 8) : trC p n f c = 0 ∧ trOk p n f c = true := by
  unfold trC trOk; rw [h]
  exact ⟨if_pos h2, by rw [decide_eq_true h2.1, decide_eq_true h2.2]; rfl⟩
theorem ret_mod2 {d e a b : Int} {F G : Nat → Int} (h : mdl d F = mdl e G) (h2 : a = b) : Ending.returned (.tuple #[.agg (mdl d F), .int .i64 a]) = .returned (.tuple #[.agg (mdl e G), .int .i64 b]) := by rw [h, h2]
theorem hopf_co {p : Int} {n : Nat} {f : Nat → Int} (h : hopfB p n f = true) (hf : Bytes 1104 f) {i : Nat} (hi : i < 8) : 0 ≤ coF f i ∧ coF f i < p := ⟨(co_bytes hf i (by omega)).1, ((vecB_iff p n _).1 (shape_parts (shapeH_parts (hopf_shape h)).2.1).2.1 i hi).1⟩

set_option maxRecDepth 100000 in
set_option maxHeartbeats 1000000 in
theorem implTriv_any (p n : Int) (f : Nat → Int) (c : Int) (w : World) (hf : Bytes 1104 f) :
    Calls Try.prog 32 #[.agg (hop p n f), .int .i64 c] w fun e w' => e = .returned (.tuple #[.agg (mdl (onlyI (trOk p n f c) c) (onlyF (trOk p n f c) (finM n.toNat c.toNat (trG f)))), .int .i64 (trC p n f c)]) ∧ Below w.heap.size w w' := by
 have Hf := Lib.hid hf; clear hf
 cases hh : hopfB p n f
 ·
  have H := Lib.hid (tr_no1 (c := c) hh)
  go_enter Try.func32, Try.ntmps32
  go_wp2_with fail
  refine atomC fun W1 e1 => ?_
  have hb1 : Below w.heap.size w W1 := by rw [e1]; exact bt
  have q1 := hb1.size
  have R1 : IsRow W1 (w.heap.size) ∧ IsRow W1 (w.heap.size + 1) := by rw [e1]; simp [go_sem]
  obtain ⟨r2_1, r4_1⟩ := R1
  have C1 := (⟨congrArg (blk · (w.heap.size)) e1, congrArg (blk · (w.heap.size + 1)) e1⟩ : _ ∧ _); simp [go_sem] at C1
  obtain ⟨c2_1, c4_1⟩ := C1
  have z2_1 := isRow_lt r2_1; have z4_1 := isRow_lt r4_1
  clear e1
  refine (isHopf_any _ _ _ _ Hf.out).mono ?_; rintro _ W2 ⟨rfl, hw2⟩
  obtain ⟨r2_2, c2_2, z2_2⟩ := keepZ hw2 z2_1 r2_1 c2_1
  obtain ⟨r4_2, c4_2, z4_2⟩ := keepZ hw2 z4_1 r4_1 c4_1
  obtain ⟨hb2, q2⟩ := bN hb1 hw2
  clear hw2 r2_1 c2_1 z2_1 r4_1 c4_1 z4_1 hb1
  go_wp2_with fail
  refine bodyPost_ret (result_cell_tmp rfl aggMod _ _ (mdl 0 zf) _ _ rfl rfl ?_ ?_) rfl ⟨ret_mod2 (by rw [H.out.2] <;> rfl) H.out.1.symm, ?_⟩
  · simp [go_sem, r2_2, c2_2, r4_2, c4_2]
  · simp [go_sem, r2_2, c2_2, r4_2, c4_2]
  · exact bt
 ·
  by_cases hlo : c < 1
  ·
   have hr : ¬ (1 ≤ c ∧ c ≤ 8) := by omega
   have h2 : ¬ (1 ≤ c ∧ c ≤ 8) := hr
   have H := Lib.hid (tr_no2 hh h2)
   go_enter Try.func32, Try.ntmps32
   go_wp2_with fail
   refine atomC fun W3 e3 => ?_
   have hb3 : Below w.heap.size w W3 := by rw [e3]; exact bt
   have q3 := hb3.size
   have R3 : IsRow W3 (w.heap.size) ∧ IsRow W3 (w.heap.size + 1) := by rw [e3]; simp [go_sem]
   obtain ⟨r2_3, r4_3⟩ := R3
   have C3 := (⟨congrArg (blk · (w.heap.size)) e3, congrArg (blk · (w.heap.size + 1)) e3⟩ : _ ∧ _); simp [go_sem] at C3
   obtain ⟨c2_3, c4_3⟩ := C3
   have z2_3 := isRow_lt r2_3; have z4_3 := isRow_lt r4_3
   clear e3
   refine (isHopf_any _ _ _ _ Hf.out).mono ?_; rintro _ W4 ⟨rfl, hw4⟩
   obtain ⟨r2_4, c2_4, z2_4⟩ := keepZ hw4 z2_3 r2_3 c2_3
   obtain ⟨r4_4, c4_4, z4_4⟩ := keepZ hw4 z4_3 r4_3 c4_3
   obtain ⟨hb4, q4⟩ := bN hb3 hw4
   clear hw4 r2_3 c2_3 z2_3 r4_3 c4_3 z4_3 hb3
   go_wp2_with fail
   refine bodyPost_ret (result_cell_tmp rfl aggMod _ _ (mdl 0 zf) _ _ rfl rfl ?_ ?_) rfl ⟨ret_mod2 (by rw [H.out.2] <;> rfl) H.out.1.symm, ?_⟩
   · simp [go_sem, r2_4, c2_4, r4_4, c4_4]
   · simp [go_sem, r2_4, c2_4, r4_4, c4_4]
   · exact bt
  ·
   by_cases hhi : 8 < c
   ·
    have hr : ¬ (1 ≤ c ∧ c ≤ 8) := by omega
    have h2 : ¬ (1 ≤ c ∧ c ≤ 8) := hr
    have H := Lib.hid (tr_no2 hh h2)
    go_enter Try.func32, Try.ntmps32
    go_wp2_with fail
    refine atomC fun W5 e5 => ?_
    have hb5 : Below w.heap.size w W5 := by rw [e5]; exact bt
    have q5 := hb5.size
    have R5 : IsRow W5 (w.heap.size) ∧ IsRow W5 (w.heap.size + 1) := by rw [e5]; simp [go_sem]
    obtain ⟨r2_5, r4_5⟩ := R5
    have C5 := (⟨congrArg (blk · (w.heap.size)) e5, congrArg (blk · (w.heap.size + 1)) e5⟩ : _ ∧ _); simp [go_sem] at C5
    obtain ⟨c2_5, c4_5⟩ := C5
    have z2_5 := isRow_lt r2_5; have z4_5 := isRow_lt r4_5
    clear e5
    refine (isHopf_any _ _ _ _ Hf.out).mono ?_; rintro _ W6 ⟨rfl, hw6⟩
    obtain ⟨r2_6, c2_6, z2_6⟩ := keepZ hw6 z2_5 r2_5 c2_5
    obtain ⟨r4_6, c4_6, z4_6⟩ := keepZ hw6 z4_5 r4_5 c4_5
    obtain ⟨hb6, q6⟩ := bN hb5 hw6
    clear hw6 r2_5 c2_5 z2_5 r4_5 c4_5 z4_5 hb5
    go_wp2_with fail
    refine bodyPost_ret (result_cell_tmp rfl aggMod _ _ (mdl 0 zf) _ _ rfl rfl ?_ ?_) rfl ⟨ret_mod2 (by rw [H.out.2] <;> rfl) H.out.1.symm, ?_⟩
    · simp [go_sem, r2_6, c2_6, r4_6, c4_6]
    · simp [go_sem, r2_6, c2_6, r4_6, c4_6]
    · exact bt
   ·
    have hr : 1 ≤ c ∧ c ≤ 8 := by omega
    have d1 : decide (c < 1) = false := decide_eq_false hlo
    have d2 : decide (8 < c) = false := decide_eq_false hhi
    obtain ⟨hp2, hp31, hn1, hn8⟩ := sizes_range (hopf_sizes hh)
    obtain ⟨n, rfl⟩ := Int.eq_ofNat_of_zero_le (show 0 ≤ n by omega)
    have hp : 0 < p := by omega
    have hp' : p ≤ 255 := by omega
    have hn : n ≤ 8 := by omega
    have HH := Lib.hid hh
    have H := Lib.hid (tr_yes HH.out hr)
    have HE : Hid (mdl c (finM n c.toNat (trI p f)) = mdl c (finM n c.toNat (trG f))) := Lib.hid (fin_congr fun i j t hi _ ht => sc_ebas (j := j) (hopf_co HH.out Hf.out (i := i) (by omega)) ht)
    go_enter Try.func32, Try.ntmps32
    go_wp2_with fail
    refine atomC fun W7 e7 => ?_
    have hb7 : Below w.heap.size w W7 := by rw [e7]; exact bt
    have q7 := hb7.size
    have R7 : IsRow W7 (w.heap.size) ∧ IsRow W7 (w.heap.size + 1) := by rw [e7]; simp [go_sem]
    obtain ⟨r2_7, r4_7⟩ := R7
    have C7 := (⟨congrArg (blk · (w.heap.size)) e7, congrArg (blk · (w.heap.size + 1)) e7⟩ : _ ∧ _); simp [go_sem] at C7
    obtain ⟨c2_7, c4_7⟩ := C7
    have z2_7 := isRow_lt r2_7; have z4_7 := isRow_lt r4_7
    clear e7
    refine (isHopf_any _ _ _ _ Hf.out).mono ?_; rintro _ W8 ⟨rfl, hw8⟩
    obtain ⟨r2_8, c2_8, z2_8⟩ := keepZ hw8 z2_7 r2_7 c2_7
    obtain ⟨r4_8, c4_8, z4_8⟩ := keepZ hw8 z4_7 r4_7 c4_7
    obtain ⟨hb8, q8⟩ := bN hb7 hw8
    clear hw8 r2_7 c2_7 z2_7 r4_7 c4_7 z4_7 hb7
    go_wp2_with fail
    refine (moduleOf_trivZ p n c f _ hp hp' Hf.out hn hr).mono ?_; rintro _ W9 ⟨rfl, hw9⟩
    obtain ⟨r4_9, c4_9, z4_9⟩ := keepZ hw9 z4_8 r4_8 c4_8
    obtain ⟨hb9, q9⟩ := bN hb8 hw9
    clear hw9 r4_8 c4_8 z4_8 hb8
    go_wp2_with fail
    refine bodyPost_ret (result_cell_tmp rfl aggMod _ _ (mdl c (finM n c.toNat (trI p f))) _ _ rfl rfl ?_ ?_) rfl ⟨ret_mod2 (by rw [H.out.2]; exact HE.out) H.out.1.symm, ?_⟩
    · simp [go_sem, r4_9, c4_9]
    · simp [go_sem, r4_9, c4_9]
    · exact bt

set_option maxRecDepth 100000 in
set_option maxHeartbeats 1000000 in
theorem l06Trivial_any (p : Int) (n c : Nat) (f : Nat → Int) (w : World) (hn : n ≤ 8) (hc : c ≤ 8) :
    Calls Try.prog 68 #[.agg (hop p n f), .int .i64 c] w fun e w' => e = .returned (.agg (mdl c (finM n c (trG f)))) ∧ Below w.heap.size w w' := by
 go_enter Try.func68, Try.ntmps68
 go_wp2
 refine atomW fun W1 e1 => ?_
 have hb1 : Below w.heap.size w W1 := by rw [e1]; exact bt
 have q1 := hb1.size
 have R1 : IsRow W1 (w.heap.size) ∧ IsRow W1 (w.heap.size + 1) ∧ IsRow W1 (w.heap.size + 2) := by rw [e1]; simp [go_sem]
 obtain ⟨r2_1, r4_1, r5_1⟩ := R1
 have C1 := (⟨congrArg (blk · (w.heap.size)) e1, congrArg (blk · (w.heap.size + 1)) e1, congrArg (blk · (w.heap.size + 2)) e1⟩ : _ ∧ _ ∧ _); simp [go_sem] at C1
 obtain ⟨c2_1, c4_1, c5_1⟩ := C1
 have z2_1 := isRow_lt r2_1; have z4_1 := isRow_lt r4_1; have z5_1 := isRow_lt r5_1
 clear e1
 go_loopw [6] (fun s6 wr => ∃ i : Nat, i ≤ n ∧ s6 = .int .i64 i ∧ Below w.heap.size w wr ∧ (IsRow wr (w.heap.size) ∧ blk wr (w.heap.size) = blk W1 (w.heap.size)) ∧ (IsRow wr (w.heap.size + 1) ∧ blk wr (w.heap.size + 1) = blk W1 (w.heap.size + 1)) ∧ (IsRow wr (w.heap.size + 2) ∧ blk wr (w.heap.size + 2) = mdl c (trP c f i 0))) (fun s6 _ => n - (intOf s6).toNat)
 case atStart => exact ⟨0, by omega, rfl, hb1, ⟨r2_1, rfl⟩, ⟨r4_1, rfl⟩, ⟨r5_1, c5_1.trans (tr_zero c c f)⟩⟩
 case round =>
  obtain ⟨i, hle2, rfl, hb2, ⟨r2_2, c2_2⟩, ⟨r4_2, c4_2⟩, ⟨r5_2, c5_2⟩⟩ := hrel
  obtain ⟨W2, rfl⟩ : ∃ W2 : World, W2 = wr := ⟨_, rfl⟩
  have q2 := hb2.size
  have E2_2 := Lib.hid c2_1; replace c2_2 := c2_2.trans c2_1
  have z2_2 := isRow_lt r2_2
  have E4_2 := Lib.hid c4_1; replace c4_2 := c4_2.trans c4_1
  have z4_2 := isRow_lt r4_2
  have z5_2 := isRow_lt r5_2
  clear r2_1 c2_1 z2_1 r4_1 c4_1 z4_1 r5_1 c5_1 z5_1 hb1
  by_cases hlt2 : i < n
  ·
   have i0_2 : (0 : Int) ≤ (i : Int) := by omega
   have i8_2 : (i : Int) < 8 := by omega
   have k8_2 : i < 8 := by omega
   have m8_2 : i * 8 + 8 ≤ 64 := by omega
   have m64_2 : i * 64 + 64 ≤ 512 := by omega
   have l1_2 : 10 + i * 64 + 64 ≤ 522 := by omega
   have e1 := hop_cq p n f i (by omega)
   have e2 := fun h => hop_ce p n f i (by omega) h
   have l1 : 522 + i < 1106 := by omega
   go_wp2
   go_loopw [7] (fun s7 wr => ∃ k : Nat, k ≤ c ∧ s7 = .int .i64 k ∧ Below w.heap.size w wr ∧ (IsRow wr (w.heap.size) ∧ blk wr (w.heap.size) = blk W2 (w.heap.size)) ∧ (IsRow wr (w.heap.size + 1) ∧ blk wr (w.heap.size + 1) = blk W2 (w.heap.size + 1)) ∧ (IsRow wr (w.heap.size + 2) ∧ blk wr (w.heap.size + 2) = mdl c (trP c f i k))) (fun s7 _ => c - (intOf s7).toNat)
   case atStart => exact ⟨0, by omega, rfl, hb2, ⟨r2_2, rfl⟩, ⟨r4_2, rfl⟩, ⟨r5_2, c5_2⟩⟩
   case round =>
    obtain ⟨k, hle3, rfl, hb3, ⟨r2_3, c2_3⟩, ⟨r4_3, c4_3⟩, ⟨r5_3, c5_3⟩⟩ := hrel
    obtain ⟨W3, rfl⟩ : ∃ W3 : World, W3 = wr := ⟨_, rfl⟩
    have q3 := hb3.size
    have E2_3 := Lib.hid c2_2; replace c2_3 := c2_3.trans c2_2
    have z2_3 := isRow_lt r2_3
    have E4_3 := Lib.hid c4_2; replace c4_3 := c4_3.trans c4_2
    have z4_3 := isRow_lt r4_3
    have z5_3 := isRow_lt r5_3
    clear r2_2 c2_2 z2_2 r4_2 c4_2 z4_2 r5_2 c5_2 z5_2 hb2
    by_cases hlt3 : k < c
    ·
     have i0_3 : (0 : Int) ≤ (k : Int) := by omega
     have i8_3 : (k : Int) < 8 := by omega
     have k8_3 : k < 8 := by omega
     have m8_3 : k * 8 + 8 ≤ 64 := by omega
     have m64_3 : k * 64 + 64 ≤ 512 := by omega
     have l1_3 : 10 + k * 64 + 64 ≤ 522 := by omega
     have l2_3i : 10 + i * 64 + k * 8 + 8 ≤ 522 := by omega
     have l3_3i : 10 + k * 64 + i * 8 + 8 ≤ 522 := by omega
     have l4_3i : i * 64 + k * 8 + 8 ≤ 512 := by omega
     have l5_3i : k * 64 + i * 8 + 8 ≤ 512 := by omega
     have l6_3i : i * 8 + k < 64 := by omega
     have l7_3i : k * 8 + i < 64 := by omega
     have m1 : 1 + i * 64 + k * 8 + k < 513 := by omega
     have m2 : 1 + i * 64 + k * 8 + k + 1 ≤ 513 := by omega
     have m3 : 1 + i * 64 + 64 ≤ 513 := by omega
     have m4 : 1 + i * 64 + k * 8 + 8 ≤ 513 := by omega
     go_wp2
     refine wp_quiet_tail 11 (Below W3.heap.size W3) (by kernel_rfl) (by kernel_rfl) (Below.refl _ _).drew ?_
     simp only [List.take_succ_cons, List.take_zero, List.drop_succ_cons, List.drop_zero]
     iterate 11 (refine q_plain rfl ?_; apply Exists.intro; refine ⟨fun W hW => ?_, ?_⟩; (focus (obtain ⟨x2, y2⟩ := keepB hW z2_3 r2_3 c2_3; obtain ⟨x4, y4⟩ := keepB hW z4_3 r4_3 c4_3; obtain ⟨x5, y5⟩ := keepB hW z5_3 r5_3 c5_3; go_simp; first | done | rfl)); simp only [Act.put, List.setIfInBounds_toArray, List.set_cons_zero, List.set_cons_succ])
     refine wpQuiet_nil ?_
     intro W4 hw4
     obtain ⟨r2_4, c2_4, z2_4⟩ := keepZ hw4 z2_3 r2_3 c2_3
     obtain ⟨r4_4, c4_4, z4_4⟩ := keepZ hw4 z4_3 r4_3 c4_3
     obtain ⟨r5_4, c5_4, z5_4⟩ := keepZ hw4 z5_3 r5_3 c5_3
     obtain ⟨hb4, q4⟩ := bN hb3 hw4
     clear hw4 r2_3 c2_3 z2_3 r4_3 c4_3 z4_3 r5_3 c5_3 z5_3 hb3
     go_wp2
     go_roundw
     case rel => exact ⟨k + 1, by omega, by go_num, bt, ⟨by simp [go_sem, r2_4, c2_4, r4_4, c4_4, r5_4, c5_4], (by rw [E2_3.out]; first | exact c2_4 | (simp [go_sem, r2_4, c2_4, r4_4, c4_4, r5_4, c5_4]; done))⟩, ⟨by simp [go_sem, r2_4, c2_4, r4_4, c4_4, r5_4, c5_4], (by rw [E4_3.out]; first | exact c4_4 | (simp [go_sem, r2_4, c2_4, r4_4, c4_4, r5_4, c5_4]; done))⟩, ⟨by simp [go_sem, r2_4, c2_4, r4_4, c4_4, r5_4, c5_4], (by first | (rw [blk_setRow _ _ _ _ r5_4, if_pos rfl]; exact tr_step (by omega) (by omega) hc) | exact (c5_4).trans (tr_step (by omega) (by omega) hc) | (simp [go_sem, r2_4, c2_4, r4_4, c4_4, r5_4, c5_4]; exact tr_step (by omega) (by omega) hc))⟩⟩
     case measure => simp [intOf]; try omega
    ·
     obtain rfl : c = k := by omega
     go_wp2
     go_roundw
     case rel => exact ⟨i + 1, by omega, by go_num, bt, ⟨by simp [go_sem, r2_3, c2_3, r4_3, c4_3, r5_3, c5_3], (by rw [E2_2.out]; first | exact c2_3 | (simp [go_sem, r2_3, c2_3, r4_3, c4_3, r5_3, c5_3]; done))⟩, ⟨by simp [go_sem, r2_3, c2_3, r4_3, c4_3, r5_3, c5_3], (by rw [E4_2.out]; first | exact c4_3 | (simp [go_sem, r2_3, c2_3, r4_3, c4_3, r5_3, c5_3]; done))⟩, ⟨by simp [go_sem, r2_3, c2_3, r4_3, c4_3, r5_3, c5_3], (by first | exact (c5_3).trans (tr_row) | (simp [go_sem, r2_3, c2_3, r4_3, c4_3, r5_3, c5_3]; exact tr_row))⟩⟩
     case measure => simp [intOf]; try omega
  ·
   obtain rfl : n = i := by omega
   rw [tr_end] at c5_2
   go_wp2_with fail
   refine bodyPost_ret (result_cell rfl aggMod _ _ (mdl c (finM n c (trG f))) _ rfl ?_ ?_) rfl ⟨rfl, ?_⟩
   · simp [go_sem, r2_2, c2_2, r4_2, c4_2, r5_2, c5_2]
   · simp [go_sem, r2_2, c2_2, r4_2, c4_2, r5_2, c5_2]
   · exact bt

theorem l06TrivialZ (p : Int) (n : Nat) (c : Int) (f : Nat → Int) (w : World) (hp : 0 < p) (hp' : p ≤ 255) (hf : Bytes 1104 f) (hn : n ≤ 8) (hr : 1 ≤ c ∧ c ≤ 8) : Calls Try.prog 68 #[.agg (hop p n f), .int .i64 c] w fun e w' => e = .returned (.agg (mdl c (finM n c.toNat (trG f)))) ∧ Below w.heap.size w w' := by
  obtain ⟨c, rfl⟩ := Int.eq_ofNat_of_zero_le (show 0 ≤ c by omega)
  exact l06Trivial_any p n c f w hn (by omega)

set_option maxRecDepth 100000 in
set_option maxHeartbeats 1000000 in
theorem specTriv_any (p n : Int) (f : Nat → Int) (c : Int) (w : World) (hf : Bytes 1104 f) :
    Calls Try.prog 31 #[.agg (hop p n f), .int .i64 c] w fun e w' => e = .returned (.tuple #[.agg (mdl (onlyI (trOk p n f c) c) (onlyF (trOk p n f c) (finM n.toNat c.toNat (trG f)))), .int .i64 (trC p n f c)]) ∧ Below w.heap.size w w' := by
 have Hf := Lib.hid hf; clear hf
 cases hh : hopfB p n f
 ·
  have H := Lib.hid (tr_no1 (c := c) hh)
  go_enter Try.func31, Try.ntmps31
  go_wp2_with fail
  refine atomC fun W1 e1 => ?_
  have hb1 : Below w.heap.size w W1 := by rw [e1]; exact bt
  have q1 := hb1.size
  have R1 : IsRow W1 (w.heap.size) ∧ IsRow W1 (w.heap.size + 1) := by rw [e1]; simp [go_sem]
  obtain ⟨r2_1, r4_1⟩ := R1
  have C1 := (⟨congrArg (blk · (w.heap.size)) e1, congrArg (blk · (w.heap.size + 1)) e1⟩ : _ ∧ _); simp [go_sem] at C1
  obtain ⟨c2_1, c4_1⟩ := C1
  have z2_1 := isRow_lt r2_1; have z4_1 := isRow_lt r4_1
  clear e1
  refine (l03Is_any _ _ _ _ Hf.out).mono ?_; rintro _ W2 ⟨rfl, hw2⟩
  obtain ⟨r2_2, c2_2, z2_2⟩ := keepZ hw2 z2_1 r2_1 c2_1
  obtain ⟨r4_2, c4_2, z4_2⟩ := keepZ hw2 z4_1 r4_1 c4_1
  obtain ⟨hb2, q2⟩ := bN hb1 hw2
  clear hw2 r2_1 c2_1 z2_1 r4_1 c4_1 z4_1 hb1
  go_wp2_with fail
  refine bodyPost_ret (result_cell_tmp rfl aggMod _ _ (mdl 0 zf) _ _ rfl rfl ?_ ?_) rfl ⟨ret_mod2 (by rw [H.out.2] <;> rfl) H.out.1.symm, ?_⟩
  · simp [go_sem, r2_2, c2_2, r4_2, c4_2]
  · simp [go_sem, r2_2, c2_2, r4_2, c4_2]
  · exact bt
 ·
  cases hin : (decide (1 ≤ c) && decide (c ≤ 8))
  ·
   have hr : ¬ (1 ≤ c ∧ c ≤ 8) := fun h => by rw [decide_eq_true h.1, decide_eq_true h.2] at hin; cases hin
   have h2 : ¬ (1 ≤ c ∧ c ≤ 8) := hr
   have H := Lib.hid (tr_no2 hh h2)
   go_enter Try.func31, Try.ntmps31
   go_wp2_with fail
   refine atomC fun W3 e3 => ?_
   have hb3 : Below w.heap.size w W3 := by rw [e3]; exact bt
   have q3 := hb3.size
   have R3 : IsRow W3 (w.heap.size) ∧ IsRow W3 (w.heap.size + 1) := by rw [e3]; simp [go_sem]
   obtain ⟨r2_3, r4_3⟩ := R3
   have C3 := (⟨congrArg (blk · (w.heap.size)) e3, congrArg (blk · (w.heap.size + 1)) e3⟩ : _ ∧ _); simp [go_sem] at C3
   obtain ⟨c2_3, c4_3⟩ := C3
   have z2_3 := isRow_lt r2_3; have z4_3 := isRow_lt r4_3
   clear e3
   refine (l03Is_any _ _ _ _ Hf.out).mono ?_; rintro _ W4 ⟨rfl, hw4⟩
   obtain ⟨r2_4, c2_4, z2_4⟩ := keepZ hw4 z2_3 r2_3 c2_3
   obtain ⟨r4_4, c4_4, z4_4⟩ := keepZ hw4 z4_3 r4_3 c4_3
   obtain ⟨hb4, q4⟩ := bN hb3 hw4
   clear hw4 r2_3 c2_3 z2_3 r4_3 c4_3 z4_3 hb3
   go_wp2_with fail
   refine (lin_any _ _ _ _).mono ?_; rintro _ _ ⟨rfl, rfl⟩
   go_wp2_with fail
   refine bodyPost_ret (result_cell_tmp rfl aggMod _ _ (mdl 0 zf) _ _ rfl rfl ?_ ?_) rfl ⟨ret_mod2 (by rw [H.out.2] <;> rfl) H.out.1.symm, ?_⟩
   · simp [go_sem, r2_4, c2_4, r4_4, c4_4]
   · simp [go_sem, r2_4, c2_4, r4_4, c4_4]
   · exact bt
  ·
   have hr : 1 ≤ c ∧ c ≤ 8 := by simpa only [Bool.and_eq_true, decide_eq_true_eq] using hin
   obtain ⟨hp2, hp31, hn1, hn8⟩ := sizes_range (hopf_sizes hh)
   obtain ⟨n, rfl⟩ := Int.eq_ofNat_of_zero_le (show 0 ≤ n by omega)
   have hp : 0 < p := by omega
   have hp' : p ≤ 255 := by omega
   have hn : n ≤ 8 := by omega
   have HH := Lib.hid hh
   have H := Lib.hid (tr_yes HH.out hr)
   go_enter Try.func31, Try.ntmps31
   go_wp2_with fail
   refine atomC fun W5 e5 => ?_
   have hb5 : Below w.heap.size w W5 := by rw [e5]; exact bt
   have q5 := hb5.size
   have R5 : IsRow W5 (w.heap.size) ∧ IsRow W5 (w.heap.size + 1) := by rw [e5]; simp [go_sem]
   obtain ⟨r2_5, r4_5⟩ := R5
   have C5 := (⟨congrArg (blk · (w.heap.size)) e5, congrArg (blk · (w.heap.size + 1)) e5⟩ : _ ∧ _); simp [go_sem] at C5
   obtain ⟨c2_5, c4_5⟩ := C5
   have z2_5 := isRow_lt r2_5; have z4_5 := isRow_lt r4_5
   clear e5
   refine (l03Is_any _ _ _ _ Hf.out).mono ?_; rintro _ W6 ⟨rfl, hw6⟩
   obtain ⟨r2_6, c2_6, z2_6⟩ := keepZ hw6 z2_5 r2_5 c2_5
   obtain ⟨r4_6, c4_6, z4_6⟩ := keepZ hw6 z4_5 r4_5 c4_5
   obtain ⟨hb6, q6⟩ := bN hb5 hw6
   clear hw6 r2_5 c2_5 z2_5 r4_5 c4_5 z4_5 hb5
   go_wp2_with fail
   refine (lin_any _ _ _ _).mono ?_; rintro _ _ ⟨rfl, rfl⟩
   go_wp2_with fail
   refine (l06TrivialZ p n c f _ hp hp' Hf.out hn hr).mono ?_; rintro _ W7 ⟨rfl, hw7⟩
   obtain ⟨r4_7, c4_7, z4_7⟩ := keepZ hw7 z4_6 r4_6 c4_6
   obtain ⟨hb7, q7⟩ := bN hb6 hw7
   clear hw7 r4_6 c4_6 z4_6 hb6
   go_wp2_with fail
   refine bodyPost_ret (result_cell_tmp rfl aggMod _ _ (mdl c (finM n c.toNat (trG f))) _ _ rfl rfl ?_ ?_) rfl ⟨ret_mod2 (by rw [H.out.2]; exact rfl) H.out.1.symm, ?_⟩
   · simp [go_sem, r4_7, c4_7]
   · simp [go_sem, r4_7, c4_7]
   · exact bt

set_option maxRecDepth 100000 in
set_option maxHeartbeats 2000000 in
theorem lawTrivialModule (fp fn : Int) (f : Nat → Int) (c : Int) (w : World) (_wfp : (Lit.int .i64 fp).wf = true) (_wfn : (Lit.int .i64 fn).wf = true) (hf : Bytes 1104 f) (_wc : (Lit.int .i64 c).wf = true) :
    Calls Try.prog 8 #[.agg (hop fp fn f), .int .i64 c] w fun e w' => e = .returned (.bool true) ∧ Below w.heap.size w w' := by
 have Hf := Lib.hid hf; clear hf
 go_enter Try.func8, Try.ntmps8
 go_wp2_with fail
 refine atomC fun W1 e1 => ?_
 have hb1 : Below w.heap.size w W1 := by rw [e1]; exact bt
 have q1 := hb1.size
 have r2_1 : IsRow W1 (w.heap.size) := by rw [e1]; simp [go_sem]
 have c2_1 := congrArg (fun x => blk x (w.heap.size)) e1; simp [go_sem] at c2_1
 have z2_1 := isRow_lt r2_1
 clear e1
 refine (toHopf_any _ _ _ _).mono ?_; rintro _ W2 ⟨rfl, hw2⟩
 obtain ⟨r2_2, c2_2, z2_2⟩ := keepZ hw2 z2_1 r2_1 c2_1
 obtain ⟨hb2, q2⟩ := bN hb1 hw2
 clear hw2 r2_1 c2_1 z2_1 hb1
 go_wp2_with fail
 refine (specTriv_any _ _ _ _ _ Hf.out).mono ?_; rintro _ W3 ⟨rfl, hw3⟩
 obtain ⟨r2_3, c2_3, z2_3⟩ := keepZ hw3 z2_2 r2_2 c2_2
 obtain ⟨hb3, q3⟩ := bN hb2 hw3
 clear hw3 r2_2 c2_2 z2_2 hb2
 go_wp2_with fail
 refine atomC fun W4 e4 => ?_
 have hb4 : Below w.heap.size w W4 := by rw [e4]; exact bt
 have q4 := hb4.size
 have r5_4 : IsRow W4 (W3.heap.size) := by rw [e4]; simp [go_sem, r2_3]
 have c5_4 := congrArg (fun x => blk x (W3.heap.size)) e4; simp [go_sem, r2_3] at c5_4
 have z5_4 := isRow_lt r5_4
 clear e4 hb3
 refine (toHopf_any _ _ _ _).mono ?_; rintro _ W5 ⟨rfl, hw5⟩
 obtain ⟨r5_5, c5_5, z5_5⟩ := keepZ hw5 z5_4 r5_4 c5_4
 obtain ⟨hb5, q5⟩ := bN hb4 hw5
 clear hw5 r5_4 c5_4 z5_4 hb4
 go_wp2_with fail
 refine (implTriv_any _ _ _ _ _ Hf.out).mono ?_; rintro _ W6 ⟨rfl, hw6⟩
 obtain ⟨r5_6, c5_6, z5_6⟩ := keepZ hw6 z5_5 r5_5 c5_5
 obtain ⟨hb6, q6⟩ := bN hb5 hw6
 clear hw6 r5_5 c5_5 z5_5 hb5
 go_wp2_with fail
 refine atomC fun W7 e7 => ?_
 have hb7 : Below w.heap.size w W7 := by rw [e7]; exact bt
 have q7 := hb7.size
 clear e7 hb6
 refine (eqModule_same _ _ _).mono ?_; rintro _ W8 ⟨rfl, hw8⟩
 obtain ⟨hb8, q8⟩ := bN hb7 hw8
 clear hw8 hb7
 go_wp2_with fail
 go_ret
 exact ⟨rfl, bt⟩

end Go.Proofs.Ytfmhgfnadgaiaaa
