/- Law FormOf. -/
import Derived.Test.YtjpdpnplnelgcaaGreatJ2
import Derived.Test.YtjpdpnplnelgcaaGreatI4
namespace Go.Proofs.YtjpdpnplnelgcaaGreat
open Go.RowKit
set_option linter.unusedSimpArgs false
set_option linter.unusedVariables false
attribute [local irreducible] wpQuiet wpQE

/-- the values of the first k rows of F -/
def vwK (p : Int) (u F : Nat → Int) (k : Nat) : Nat → Int := fun t => if t < k then dotF 8 u (fun s => F (t * 8 + s)) % p else 0
theorem vw_zero (p : Int) (u F : Nat → Int) : row 8 zf = row 8 (vwK p u F 0) := row_congr fun t _ => by unfold vwK zf; rw [if_neg (by omega)]
theorem vw_step (p : Int) (u F : Nat → Int) (k : Nat) : row 8 (upd (vwK p u F k) k (dotF 8 u (fun s => F (k * 8 + s)) % p)) = row 8 (vwK p u F (k + 1)) := row_congr fun t _ => by
  unfold upd vwK
  by_cases h : t = k
  · subst h; rw [if_pos rfl, if_pos (by omega)]
  · rw [if_neg h]
    exact ifi (by omega) _
/-- the first k images of the form -/
def frK (p : Int) (u f : Nat → Int) (k : Nat) : Nat → Int := fun t => if t / 8 < k then dotF 8 u (fun s => tab f (t / 8 * 64 + (t % 8 * 8 + s))) % p else 0
theorem fr_zero (p : Int) (u f : Nat → Int) : row 64 zf = row 64 (frK p u f 0) := row_congr fun t _ => by unfold frK zf; rw [if_neg (by omega)]
theorem fr_step (p : Int) (u f : Nat → Int) {k : Nat} (hk : k < 8) : lay (row 64 (frK p u f k)) (k * 8) (row 8 (vwK p u (fun s => tab f (k * 64 + s)) 8)) = row 64 (frK p u f (k + 1)) := by
  rw [lay_row _ _ _ _ _ (by omega)]
  refine row_congr fun t ht => ?_
  unfold frK vwK
  by_cases h : k * 8 ≤ t ∧ t < k * 8 + 8
  · rw [if_pos h, if_pos (by omega), if_pos (by omega), show t / 8 = k by omega, show t - k * 8 = t % 8 by omega]
  · rw [if_neg h]
    exact ifi (by omega) _
/-- the form by the model: i images, and j entries of image i -/
def fsK (p : Int) (n : Nat) (u f : Nat → Int) (i j : Nat) : Nat → Int := fun t => if t % 8 < n ∧ (t / 8 < i ∨ (t / 8 = i ∧ t % 8 < j)) then dotF n (mtab f (t / 8) (t % 8)) u % p else 0
theorem fs_zero (p : Int) (n : Nat) (u f : Nat → Int) : row 64 zf = row 64 (fsK p n u f 0 0) := row_congr fun t _ => by unfold fsK zf; rw [if_neg (by omega)]
theorem fs_step (p : Int) {n : Nat} (u f : Nat → Int) {i j : Nat} (hi : i < 8) (hj : j < n) (hn : n ≤ 8) : row 64 (upd (fsK p n u f i j) (i * 8 + j) (dotF n (mtab f i j) u % p)) = row 64 (fsK p n u f i (j + 1)) := row_congr fun t _ => by
  unfold upd
  by_cases h : t = i * 8 + j
  · subst h
    rw [if_pos rfl]
    unfold fsK
    rw [if_pos (by omega), show (i * 8 + j) / 8 = i by omega, show (i * 8 + j) % 8 = j by omega]
  · rw [if_neg h]
    unfold fsK
    exact ifi (by omega) _
theorem fs_row (p : Int) (n : Nat) (u f : Nat → Int) (i : Nat) : row 64 (fsK p n u f i n) = row 64 (fsK p n u f (i + 1) 0) := row_congr fun t _ => by
  unfold fsK
  exact ifi (by omega) _
theorem fs_full {p : Int} {n : Nat} {u f : Nat → Int} (hn : n ≤ 8) (h : shapeH p n f = true) : row 64 (fsK p n u f n 0) = row 64 (frK p u f 8) := row_congr fun t ht => by
  have e : (fun s => tab f (t / 8 * 64 + (t % 8 * 8 + s))) = mtab f (t / 8) (t % 8) := rfl
  unfold fsK frK
  rw [e, if_pos (show t / 8 < 8 by omega)]
  by_cases h2 : t % 8 < n ∧ (t / 8 < n ∨ (t / 8 = n ∧ t % 8 < 0))
  · rw [if_pos h2, dot_full hn fun k h1 h3 => by have := (al_entry h (t / 8) (t % 8) k (by omega) (by omega) h3).2; omega]
  · rw [if_neg h2]
    have z : dotF 8 u (mtab f (t / 8) (t % 8)) = 0 := by
      unfold dotF
      exact sumTo_zero 8 fun k hk => by
        have := (al_entry h (t / 8) (t % 8) k (by omega) (by omega) hk).2
        rw [show mtab f (t / 8) (t % 8) k = 0 by omega, Int.mul_zero]
    rw [z]; rfl

set_option maxRecDepth 100000 in
set_option maxHeartbeats 1000000 in
theorem valuesOf_wgt (p : Int) (u F : Nat → Int) (w : World) (hp : 0 < p) (hp' : p ≤ 255) (hu : Bytes 8 u) (hF : Bytes 64 F) :
    Calls Tryz.prog 83 #[.agg (row 64 F), .func (.func 89) #[.agg (wgt p u)] #[]] w fun e w' => e = .returned (.agg (row 8 (vwK p u F 8))) ∧ Below w.heap.size w w' := by
 have Hu := Lib.hid hu; clear hu
 have HF := Lib.hid hF; clear hF
 go_enter Tryz.func83, Tryz.ntmps83
 go_wp2
 refine atomW fun W1 e1 => ?_
 have hb1 : Below w.heap.size w W1 := by rw [e1]; exact bt
 have q1 := hb1.size
 have R1 : IsRow W1 (w.heap.size + 1) ∧ IsRow W1 (w.heap.size + 2) := by rw [e1]; simp [go_sem]
 obtain ⟨r4_1, r5_1⟩ := R1
 have C1 := (⟨congrArg (blk · (w.heap.size + 1)) e1, congrArg (blk · (w.heap.size + 2)) e1⟩ : _ ∧ _); simp [go_sem] at C1
 obtain ⟨c4_1, c5_1⟩ := C1
 have z4_1 := isRow_lt r4_1; have z5_1 := isRow_lt r5_1
 clear e1
 go_loopw [9] (fun s9 wr => ∃ i : Nat, i ≤ 8 ∧ s9 = .int .i64 i ∧ Below w.heap.size w wr ∧ (IsRow wr (w.heap.size + 1) ∧ blk wr (w.heap.size + 1) = blk W1 (w.heap.size + 1)) ∧ (IsRow wr (w.heap.size + 2) ∧ blk wr (w.heap.size + 2) = row 8 (vwK p u F i))) (fun s9 _ => 8 - (intOf s9).toNat)
 case atStart => exact ⟨0, by omega, rfl, hb1, ⟨r4_1, rfl⟩, ⟨r5_1, c5_1.trans (vw_zero p u F)⟩⟩
 case round =>
  obtain ⟨i, hle2, rfl, hb2, ⟨r4_2, c4_2⟩, ⟨r5_2, c5_2⟩⟩ := hrel
  obtain ⟨W2, rfl⟩ : ∃ W2 : World, W2 = wr := ⟨_, rfl⟩
  have q2 := hb2.size
  have E4_2 := Lib.hid c4_1; replace c4_2 := c4_2.trans c4_1
  have z4_2 := isRow_lt r4_2
  have z5_2 := isRow_lt r5_2
  clear r4_1 c4_1 z4_1 r5_1 c5_1 z5_1 hb1
  by_cases hlt2 : i < 8
  ·
   have i0_2 : (0 : Int) ≤ (i : Int) := by omega
   have i8_2 : (i : Int) < 8 := by omega
   have k8_2 : i < 8 := by omega
   have m8_2 : i * 8 + 8 ≤ 64 := by omega
   have m64_2 : i * 64 + 64 ≤ 512 := by omega
   have l1_2 : 10 + i * 64 + 64 ≤ 522 := by omega
   have HB : Hid (Bytes 8 fun s => F (i * 8 + s)) := Lib.hid fun s _ => HF.out _ (by omega)
   go_wp2_with fail
   have nw4_W2_0 : (w.heap.size + 1) ≠ W2.heap.size := by omega
   have nw5_W2_0 : (w.heap.size + 2) ≠ W2.heap.size := by omega
   refine atomC fun W3 e3 => ?_
   have hb3 : Below w.heap.size w W3 := by rw [e3]; exact bt
   have q3 := hb3.size
   have R3 : IsRow W3 (w.heap.size + 1) ∧ IsRow W3 (w.heap.size + 2) := by rw [e3]; simp [go_sem, r4_2, c4_2, r5_2, c5_2, nw4_W2_0, nw5_W2_0]
   obtain ⟨r4_3, r5_3⟩ := R3
   have C3 := (⟨congrArg (blk · (w.heap.size + 1)) e3, congrArg (blk · (w.heap.size + 2)) e3⟩ : _ ∧ _); simp [go_sem, r4_2, c4_2, r5_2, c5_2, nw4_W2_0, nw5_W2_0] at C3
   obtain ⟨c4_3, c5_3⟩ := C3
   have z4_3 := isRow_lt r4_3; have z5_3 := isRow_lt r5_3
   clear e3 nw4_W2_0 nw5_W2_0 r4_2 c4_2 z4_2 r5_2 c5_2 z5_2 hb2
   refine (value_any p u _ _ hp hp' Hu.out HB.out).mono ?_; rintro _ W4 ⟨rfl, hw4⟩
   obtain ⟨r4_4, c4_4, z4_4⟩ := keepZ hw4 z4_3 r4_3 c4_3
   obtain ⟨r5_4, c5_4, z5_4⟩ := keepZ hw4 z5_3 r5_3 c5_3
   obtain ⟨hb4, q4⟩ := bN hb3 hw4
   clear hw4 r4_3 c4_3 z4_3 r5_3 c5_3 z5_3 hb3
   go_wp2
   go_roundw
   case rel => exact ⟨i + 1, by omega, by go_num, bt, ⟨by simp [go_sem, r4_4, c4_4, r5_4, c5_4], (by rw [E4_2.out]; first | exact c4_4 | (simp [go_sem, r4_4, c4_4, r5_4, c5_4]; done))⟩, ⟨by simp [go_sem, r4_4, c4_4, r5_4, c5_4], (by first | (rw [blk_setRow _ _ _ _ r5_4, if_pos rfl]; exact vw_step p u F i) | exact (c5_4).trans (vw_step p u F i) | (simp [go_sem, r4_4, c4_4, r5_4, c5_4]; exact vw_step p u F i))⟩⟩
   case measure => simp [intOf]; try omega
  ·
   obtain rfl : i = 8 := by omega
   go_wp2_with fail
   refine bodyPost_ret (result_cell rfl aggVec _ _ (row 8 (vwK p u F 8)) _ rfl ?_ ?_) rfl ⟨rfl, ?_⟩
   · simp [go_sem, r4_2, c4_2, r5_2, c5_2]
   · simp [go_sem, r4_2, c4_2, r5_2, c5_2]
   · exact bt

set_option maxRecDepth 100000 in
set_option maxHeartbeats 1000000 in
theorem formOf_any (p : Int) (n : Nat) (f : Nat → Int) (w : World) (hF : Bytes 1104 f) (hc : hopfB p n f = true) :
    Calls Tryz.prog 66 #[.agg (hop p n f)] w fun e w' => e = .returned (.agg (row 64 (frK p (lefG p n (duF f)) f 8))) ∧ Below w.heap.size w w' := by
 have HF := Lib.hid hF; clear hF
 have HO := Lib.hid (dual_intable hc HF.out)
 have hn := HO.out.le
 have hp2 := p2_of HO.out.prime
 have hp : 0 < p := by omega
 have hp' : p ≤ 255 := by have := HO.out.prime; unfold prime31 at this; simp only [Bool.and_eq_true, decide_eq_true_eq] at this; omega
 have HL := Lib.hid (lef_bytes HO.out)
 have Hs := Lib.hid (hopf_shape hc)
 have Hc := Lib.hid hc
 clear hc
 go_enter Tryz.func66, Tryz.ntmps66
 go_wp2
 refine atomW fun W1 e1 => ?_
 have hb1 : Below w.heap.size w W1 := by rw [e1]; exact bt
 have q1 := hb1.size
 have R1 : IsRow W1 (w.heap.size) ∧ IsRow W1 (w.heap.size + 1) := by rw [e1]; simp [go_sem]
 obtain ⟨r1_1, r2_1⟩ := R1
 have C1 := (⟨congrArg (blk · (w.heap.size)) e1, congrArg (blk · (w.heap.size + 1)) e1⟩ : _ ∧ _); simp [go_sem] at C1
 obtain ⟨c1_1, c2_1⟩ := C1
 have z1_1 := isRow_lt r1_1; have z2_1 := isRow_lt r2_1
 clear e1
 refine wp_quiet_all (Below W1.heap.size W1) (by kernel_rfl) (by kernel_rfl) (Below.refl _ _).drew ?_
 iterate 3 (refine q_plain rfl ?_; apply Exists.intro; refine ⟨fun W hW => ?_, ?_⟩; (focus (obtain ⟨x1, y1⟩ := keepB hW z1_1 r1_1 c1_1; obtain ⟨x2, y2⟩ := keepB hW z2_1 r2_1 c2_1; go_simp; first | done | rfl)); simp only [Act.put, List.setIfInBounds_toArray, List.set_cons_zero, List.set_cons_succ])
 (refine q_plain rfl ?_; apply Exists.intro; refine ⟨fun W hW => ?_, ?_⟩; (focus (obtain ⟨x1, y1⟩ := keepB hW z1_1 r1_1 c1_1; obtain ⟨x2, y2⟩ := keepB hW z2_1 r2_1 c2_1; go_simp; (go_at_call 63; exact (cointegral_any p n f _ HF.out Hc.out).mono fun e w2 ⟨he, hw2⟩ => ⟨he, hW.trans (hw2.mono hW.size)⟩))); simp only [Act.put, List.setIfInBounds_toArray, List.set_cons_zero, List.set_cons_succ])
 iterate 3 (refine q_plain rfl ?_; apply Exists.intro; refine ⟨fun W hW => ?_, ?_⟩; (focus (obtain ⟨x1, y1⟩ := keepB hW z1_1 r1_1 c1_1; obtain ⟨x2, y2⟩ := keepB hW z2_1 r2_1 c2_1; go_simp; first | done | rfl)); simp only [Act.put, List.setIfInBounds_toArray, List.set_cons_zero, List.set_cons_succ])
 refine wpQuiet_nil ?_
 intro W2 hw2
 obtain ⟨r1_2, c1_2, z1_2⟩ := keepZ hw2 z1_1 r1_1 c1_1
 obtain ⟨r2_2, c2_2, z2_2⟩ := keepZ hw2 z2_1 r2_1 c2_1
 obtain ⟨hb2, q2⟩ := bN hb1 hw2
 clear hw2 r1_1 c1_1 z1_1 r2_1 c2_1 z2_1 hb1
 go_wp2
 have nw2_W2_0 : (w.heap.size + 1) ≠ W2.heap.size := by omega
 refine atomW fun W3 e3 => ?_
 have hb3 : Below w.heap.size w W3 := by rw [e3]; exact bt
 have q3 := hb3.size
 have R3 : IsRow W3 (w.heap.size + 1) ∧ IsRow W3 (W2.heap.size) := by rw [e3]; simp [go_sem, r2_2, c2_2, nw2_W2_0, r1_2]
 obtain ⟨r2_3, r4_3⟩ := R3
 have C3 := (⟨congrArg (blk · (w.heap.size + 1)) e3, congrArg (blk · (W2.heap.size)) e3⟩ : _ ∧ _); simp [go_sem, r2_2, c2_2, nw2_W2_0, r1_2] at C3
 obtain ⟨c2_3, c4_3⟩ := C3
 have z2_3 := isRow_lt r2_3; have z4_3 := isRow_lt r4_3
 have n2_4 : (w.heap.size + 1) ≠ (W2.heap.size) := by omega
 have n4_2 : (W2.heap.size) ≠ (w.heap.size + 1) := by omega
 clear e3 nw2_W2_0 r2_2 c2_2 z2_2 hb2
 go_loopw [15] (fun s15 wr => ∃ i : Nat, i ≤ 8 ∧ s15 = .int .i64 i ∧ Below w.heap.size w wr ∧ (IsRow wr (w.heap.size + 1) ∧ blk wr (w.heap.size + 1) = blk W3 (w.heap.size + 1)) ∧ (IsRow wr (W2.heap.size) ∧ blk wr (W2.heap.size) = row 64 (frK p (lefG p n (duF f)) f i))) (fun s15 _ => 8 - (intOf s15).toNat)
 case atStart => exact ⟨0, by omega, rfl, hb3, ⟨r2_3, rfl⟩, ⟨r4_3, c4_3.trans (fr_zero p _ f)⟩⟩
 case round =>
  obtain ⟨i, hle4, rfl, hb4, ⟨r2_4, c2_4⟩, ⟨r4_4, c4_4⟩⟩ := hrel
  obtain ⟨W4, rfl⟩ : ∃ W4 : World, W4 = wr := ⟨_, rfl⟩
  have q4 := hb4.size
  have E2_4 := Lib.hid c2_3; replace c2_4 := c2_4.trans c2_3
  have z2_4 := isRow_lt r2_4
  have z4_4 := isRow_lt r4_4
  clear r2_3 c2_3 z2_3 r4_3 c4_3 z4_3 hb3
  by_cases hlt4 : i < 8
  ·
   have i0_4 : (0 : Int) ≤ (i : Int) := by omega
   have i8_4 : (i : Int) < 8 := by omega
   have k8_4 : i < 8 := by omega
   have m8_4 : i * 8 + 8 ≤ 64 := by omega
   have m64_4 : i * 64 + 64 ≤ 512 := by omega
   have l1_4 : 10 + i * 64 + 64 ≤ 522 := by omega
   have HB : Hid (Bytes 64 fun s => tab f (i * 64 + s)) := Lib.hid fun s _ => tab_bytes (hop_bytes HF.out) _ (by omega)
   go_wp2_with fail
   have nw2_W4_0 : (w.heap.size + 1) ≠ W4.heap.size := by omega
   have nw4_W4_0 : (W2.heap.size) ≠ W4.heap.size := by omega
   refine atomC fun W5 e5 => ?_
   have hb5 : Below w.heap.size w W5 := by rw [e5]; exact bt
   have q5 := hb5.size
   have R5 : IsRow W5 (w.heap.size + 1) ∧ IsRow W5 (W2.heap.size) := by rw [e5]; simp [go_sem, r2_4, c2_4, n2_4, r4_4, c4_4, n4_2, nw2_W4_0, nw4_W4_0]
   obtain ⟨r2_5, r4_5⟩ := R5
   have C5 := (⟨congrArg (blk · (w.heap.size + 1)) e5, congrArg (blk · (W2.heap.size)) e5⟩ : _ ∧ _); simp [go_sem, r2_4, c2_4, n2_4, r4_4, c4_4, n4_2, nw2_W4_0, nw4_W4_0] at C5
   obtain ⟨c2_5, c4_5⟩ := C5
   have z2_5 := isRow_lt r2_5; have z4_5 := isRow_lt r4_5
   clear e5 nw2_W4_0 nw4_W4_0 r2_4 c2_4 z2_4 r4_4 c4_4 z4_4 hb4
   refine (valuesOf_wgt p (lefG p n (duF f)) _ _ hp hp' HL.out HB.out).mono ?_; rintro _ W6 ⟨rfl, hw6⟩
   obtain ⟨r2_6, c2_6, z2_6⟩ := keepZ hw6 z2_5 r2_5 c2_5
   obtain ⟨r4_6, c4_6, z4_6⟩ := keepZ hw6 z4_5 r4_5 c4_5
   obtain ⟨hb6, q6⟩ := bN hb5 hw6
   clear hw6 r2_5 c2_5 z2_5 r4_5 c4_5 z4_5 hb5
   go_wp2
   go_roundw
   case rel => exact ⟨i + 1, by omega, by go_num, bt, ⟨by simp [go_sem, r2_6, c2_6, n2_4, r4_6, c4_6, n4_2], (by rw [E2_4.out]; first | exact c2_6 | (simp [go_sem, r2_6, c2_6, n2_4, r4_6, c4_6, n4_2]; done))⟩, ⟨by simp [go_sem, r2_6, c2_6, n2_4, r4_6, c4_6, n4_2], (by first | (rw [blk_setRow _ _ _ _ r4_6, if_pos rfl]; exact fr_step p _ f (by omega)) | exact (c4_6).trans (fr_step p _ f (by omega)) | (simp [go_sem, r2_6, c2_6, n2_4, r4_6, c4_6, n4_2]; exact fr_step p _ f (by omega)))⟩⟩
   case measure => simp [intOf]; try omega
  ·
   obtain rfl : i = 8 := by omega
   go_wp2_with fail
   refine bodyPost_ret (result_cell rfl aggLin _ _ (row 64 (frK p (lefG p n (duF f)) f 8)) _ rfl ?_ ?_) rfl ⟨rfl, ?_⟩
   · simp [go_sem, r2_4, c2_4, n2_4, r4_4, c4_4, n4_2]
   · simp [go_sem, r2_4, c2_4, n2_4, r4_4, c4_4, n4_2]
   · exact bt

set_option maxRecDepth 100000 in
set_option maxHeartbeats 2000000 in
theorem l05Form_any (p : Int) (n : Nat) (f : Nat → Int) (w : World) (hF : Bytes 1104 f) (hc : hopfB p n f = true) :
    Calls Tryz.prog 64 #[.agg (hop p n f)] w fun e w' => e = .returned (.agg (row 64 (frK p (lefG p n (duF f)) f 8))) ∧ Below w.heap.size w w' := by
 have HF := Lib.hid hF; clear hF
 have HO := Lib.hid (dual_intable hc HF.out)
 have hn := HO.out.le
 have hp2 := p2_of HO.out.prime
 have hp : 0 < p := by omega
 have hp' : p ≤ 255 := by have := HO.out.prime; unfold prime31 at this; simp only [Bool.and_eq_true, decide_eq_true_eq] at this; omega
 have HL := Lib.hid (lef_bytes HO.out)
 have Hs := Lib.hid (hopf_shape hc)
 have Hc := Lib.hid hc
 clear hc
 have HE := Lib.hid (fs_full (u := (lefG p n (duF f))) hn Hs.out)
 go_enter Tryz.func64, Tryz.ntmps64
 go_wp2_with fail
 refine atomC fun W1 e1 => ?_
 have hb1 : Below w.heap.size w W1 := by rw [e1]; exact bt
 have q1 := hb1.size
 have R1 : IsRow W1 (w.heap.size) ∧ IsRow W1 (w.heap.size + 1) := by rw [e1]; simp [go_sem]
 obtain ⟨r1_1, r2_1⟩ := R1
 have C1 := (⟨congrArg (blk · (w.heap.size)) e1, congrArg (blk · (w.heap.size + 1)) e1⟩ : _ ∧ _); simp [go_sem] at C1
 obtain ⟨c1_1, c2_1⟩ := C1
 have z1_1 := isRow_lt r1_1; have z2_1 := isRow_lt r2_1
 clear e1
 refine (l05Cointegral_any p n f _ HF.out Hc.out).mono ?_; rintro _ W2 ⟨rfl, hw2⟩
 obtain ⟨r1_2, c1_2, z1_2⟩ := keepZ hw2 z1_1 r1_1 c1_1
 obtain ⟨r2_2, c2_2, z2_2⟩ := keepZ hw2 z2_1 r2_1 c2_1
 obtain ⟨hb2, q2⟩ := bN hb1 hw2
 clear hw2 r1_1 c1_1 z1_1 r2_1 c2_1 z2_1 hb1
 go_wp2
 have nw1_W2_0 : (w.heap.size) ≠ W2.heap.size := by omega
 have nw1_W2_1 : (w.heap.size) ≠ W2.heap.size + 1 := by omega
 have nw2_W2_0 : (w.heap.size + 1) ≠ W2.heap.size := by omega
 have nw2_W2_1 : (w.heap.size + 1) ≠ W2.heap.size + 1 := by omega
 refine atomW fun W3 e3 => ?_
 have hb3 : Below w.heap.size w W3 := by rw [e3]; exact bt
 have q3 := hb3.size
 have R3 : IsRow W3 (w.heap.size) ∧ IsRow W3 (w.heap.size + 1) ∧ IsRow W3 (W2.heap.size) ∧ IsRow W3 (W2.heap.size + 1) := by rw [e3]; simp [go_sem, r1_2, c1_2, r2_2, c2_2, nw1_W2_0, nw1_W2_1, nw2_W2_0, nw2_W2_1]
 obtain ⟨r1_3, r2_3, r3_3, r4_3⟩ := R3
 have C3 := (⟨congrArg (blk · (w.heap.size)) e3, congrArg (blk · (w.heap.size + 1)) e3, congrArg (blk · (W2.heap.size)) e3, congrArg (blk · (W2.heap.size + 1)) e3⟩ : _ ∧ _ ∧ _ ∧ _); simp [go_sem, r1_2, c1_2, r2_2, c2_2, nw1_W2_0, nw1_W2_1, nw2_W2_0, nw2_W2_1] at C3
 obtain ⟨c1_3, c2_3, c3_3, c4_3⟩ := C3
 have z1_3 := isRow_lt r1_3; have z2_3 := isRow_lt r2_3; have z3_3 := isRow_lt r3_3; have z4_3 := isRow_lt r4_3
 have n1_3 : (w.heap.size) ≠ (W2.heap.size) := by omega
 have n1_4 : (w.heap.size) ≠ (W2.heap.size + 1) := by omega
 have n2_3 : (w.heap.size + 1) ≠ (W2.heap.size) := by omega
 have n2_4 : (w.heap.size + 1) ≠ (W2.heap.size + 1) := by omega
 have n3_1 : (W2.heap.size) ≠ (w.heap.size) := by omega
 have n3_2 : (W2.heap.size) ≠ (w.heap.size + 1) := by omega
 have n4_1 : (W2.heap.size + 1) ≠ (w.heap.size) := by omega
 have n4_2 : (W2.heap.size + 1) ≠ (w.heap.size + 1) := by omega
 clear e3 nw1_W2_0 nw1_W2_1 nw2_W2_0 nw2_W2_1 r1_2 c1_2 z1_2 r2_2 c2_2 z2_2 hb2
 go_loopw [5] (fun s5 wr => ∃ i : Nat, i ≤ n ∧ s5 = .int .i64 i ∧ Below w.heap.size w wr ∧ (IsRow wr (w.heap.size) ∧ blk wr (w.heap.size) = blk W3 (w.heap.size)) ∧ (IsRow wr (w.heap.size + 1) ∧ blk wr (w.heap.size + 1) = blk W3 (w.heap.size + 1)) ∧ (IsRow wr (W2.heap.size) ∧ blk wr (W2.heap.size) = blk W3 (W2.heap.size)) ∧ (IsRow wr (W2.heap.size + 1) ∧ blk wr (W2.heap.size + 1) = row 64 (fsK p n (lefG p n (duF f)) f i 0))) (fun s5 _ => n - (intOf s5).toNat)
 case atStart => exact ⟨0, by omega, rfl, hb3, ⟨r1_3, rfl⟩, ⟨r2_3, rfl⟩, ⟨r3_3, rfl⟩, ⟨r4_3, c4_3.trans (fs_zero p n _ f)⟩⟩
 case round =>
  obtain ⟨i, hle4, rfl, hb4, ⟨r1_4, c1_4⟩, ⟨r2_4, c2_4⟩, ⟨r3_4, c3_4⟩, ⟨r4_4, c4_4⟩⟩ := hrel
  obtain ⟨W4, rfl⟩ : ∃ W4 : World, W4 = wr := ⟨_, rfl⟩
  have q4 := hb4.size
  have E1_4 := Lib.hid c1_3; replace c1_4 := c1_4.trans c1_3
  have z1_4 := isRow_lt r1_4
  have E2_4 := Lib.hid c2_3; replace c2_4 := c2_4.trans c2_3
  have z2_4 := isRow_lt r2_4
  have E3_4 := Lib.hid c3_3; replace c3_4 := c3_4.trans c3_3
  have z3_4 := isRow_lt r3_4
  have z4_4 := isRow_lt r4_4
  clear r1_3 c1_3 z1_3 r2_3 c2_3 z2_3 r3_3 c3_3 z3_3 r4_3 c4_3 z4_3 hb3
  by_cases hlt4 : i < n
  ·
   have i0_4 : (0 : Int) ≤ (i : Int) := by omega
   have i8_4 : (i : Int) < 8 := by omega
   have k8_4 : i < 8 := by omega
   have m8_4 : i * 8 + 8 ≤ 64 := by omega
   have m64_4 : i * 64 + 64 ≤ 512 := by omega
   have l1_4 : 10 + i * 64 + 64 ≤ 522 := by omega
   go_wp2
   go_loopw [6] (fun s6 wr => ∃ j : Nat, j ≤ n ∧ s6 = .int .i64 j ∧ Below w.heap.size w wr ∧ (IsRow wr (w.heap.size) ∧ blk wr (w.heap.size) = blk W4 (w.heap.size)) ∧ (IsRow wr (w.heap.size + 1) ∧ blk wr (w.heap.size + 1) = blk W4 (w.heap.size + 1)) ∧ (IsRow wr (W2.heap.size) ∧ blk wr (W2.heap.size) = blk W4 (W2.heap.size)) ∧ (IsRow wr (W2.heap.size + 1) ∧ blk wr (W2.heap.size + 1) = row 64 (fsK p n (lefG p n (duF f)) f i j))) (fun s6 _ => n - (intOf s6).toNat)
   case atStart => exact ⟨0, by omega, rfl, hb4, ⟨r1_4, rfl⟩, ⟨r2_4, rfl⟩, ⟨r3_4, rfl⟩, ⟨r4_4, c4_4⟩⟩
   case round =>
    obtain ⟨j, hle5, rfl, hb5, ⟨r1_5, c1_5⟩, ⟨r2_5, c2_5⟩, ⟨r3_5, c3_5⟩, ⟨r4_5, c4_5⟩⟩ := hrel
    obtain ⟨W5, rfl⟩ : ∃ W5 : World, W5 = wr := ⟨_, rfl⟩
    have q5 := hb5.size
    have E1_5 := Lib.hid c1_4; replace c1_5 := c1_5.trans c1_4
    have z1_5 := isRow_lt r1_5
    have E2_5 := Lib.hid c2_4; replace c2_5 := c2_5.trans c2_4
    have z2_5 := isRow_lt r2_5
    have E3_5 := Lib.hid c3_4; replace c3_5 := c3_5.trans c3_4
    have z3_5 := isRow_lt r3_5
    have z4_5 := isRow_lt r4_5
    clear r1_4 c1_4 z1_4 r2_4 c2_4 z2_4 r3_4 c3_4 z3_4 r4_4 c4_4 z4_4 hb4
    by_cases hlt5 : j < n
    ·
     have i0_5 : (0 : Int) ≤ (j : Int) := by omega
     have i8_5 : (j : Int) < 8 := by omega
     have k8_5 : j < 8 := by omega
     have m8_5 : j * 8 + 8 ≤ 64 := by omega
     have m64_5 : j * 64 + 64 ≤ 512 := by omega
     have l1_5 : 10 + j * 64 + 64 ≤ 522 := by omega
     have l2_5i : 10 + i * 64 + j * 8 + 8 ≤ 522 := by omega
     have l4_5i : i * 64 + j * 8 + 8 ≤ 512 := by omega
     have l6_5i : i * 8 + j < 64 := by omega
     go_wp2
     go_loopw [7, 8] (fun s7 s8 wr => ∃ k : Nat, k ≤ n ∧ s7 = .int .i64 (dotF k (mtab f i j) (lefG p n (duF f))) ∧ s8 = .int .i64 k ∧ Below w.heap.size w wr ∧ (IsRow wr (w.heap.size) ∧ blk wr (w.heap.size) = blk W5 (w.heap.size)) ∧ (IsRow wr (w.heap.size + 1) ∧ blk wr (w.heap.size + 1) = blk W5 (w.heap.size + 1)) ∧ (IsRow wr (W2.heap.size) ∧ blk wr (W2.heap.size) = blk W5 (W2.heap.size)) ∧ (IsRow wr (W2.heap.size + 1) ∧ blk wr (W2.heap.size + 1) = blk W5 (W2.heap.size + 1))) (fun _ s8 _ => n - (intOf s8).toNat)
     case atStart => exact ⟨0, by omega, (by first | rfl | (simp; done) | go_num), rfl, hb5, ⟨r1_5, rfl⟩, ⟨r2_5, rfl⟩, ⟨r3_5, rfl⟩, ⟨r4_5, rfl⟩⟩
     case round =>
      obtain ⟨k, hle6, rfl, rfl, hb6, ⟨r1_6, c1_6⟩, ⟨r2_6, c2_6⟩, ⟨r3_6, c3_6⟩, ⟨r4_6, c4_6⟩⟩ := hrel
      obtain ⟨W6, rfl⟩ : ∃ W6 : World, W6 = wr := ⟨_, rfl⟩
      have q6 := hb6.size
      have E1_6 := Lib.hid c1_5; replace c1_6 := c1_6.trans c1_5
      have z1_6 := isRow_lt r1_6
      have E2_6 := Lib.hid c2_5; replace c2_6 := c2_6.trans c2_5
      have z2_6 := isRow_lt r2_6
      have E3_6 := Lib.hid c3_5; replace c3_6 := c3_6.trans c3_5
      have z3_6 := isRow_lt r3_6
      have E4_6 := Lib.hid c4_5; replace c4_6 := c4_6.trans c4_5
      have z4_6 := isRow_lt r4_6
      clear r1_5 c1_5 z1_5 r2_5 c2_5 z2_5 r3_5 c3_5 z3_5 r4_5 c4_5 z4_5 hb5
      have HM : Hid (Bytes 8 (mtab f i j)) := Lib.hid (mtab_byt (hop_bytes HF.out) _ _ (by omega) (by omega))
      have d1 := (dot_range 8 HM.out HL.out k (by omega)).1; have d2 := (dot_range 8 HM.out HL.out k (by omega)).2
      by_cases hlt6 : k < n
      ·
       have i0_6 : (0 : Int) ≤ (k : Int) := by omega
       have i8_6 : (k : Int) < 8 := by omega
       have k8_6 : k < 8 := by omega
       have m8_6 : k * 8 + 8 ≤ 64 := by omega
       have m64_6 : k * 64 + 64 ≤ 512 := by omega
       have l1_6 : 10 + k * 64 + 64 ≤ 522 := by omega
       have l2_6i : 10 + i * 64 + k * 8 + 8 ≤ 522 := by omega
       have l4_6i : i * 64 + k * 8 + 8 ≤ 512 := by omega
       have l6_6i : i * 8 + k < 64 := by omega
       have l2_6j : 10 + j * 64 + k * 8 + 8 ≤ 522 := by omega
       have l4_6j : j * 64 + k * 8 + 8 ≤ 512 := by omega
       have l6_6j : j * 8 + k < 64 := by omega
       have a4 := hop_mq p n f i j k (by omega) (by omega) (by omega)
       have a5 := fun h => hop_me p n f i j k (by omega) (by omega) (by omega) h
       have b1 := (HM.out k (by omega)).1; have b2 := (HM.out k (by omega)).2; have b3 := (HL.out k (by omega)).1; have b4 := (HL.out k (by omega)).2; have b5 := (prod_le (mtab f i j k) ((lefG p n (duF f)) k) 255 255 b1 b3 b2 b4).1; have b6 := (prod_le (mtab f i j k) ((lefG p n (duF f)) k) 255 255 b1 b3 b2 b4).2
       have q1 : IntKind.i64.wrap (mtab f i j k) = mtab f i j k := IntWalk.i64_in _ (by omega)
       have q2 : IntKind.i64.wrap ((lefG p n (duF f)) k) = (lefG p n (duF f)) k := IntWalk.i64_in _ (by omega)
       have q3 : IntKind.i64.wrap (mtab f i j k * (lefG p n (duF f)) k) = mtab f i j k * (lefG p n (duF f)) k := IntWalk.i64_in _ (by omega)
       have q4 : IntKind.i64.wrap (dotF k (mtab f i j) (lefG p n (duF f)) + mtab f i j k * (lefG p n (duF f)) k) = dotF (k + 1) (mtab f i j) (lefG p n (duF f)) := (IntWalk.i64_in _ (by omega)).trans (dot_succ _ _ _)
       go_wp2
       refine wp_quiet_all (Below W6.heap.size W6) (by kernel_rfl) (by kernel_rfl) (Below.refl _ _).drew ?_
       iterate 17 (refine q_plain rfl ?_; apply Exists.intro; refine ⟨fun W hW => ?_, ?_⟩; (focus (obtain ⟨x1, y1⟩ := keepB hW z1_6 r1_6 c1_6; obtain ⟨x2, y2⟩ := keepB hW z2_6 r2_6 c2_6; obtain ⟨x3, y3⟩ := keepB hW z3_6 r3_6 c3_6; obtain ⟨x4, y4⟩ := keepB hW z4_6 r4_6 c4_6; go_simp; first | done | rfl)); simp only [Act.put, List.setIfInBounds_toArray, List.set_cons_zero, List.set_cons_succ])
       refine wpQuiet_nil ?_
       intro W7 hw7
       obtain ⟨r1_7, c1_7, z1_7⟩ := keepZ hw7 z1_6 r1_6 c1_6
       obtain ⟨r2_7, c2_7, z2_7⟩ := keepZ hw7 z2_6 r2_6 c2_6
       obtain ⟨r3_7, c3_7, z3_7⟩ := keepZ hw7 z3_6 r3_6 c3_6
       obtain ⟨r4_7, c4_7, z4_7⟩ := keepZ hw7 z4_6 r4_6 c4_6
       obtain ⟨hb7, q7⟩ := bN hb6 hw7
       clear hw7 r1_6 c1_6 z1_6 r2_6 c2_6 z2_6 r3_6 c3_6 z3_6 r4_6 c4_6 z4_6 hb6
       go_wp2
       go_roundw
       case rel => exact ⟨k + 1, by omega, (by first | rfl | go_num | (simp; done)), by go_num, bt, ⟨by simp [go_sem, r1_7, c1_7, n1_3, n1_4, r2_7, c2_7, n2_3, n2_4, r3_7, c3_7, n3_1, n3_2, r4_7, c4_7, n4_1, n4_2], (by rw [E1_6.out]; first | exact c1_7 | (simp [go_sem, r1_7, c1_7, n1_3, n1_4, r2_7, c2_7, n2_3, n2_4, r3_7, c3_7, n3_1, n3_2, r4_7, c4_7, n4_1, n4_2]; done))⟩, ⟨by simp [go_sem, r1_7, c1_7, n1_3, n1_4, r2_7, c2_7, n2_3, n2_4, r3_7, c3_7, n3_1, n3_2, r4_7, c4_7, n4_1, n4_2], (by rw [E2_6.out]; first | exact c2_7 | (simp [go_sem, r1_7, c1_7, n1_3, n1_4, r2_7, c2_7, n2_3, n2_4, r3_7, c3_7, n3_1, n3_2, r4_7, c4_7, n4_1, n4_2]; done))⟩, ⟨by simp [go_sem, r1_7, c1_7, n1_3, n1_4, r2_7, c2_7, n2_3, n2_4, r3_7, c3_7, n3_1, n3_2, r4_7, c4_7, n4_1, n4_2], (by rw [E3_6.out]; first | exact c3_7 | (simp [go_sem, r1_7, c1_7, n1_3, n1_4, r2_7, c2_7, n2_3, n2_4, r3_7, c3_7, n3_1, n3_2, r4_7, c4_7, n4_1, n4_2]; done))⟩, ⟨by simp [go_sem, r1_7, c1_7, n1_3, n1_4, r2_7, c2_7, n2_3, n2_4, r3_7, c3_7, n3_1, n3_2, r4_7, c4_7, n4_1, n4_2], (by rw [E4_6.out]; first | exact c4_7 | (simp [go_sem, r1_7, c1_7, n1_3, n1_4, r2_7, c2_7, n2_3, n2_4, r3_7, c3_7, n3_1, n3_2, r4_7, c4_7, n4_1, n4_2]; done))⟩⟩
       case measure => simp [intOf]; try omega
      ·
       obtain rfl : n = k := by omega
       go_wp2
       refine wp_quiet_tail 8 (Below W6.heap.size W6) (by kernel_rfl) (by kernel_rfl) (Below.refl _ _).drew ?_
       simp only [List.take_succ_cons, List.take_zero, List.drop_succ_cons, List.drop_zero]
       iterate 5 (refine q_plain rfl ?_; apply Exists.intro; refine ⟨fun W hW => ?_, ?_⟩; (focus (obtain ⟨x1, y1⟩ := keepB hW z1_6 r1_6 c1_6; obtain ⟨x2, y2⟩ := keepB hW z2_6 r2_6 c2_6; obtain ⟨x3, y3⟩ := keepB hW z3_6 r3_6 c3_6; obtain ⟨x4, y4⟩ := keepB hW z4_6 r4_6 c4_6; go_simp; first | done | rfl)); simp only [Act.put, List.setIfInBounds_toArray, List.set_cons_zero, List.set_cons_succ])
       (refine q_plain rfl ?_; apply Exists.intro; refine ⟨fun W hW => ?_, ?_⟩; (focus (obtain ⟨x1, y1⟩ := keepB hW z1_6 r1_6 c1_6; obtain ⟨x2, y2⟩ := keepB hW z2_6 r2_6 c2_6; obtain ⟨x3, y3⟩ := keepB hW z3_6 r3_6 c3_6; obtain ⟨x4, y4⟩ := keepB hW z4_6 r4_6 c4_6; go_simp; (go_at_call 88; exact (l01Mod_any _ _ _ hp hp' (by omega) (by omega)).mono fun e w2 ⟨he, hw2⟩ => ⟨he, hw2 ▸ hW⟩))); simp only [Act.put, List.setIfInBounds_toArray, List.set_cons_zero, List.set_cons_succ])
       iterate 2 (refine q_plain rfl ?_; apply Exists.intro; refine ⟨fun W hW => ?_, ?_⟩; (focus (obtain ⟨x1, y1⟩ := keepB hW z1_6 r1_6 c1_6; obtain ⟨x2, y2⟩ := keepB hW z2_6 r2_6 c2_6; obtain ⟨x3, y3⟩ := keepB hW z3_6 r3_6 c3_6; obtain ⟨x4, y4⟩ := keepB hW z4_6 r4_6 c4_6; go_simp; first | done | rfl)); simp only [Act.put, List.setIfInBounds_toArray, List.set_cons_zero, List.set_cons_succ])
       refine wpQuiet_nil ?_
       intro W8 hw8
       obtain ⟨r1_8, c1_8, z1_8⟩ := keepZ hw8 z1_6 r1_6 c1_6
       obtain ⟨r2_8, c2_8, z2_8⟩ := keepZ hw8 z2_6 r2_6 c2_6
       obtain ⟨r3_8, c3_8, z3_8⟩ := keepZ hw8 z3_6 r3_6 c3_6
       obtain ⟨r4_8, c4_8, z4_8⟩ := keepZ hw8 z4_6 r4_6 c4_6
       obtain ⟨hb8, q8⟩ := bN hb6 hw8
       clear hw8 r1_6 c1_6 z1_6 r2_6 c2_6 z2_6 r3_6 c3_6 z3_6 r4_6 c4_6 z4_6 hb6
       go_wp2
       go_roundw
       case rel => exact ⟨j + 1, by omega, by go_num, bt, ⟨by simp [go_sem, r1_8, c1_8, n1_3, n1_4, r2_8, c2_8, n2_3, n2_4, r3_8, c3_8, n3_1, n3_2, r4_8, c4_8, n4_1, n4_2], (by rw [E1_5.out]; first | exact c1_8 | (simp [go_sem, r1_8, c1_8, n1_3, n1_4, r2_8, c2_8, n2_3, n2_4, r3_8, c3_8, n3_1, n3_2, r4_8, c4_8, n4_1, n4_2]; done))⟩, ⟨by simp [go_sem, r1_8, c1_8, n1_3, n1_4, r2_8, c2_8, n2_3, n2_4, r3_8, c3_8, n3_1, n3_2, r4_8, c4_8, n4_1, n4_2], (by rw [E2_5.out]; first | exact c2_8 | (simp [go_sem, r1_8, c1_8, n1_3, n1_4, r2_8, c2_8, n2_3, n2_4, r3_8, c3_8, n3_1, n3_2, r4_8, c4_8, n4_1, n4_2]; done))⟩, ⟨by simp [go_sem, r1_8, c1_8, n1_3, n1_4, r2_8, c2_8, n2_3, n2_4, r3_8, c3_8, n3_1, n3_2, r4_8, c4_8, n4_1, n4_2], (by rw [E3_5.out]; first | exact c3_8 | (simp [go_sem, r1_8, c1_8, n1_3, n1_4, r2_8, c2_8, n2_3, n2_4, r3_8, c3_8, n3_1, n3_2, r4_8, c4_8, n4_1, n4_2]; done))⟩, ⟨by simp [go_sem, r1_8, c1_8, n1_3, n1_4, r2_8, c2_8, n2_3, n2_4, r3_8, c3_8, n3_1, n3_2, r4_8, c4_8, n4_1, n4_2], (by first | (rw [blk_setRow _ _ _ _ r4_8, if_pos rfl]; exact fs_step p _ f (by omega) (by omega) hn) | exact (c4_8).trans (fs_step p _ f (by omega) (by omega) hn) | (simp [go_sem, r1_8, c1_8, n1_3, n1_4, r2_8, c2_8, n2_3, n2_4, r3_8, c3_8, n3_1, n3_2, r4_8, c4_8, n4_1, n4_2]; exact fs_step p _ f (by omega) (by omega) hn))⟩⟩
       case measure => simp [intOf]; try omega
    ·
     obtain rfl : n = j := by omega
     go_wp2
     go_roundw
     case rel => exact ⟨i + 1, by omega, by go_num, bt, ⟨by simp [go_sem, r1_5, c1_5, n1_3, n1_4, r2_5, c2_5, n2_3, n2_4, r3_5, c3_5, n3_1, n3_2, r4_5, c4_5, n4_1, n4_2], (by rw [E1_4.out]; first | exact c1_5 | (simp [go_sem, r1_5, c1_5, n1_3, n1_4, r2_5, c2_5, n2_3, n2_4, r3_5, c3_5, n3_1, n3_2, r4_5, c4_5, n4_1, n4_2]; done))⟩, ⟨by simp [go_sem, r1_5, c1_5, n1_3, n1_4, r2_5, c2_5, n2_3, n2_4, r3_5, c3_5, n3_1, n3_2, r4_5, c4_5, n4_1, n4_2], (by rw [E2_4.out]; first | exact c2_5 | (simp [go_sem, r1_5, c1_5, n1_3, n1_4, r2_5, c2_5, n2_3, n2_4, r3_5, c3_5, n3_1, n3_2, r4_5, c4_5, n4_1, n4_2]; done))⟩, ⟨by simp [go_sem, r1_5, c1_5, n1_3, n1_4, r2_5, c2_5, n2_3, n2_4, r3_5, c3_5, n3_1, n3_2, r4_5, c4_5, n4_1, n4_2], (by rw [E3_4.out]; first | exact c3_5 | (simp [go_sem, r1_5, c1_5, n1_3, n1_4, r2_5, c2_5, n2_3, n2_4, r3_5, c3_5, n3_1, n3_2, r4_5, c4_5, n4_1, n4_2]; done))⟩, ⟨by simp [go_sem, r1_5, c1_5, n1_3, n1_4, r2_5, c2_5, n2_3, n2_4, r3_5, c3_5, n3_1, n3_2, r4_5, c4_5, n4_1, n4_2], (by first | exact (c4_5).trans (fs_row p n _ f i) | (simp [go_sem, r1_5, c1_5, n1_3, n1_4, r2_5, c2_5, n2_3, n2_4, r3_5, c3_5, n3_1, n3_2, r4_5, c4_5, n4_1, n4_2]; exact fs_row p n _ f i))⟩⟩
     case measure => simp [intOf]; try omega
  ·
   obtain rfl : n = i := by omega
   go_wp2_with fail
   refine bodyPost_ret (result_cell rfl aggLin _ _ (row 64 (fsK p n (lefG p n (duF f)) f n 0)) _ rfl ?_ ?_) rfl ⟨by rw [HE.out], ?_⟩
   · simp [go_sem, r1_4, c1_4, n1_3, n1_4, r2_4, c2_4, n2_3, n2_4, r3_4, c3_4, n3_1, n3_2, r4_4, c4_4, n4_1, n4_2]
   · simp [go_sem, r1_4, c1_4, n1_3, n1_4, r2_4, c2_4, n2_3, n2_4, r3_4, c3_4, n3_1, n3_2, r4_4, c4_4, n4_1, n4_2]
   · exact bt

set_option maxRecDepth 100000 in
set_option maxHeartbeats 1000000 in
theorem ofHopf_frm (p n : Int) (f : Nat → Int) (w : World) (hF : Bytes 1104 f) :
    Calls Tryz.prog 65 #[.agg (hop p n f), .func (.func 66) #[] #[]] w fun e w' => e = .returned (.tuple #[.agg (row 64 (onlyF (hopfB p n f) (frK p (lefG p n.toNat (duF f)) f 8))), .int .i64 (codeB (hopfB p n f))]) ∧ Below w.heap.size w w' := by
 have HF := Lib.hid hF; clear hF
 cases hc : hopfB p n f
 ·
  go_enter Tryz.func65, Tryz.ntmps65
  go_wp2_with fail
  refine atomC fun W1 e1 => ?_
  have hb1 : Below w.heap.size w W1 := by rw [e1]; exact bt
  have q1 := hb1.size
  have R1 : IsRow W1 (w.heap.size) ∧ IsRow W1 (w.heap.size + 1) := by rw [e1]; simp [go_sem]
  obtain ⟨r2_1, r4_1⟩ := R1
  have C1 := (⟨congrArg (blk · (w.heap.size)) e1, congrArg (blk · (w.heap.size + 1)) e1⟩ : _ ∧ _); simp [go_sem] at C1
  obtain ⟨c2_1, c4_1⟩ := C1
  have z2_1 := isRow_lt r2_1; have z4_1 := isRow_lt r4_1
  clear e1
  refine (isHopf_any _ _ _ _ HF.out).mono ?_; rintro _ W2 ⟨rfl, hw2⟩
  obtain ⟨r2_2, c2_2, z2_2⟩ := keepZ hw2 z2_1 r2_1 c2_1
  obtain ⟨r4_2, c4_2, z4_2⟩ := keepZ hw2 z4_1 r4_1 c4_1
  obtain ⟨hb2, q2⟩ := bN hb1 hw2
  clear hw2 r2_1 c2_1 z2_1 r4_1 c4_1 z4_1 hb1
  have nw2_W2_0 : (w.heap.size) ≠ W2.heap.size := by omega
  have nw4_W2_0 : (w.heap.size + 1) ≠ W2.heap.size := by omega
  go_wp2_with fail
  refine bodyPost_ret (result_cell_tmp rfl aggLin _ _ (row 64 zf) _ _ rfl rfl ?_ ?_) rfl ⟨by rfl, ?_⟩
  · simp [go_sem, r2_2, c2_2, r4_2, c4_2, nw2_W2_0, nw4_W2_0]
  · simp [go_sem, r2_2, c2_2, r4_2, c4_2, nw2_W2_0, nw4_W2_0]
  · exact bt
 ·
  obtain ⟨hp2, hp31, hn1, hn8⟩ := sizes_range (hopf_sizes hc)
  obtain ⟨n, rfl⟩ := Int.eq_ofNat_of_zero_le (show 0 ≤ n by omega)
  have Hc := Lib.hid hc
  go_enter Tryz.func65, Tryz.ntmps65
  go_wp2_with fail
  refine atomC fun W3 e3 => ?_
  have hb3 : Below w.heap.size w W3 := by rw [e3]; exact bt
  have q3 := hb3.size
  have R3 : IsRow W3 (w.heap.size) ∧ IsRow W3 (w.heap.size + 1) := by rw [e3]; simp [go_sem]
  obtain ⟨r2_3, r4_3⟩ := R3
  have C3 := (⟨congrArg (blk · (w.heap.size)) e3, congrArg (blk · (w.heap.size + 1)) e3⟩ : _ ∧ _); simp [go_sem] at C3
  obtain ⟨c2_3, c4_3⟩ := C3
  have z2_3 := isRow_lt r2_3; have z4_3 := isRow_lt r4_3
  clear e3
  refine (isHopf_any _ _ _ _ HF.out).mono ?_; rintro _ W4 ⟨rfl, hw4⟩
  obtain ⟨r2_4, c2_4, z2_4⟩ := keepZ hw4 z2_3 r2_3 c2_3
  obtain ⟨r4_4, c4_4, z4_4⟩ := keepZ hw4 z4_3 r4_3 c4_3
  obtain ⟨hb4, q4⟩ := bN hb3 hw4
  clear hw4 r2_3 c2_3 z2_3 r4_3 c4_3 z4_3 hb3
  go_wp2_with fail
  refine (formOf_any p n f _ HF.out Hc.out).mono ?_; rintro _ W5 ⟨rfl, hw5⟩
  obtain ⟨r4_5, c4_5, z4_5⟩ := keepZ hw5 z4_4 r4_4 c4_4
  obtain ⟨hb5, q5⟩ := bN hb4 hw5
  clear hw5 r4_4 c4_4 z4_4 hb4
  go_wp2_with fail
  refine bodyPost_ret (result_cell_tmp rfl aggLin _ _ (row 64 (frK p (lefG p n (duF f)) f 8)) _ _ rfl rfl ?_ ?_) rfl ⟨by rfl, ?_⟩
  · simp [go_sem, r4_5, c4_5]
  · simp [go_sem, r4_5, c4_5]
  · exact bt

set_option maxRecDepth 100000 in
set_option maxHeartbeats 1000000 in
theorem implFrm_any (p n : Int) (f : Nat → Int) (w : World) (hF : Bytes 1104 f) :
    Calls Tryz.prog 35 #[.agg (hop p n f)] w fun e w' => e = .returned (.tuple #[.agg (row 64 (onlyF (hopfB p n f) (frK p (lefG p n.toNat (duF f)) f 8))), .int .i64 (codeB (hopfB p n f))]) ∧ Below w.heap.size w w' := by
 have HF := Lib.hid hF; clear hF
 go_enter Tryz.func35, Tryz.ntmps35
 go_wp2_with fail
 refine atomC fun W1 e1 => ?_
 have hb1 : Below w.heap.size w W1 := by rw [e1]; exact bt
 have q1 := hb1.size
 have r2_1 : IsRow W1 (w.heap.size + 1) := by rw [e1]; simp [go_sem]
 have c2_1 := congrArg (fun x => blk x (w.heap.size + 1)) e1; simp [go_sem] at c2_1
 have z2_1 := isRow_lt r2_1
 clear e1
 refine (ofHopf_frm _ _ _ _ HF.out).mono ?_; rintro _ W2 ⟨rfl, hw2⟩
 obtain ⟨r2_2, c2_2, z2_2⟩ := keepZ hw2 z2_1 r2_1 c2_1
 obtain ⟨hb2, q2⟩ := bN hb1 hw2
 clear hw2 r2_1 c2_1 z2_1 hb1
 go_wp2_with fail
 refine bodyPost_ret (result_cell_tmp rfl aggLin _ _ (row 64 (onlyF (hopfB p n f) (frK p (lefG p n.toNat (duF f)) f 8))) _ _ rfl rfl ?_ ?_) rfl ⟨rfl, ?_⟩
 · simp [go_sem, r2_2, c2_2]
 · simp [go_sem, r2_2, c2_2]
 · exact bt

set_option maxRecDepth 100000 in
set_option maxHeartbeats 1000000 in
theorem specFrm_any (p n : Int) (f : Nat → Int) (w : World) (hF : Bytes 1104 f) :
    Calls Tryz.prog 34 #[.agg (hop p n f)] w fun e w' => e = .returned (.tuple #[.agg (row 64 (onlyF (hopfB p n f) (frK p (lefG p n.toNat (duF f)) f 8))), .int .i64 (codeB (hopfB p n f))]) ∧ Below w.heap.size w w' := by
 have HF := Lib.hid hF; clear hF
 cases hc : hopfB p n f
 ·
  go_enter Tryz.func34, Tryz.ntmps34
  go_wp2_with fail
  refine atomC fun W1 e1 => ?_
  have hb1 : Below w.heap.size w W1 := by rw [e1]; exact bt
  have q1 := hb1.size
  have R1 : IsRow W1 (w.heap.size) ∧ IsRow W1 (w.heap.size + 1) := by rw [e1]; simp [go_sem]
  obtain ⟨r1_1, r2_1⟩ := R1
  have C1 := (⟨congrArg (blk · (w.heap.size)) e1, congrArg (blk · (w.heap.size + 1)) e1⟩ : _ ∧ _); simp [go_sem] at C1
  obtain ⟨c1_1, c2_1⟩ := C1
  have z1_1 := isRow_lt r1_1; have z2_1 := isRow_lt r2_1
  clear e1
  refine (l03Is_any _ _ _ _ HF.out).mono ?_; rintro _ W2 ⟨rfl, hw2⟩
  obtain ⟨r1_2, c1_2, z1_2⟩ := keepZ hw2 z1_1 r1_1 c1_1
  obtain ⟨r2_2, c2_2, z2_2⟩ := keepZ hw2 z2_1 r2_1 c2_1
  obtain ⟨hb2, q2⟩ := bN hb1 hw2
  clear hw2 r1_1 c1_1 z1_1 r2_1 c2_1 z2_1 hb1
  go_wp2_with fail
  refine bodyPost_ret (result_cell_tmp rfl aggLin _ _ (row 64 zf) _ _ rfl rfl ?_ ?_) rfl ⟨by rfl, ?_⟩
  · simp [go_sem, r1_2, c1_2, r2_2, c2_2]
  · simp [go_sem, r1_2, c1_2, r2_2, c2_2]
  · exact bt
 ·
  obtain ⟨hp2, hp31, hn1, hn8⟩ := sizes_range (hopf_sizes hc)
  obtain ⟨n, rfl⟩ := Int.eq_ofNat_of_zero_le (show 0 ≤ n by omega)
  have Hc := Lib.hid hc
  go_enter Tryz.func34, Tryz.ntmps34
  go_wp2_with fail
  refine atomC fun W3 e3 => ?_
  have hb3 : Below w.heap.size w W3 := by rw [e3]; exact bt
  have q3 := hb3.size
  have R3 : IsRow W3 (w.heap.size) ∧ IsRow W3 (w.heap.size + 1) := by rw [e3]; simp [go_sem]
  obtain ⟨r1_3, r2_3⟩ := R3
  have C3 := (⟨congrArg (blk · (w.heap.size)) e3, congrArg (blk · (w.heap.size + 1)) e3⟩ : _ ∧ _); simp [go_sem] at C3
  obtain ⟨c1_3, c2_3⟩ := C3
  have z1_3 := isRow_lt r1_3; have z2_3 := isRow_lt r2_3
  clear e3
  refine (l03Is_any _ _ _ _ HF.out).mono ?_; rintro _ W4 ⟨rfl, hw4⟩
  obtain ⟨r1_4, c1_4, z1_4⟩ := keepZ hw4 z1_3 r1_3 c1_3
  obtain ⟨r2_4, c2_4, z2_4⟩ := keepZ hw4 z2_3 r2_3 c2_3
  obtain ⟨hb4, q4⟩ := bN hb3 hw4
  clear hw4 r1_3 c1_3 z1_3 r2_3 c2_3 z2_3 hb3
  go_wp2_with fail
  refine (l05Form_any p n f _ HF.out Hc.out).mono ?_; rintro _ W5 ⟨rfl, hw5⟩
  obtain ⟨r2_5, c2_5, z2_5⟩ := keepZ hw5 z2_4 r2_4 c2_4
  obtain ⟨hb5, q5⟩ := bN hb4 hw5
  clear hw5 r2_4 c2_4 z2_4 hb4
  go_wp2_with fail
  refine bodyPost_ret (result_cell_tmp rfl aggLin _ _ (row 64 (frK p (lefG p n (duF f)) f 8)) _ _ rfl rfl ?_ ?_) rfl ⟨by rfl, ?_⟩
  · simp [go_sem, r2_5, c2_5]
  · simp [go_sem, r2_5, c2_5]
  · exact bt

set_option maxRecDepth 100000 in
set_option maxHeartbeats 2000000 in
theorem lawFormOf (fp fn : Int) (f : Nat → Int) (w : World) (_wfp : (Lit.int .i64 fp).wf = true) (_wfn : (Lit.int .i64 fn).wf = true) (hf : Bytes 1104 f) :
    Calls Tryz.prog 12 #[.agg (hop fp fn f)] w fun e w' => e = .returned (.bool true) ∧ Below w.heap.size w w' := by
 have Hf := Lib.hid hf; clear hf
 go_enter Tryz.func12, Tryz.ntmps12
 go_wp2_with fail
 refine atomC fun W1 e1 => ?_
 have hb1 : Below w.heap.size w W1 := by rw [e1]; exact bt
 have q1 := hb1.size
 have r1_1 : IsRow W1 (w.heap.size) := by rw [e1]; simp [go_sem]
 have c1_1 := congrArg (fun x => blk x (w.heap.size)) e1; simp [go_sem] at c1_1
 have z1_1 := isRow_lt r1_1
 clear e1
 refine (toHopf_any _ _ _ _).mono ?_; rintro _ W2 ⟨rfl, hw2⟩
 obtain ⟨r1_2, c1_2, z1_2⟩ := keepZ hw2 z1_1 r1_1 c1_1
 obtain ⟨hb2, q2⟩ := bN hb1 hw2
 clear hw2 r1_1 c1_1 z1_1 hb1
 go_wp2_with fail
 refine (specFrm_any _ _ _ _ Hf.out).mono ?_; rintro _ W3 ⟨rfl, hw3⟩
 obtain ⟨r1_3, c1_3, z1_3⟩ := keepZ hw3 z1_2 r1_2 c1_2
 obtain ⟨hb3, q3⟩ := bN hb2 hw3
 clear hw3 r1_2 c1_2 z1_2 hb2
 go_wp2_with fail
 refine atomC fun W4 e4 => ?_
 have hb4 : Below w.heap.size w W4 := by rw [e4]; exact bt
 have q4 := hb4.size
 have r3_4 : IsRow W4 (W3.heap.size) := by rw [e4]; simp [go_sem, r1_3]
 have c3_4 := congrArg (fun x => blk x (W3.heap.size)) e4; simp [go_sem, r1_3] at c3_4
 have z3_4 := isRow_lt r3_4
 clear e4 hb3
 refine (toHopf_any _ _ _ _).mono ?_; rintro _ W5 ⟨rfl, hw5⟩
 obtain ⟨r3_5, c3_5, z3_5⟩ := keepZ hw5 z3_4 r3_4 c3_4
 obtain ⟨hb5, q5⟩ := bN hb4 hw5
 clear hw5 r3_4 c3_4 z3_4 hb4
 go_wp2_with fail
 refine (implFrm_any _ _ _ _ Hf.out).mono ?_; rintro _ W6 ⟨rfl, hw6⟩
 obtain ⟨r3_6, c3_6, z3_6⟩ := keepZ hw6 z3_5 r3_5 c3_5
 obtain ⟨hb6, q6⟩ := bN hb5 hw6
 clear hw6 r3_5 c3_5 z3_5 hb5
 go_wp2_with fail
 refine atomC fun W7 e7 => ?_
 have hb7 : Below w.heap.size w W7 := by rw [e7]; exact bt
 have q7 := hb7.size
 clear e7 hb6
 refine (eqLinear_same _ _).mono ?_; rintro _ W8 ⟨rfl, hw8⟩
 obtain ⟨hb8, q8⟩ := bN hb7 hw8
 clear hw8 hb7
 go_wp2_with fail
 go_ret
 exact ⟨rfl, bt⟩

end Go.Proofs.YtjpdpnplnelgcaaGreat
