/- Linear maps turned round, applied; coproducts and Counits of vectors, of the program and of the reference model. Tables turned, pairs of vectors, sums of coassociativity, counits, of the program and of the reference model. Sums of coassociativity, and the counit, of the program and of the reference model. The search for the first fault of coassociativity, of the program and of the reference model. l02Fault, l02Counits, and the shape of a coalgebra, of the program and of the reference model. The counit by the reference model, the shape of a coalgebra, and coalgebras: both programs say the same. Coalgebras: both programs say the same; and a coalgebra with vectors for it. -/
import Derived.Test.YtjmmmggnbndolaaGreatGen
import Derived.Test.YtjmmmggnbndolaaGreatEqs
import Derived.Test.YtjmmmggnbndolaaGreatLin
namespace Go.Proofs.YtjmmmggnbndolaaGreat
section
open Go.RowKit
set_option linter.unusedSimpArgs false
set_option linter.unusedVariables false
attribute [local irreducible] wpQuiet wpQE

/-- F turned round: the entry k of image j is the entry j of image k -/
def flipF (F : Nat → Int) : Nat → Int := fun t => F (t % 8 * 8 + t / 8)
/-- i rows are turned, and j entries of row i -/
def flipK (F : Nat → Int) (i j : Nat) : Nat → Int := fun t => if t % 8 < i ∨ (t % 8 = i ∧ t / 8 < j) then F (t % 8 * 8 + t / 8) else 0
theorem flip_zero (F : Nat → Int) : row 64 zf = row 64 (flipK F 0 0) := row_congr fun t _ => by unfold flipK zf; rw [if_neg (by omega)]
theorem flip_step (F : Nat → Int) (i j : Nat) (hi : i < 8) (hj : j < 8) : row 64 (upd (flipK F i j) (j * 8 + i) (F (i * 8 + j))) = row 64 (flipK F i (j + 1)) := row_congr fun t ht => by
  unfold upd flipK
  by_cases e : t = j * 8 + i
  · subst e
    rw [if_pos rfl, if_pos (by omega)]
    congr 1; omega
  · rw [if_neg e]
    by_cases h : t % 8 < i ∨ (t % 8 = i ∧ t / 8 < j)
    · rw [if_pos h, if_pos (by omega)]
    · rw [if_neg h, if_neg (by omega)]
theorem flip_row (F : Nat → Int) (i : Nat) : row 64 (flipK F i 8) = row 64 (flipK F (i + 1) 0) := row_congr fun t ht => by
  unfold flipK
  by_cases h : t % 8 < i ∨ (t % 8 = i ∧ t / 8 < 8)
  · rw [if_pos h, if_pos (by omega)]
  · rw [if_neg h, if_neg (by omega)]
theorem flip_end (F : Nat → Int) : row 64 (flipK F 8 0) = row 64 (flipF F) := row_congr fun t ht => by
  unfold flipK flipF; rw [if_pos (by omega)]

set_option maxRecDepth 100000 in
set_option maxHeartbeats 1000000 in
theorem flipLinear_any (F : Nat → Int) (w : World) (hF : Bytes 64 F) :
    Calls Tryz.prog 82 #[.agg (row 64 F)] w fun e w' => e = .returned (.agg (row 64 (flipF F))) ∧ Below w.heap.size w w' := by
 have HF := Lib.hid hF; clear hF
 go_enter Tryz.func82, Tryz.ntmps82
 go_wp2
 refine atomW fun W1 e1 => ?_
 have hb1 : Below w.heap.size w W1 := by rw [e1]; exact bt
 have q1 := hb1.size
 have r2_1 : IsRow W1 (w.heap.size + 1) := by rw [e1]; simp [go_sem]
 have c2_1 := congrArg (fun x => blk x (w.heap.size + 1)) e1; simp [go_sem] at c2_1
 have z2_1 := isRow_lt r2_1
 have r3_1 : IsRow W1 (w.heap.size + 2) := by rw [e1]; simp [go_sem]
 have c3_1 := congrArg (fun x => blk x (w.heap.size + 2)) e1; simp [go_sem] at c3_1
 have z3_1 := isRow_lt r3_1
 clear e1
 go_loopw [9] (fun s9 wr => ∃ i : Nat, i ≤ 8 ∧ s9 = .int .i64 i ∧ Below w.heap.size w wr ∧ (IsRow wr (w.heap.size + 1) ∧ blk wr (w.heap.size + 1) = blk W1 (w.heap.size + 1)) ∧ (IsRow wr (w.heap.size + 2) ∧ blk wr (w.heap.size + 2) = row 64 (flipK F i 0))) (fun s9 _ => 8 - (intOf s9).toNat)
 case atStart => exact ⟨0, by omega, rfl, hb1, ⟨r2_1, rfl⟩, ⟨r3_1, c3_1.trans (flip_zero F)⟩⟩
 case round =>
  obtain ⟨i, hle2, rfl, hb2, ⟨r2_2, c2_2⟩, ⟨r3_2, c3_2⟩⟩ := hrel
  obtain ⟨W2, rfl⟩ : ∃ W2 : World, W2 = wr := ⟨_, rfl⟩
  have q2 := hb2.size
  have E2_2 := Lib.hid c2_1; replace c2_2 := c2_2.trans c2_1
  have z2_2 := isRow_lt r2_2
  have z3_2 := isRow_lt r3_2
  clear r2_1 c2_1 z2_1 r3_1 c3_1 z3_1 hb1
  by_cases hlt2 : i < 8
  ·
   have i0_2 : (0 : Int) ≤ (i : Int) := by omega
   have i8_2 : (i : Int) < 8 := by omega
   have k8_2 : i < 8 := by omega
   have m8_2 : i * 8 + 8 ≤ 64 := by omega
   have m64_2 : i * 64 + 64 ≤ 512 := by omega
   have l1_2 : 10 + i * 64 + 64 ≤ 522 := by omega
   go_wp2
   have nw2_W2_0 : (w.heap.size + 1) ≠ W2.heap.size := by omega
   have nw3_W2_0 : (w.heap.size + 2) ≠ W2.heap.size := by omega
   refine atomW fun W3 e3 => ?_
   have hb3 : Below w.heap.size w W3 := by rw [e3]; exact bt
   have q3 := hb3.size
   have r2_3 : IsRow W3 (w.heap.size + 1) := by rw [e3]; simp [go_sem, r2_2, c2_2, r3_2, c3_2, nw2_W2_0, nw3_W2_0]
   have c2_3 := congrArg (fun x => blk x (w.heap.size + 1)) e3; simp [go_sem, r2_2, c2_2, r3_2, c3_2, nw2_W2_0, nw3_W2_0] at c2_3
   have z2_3 := isRow_lt r2_3
   have r3_3 : IsRow W3 (w.heap.size + 2) := by rw [e3]; simp [go_sem, r2_2, c2_2, r3_2, c3_2, nw2_W2_0, nw3_W2_0]
   have c3_3 := congrArg (fun x => blk x (w.heap.size + 2)) e3; simp [go_sem, r2_2, c2_2, r3_2, c3_2, nw2_W2_0, nw3_W2_0] at c3_3
   have z3_3 := isRow_lt r3_3
   clear e3 nw2_W2_0 nw3_W2_0 r2_2 c2_2 z2_2 r3_2 c3_2 z3_2 hb2
   go_loopw [14] (fun s14 wr => ∃ j : Nat, j ≤ 8 ∧ s14 = .int .i64 j ∧ Below w.heap.size w wr ∧ (IsRow wr (w.heap.size + 1) ∧ blk wr (w.heap.size + 1) = blk W3 (w.heap.size + 1)) ∧ (IsRow wr (w.heap.size + 2) ∧ blk wr (w.heap.size + 2) = row 64 (flipK F i j))) (fun s14 _ => 8 - (intOf s14).toNat)
   case atStart => exact ⟨0, by omega, rfl, hb3, ⟨r2_3, rfl⟩, ⟨r3_3, c3_3⟩⟩
   case round =>
    obtain ⟨j, hle4, rfl, hb4, ⟨r2_4, c2_4⟩, ⟨r3_4, c3_4⟩⟩ := hrel
    obtain ⟨W4, rfl⟩ : ∃ W4 : World, W4 = wr := ⟨_, rfl⟩
    have q4 := hb4.size
    have E2_4 := Lib.hid c2_3; replace c2_4 := c2_4.trans c2_3
    have z2_4 := isRow_lt r2_4
    have z3_4 := isRow_lt r3_4
    clear r2_3 c2_3 z2_3 r3_3 c3_3 z3_3 hb3
    by_cases hlt4 : j < 8
    ·
     have i0_4 : (0 : Int) ≤ (j : Int) := by omega
     have i8_4 : (j : Int) < 8 := by omega
     have k8_4 : j < 8 := by omega
     have m8_4 : j * 8 + 8 ≤ 64 := by omega
     have m64_4 : j * 64 + 64 ≤ 512 := by omega
     have l1_4 : 10 + j * 64 + 64 ≤ 522 := by omega
     have l2_4i : 10 + i * 64 + j * 8 + 8 ≤ 522 := by omega
     have l3_4i : 10 + j * 64 + i * 8 + 8 ≤ 522 := by omega
     have l4_4i : i * 64 + j * 8 + 8 ≤ 512 := by omega
     have l5_4i : j * 64 + i * 8 + 8 ≤ 512 := by omega
     have l6_4i : i * 8 + j < 64 := by omega
     have l7_4i : j * 8 + i < 64 := by omega
     go_wp2
     go_roundw
     case rel => exact ⟨j + 1, by omega, by go_num, bt, ⟨by simp [go_sem, r2_4, c2_4, r3_4, c3_4], (by rw [E2_4.out]; first | exact c2_4 | (simp [go_sem, r2_4, c2_4, r3_4, c3_4]; done))⟩, ⟨by simp [go_sem, r2_4, c2_4, r3_4, c3_4], (by first | (rw [blk_setRow _ _ _ _ r3_4, if_pos rfl]; exact flip_step F i j (by omega) (by omega)) | exact (c3_4).trans (flip_step F i j (by omega) (by omega)) | (simp [go_sem, r2_4, c2_4, r3_4, c3_4]; exact flip_step F i j (by omega) (by omega)))⟩⟩
     case measure => simp [intOf]; omega
    ·
     obtain rfl : j = 8 := by omega
     go_wp2
     go_roundw
     case rel => exact ⟨i + 1, by omega, by go_num, bt, ⟨by simp [go_sem, r2_4, c2_4, r3_4, c3_4], (by rw [E2_2.out]; first | exact c2_4 | (simp [go_sem, r2_4, c2_4, r3_4, c3_4]; done))⟩, ⟨by simp [go_sem, r2_4, c2_4, r3_4, c3_4], (by first | exact (c3_4).trans (flip_row F i) | (simp [go_sem, r2_4, c2_4, r3_4, c3_4]; exact flip_row F i))⟩⟩
     case measure => simp [intOf]; omega
  ·
   obtain rfl : i = 8 := by omega
   rw [flip_end F] at c3_2
   go_wp2_with fail
   refine bodyPost_ret (result_cell rfl aggLin _ _ (row 64 (flipF F)) _ rfl ?_ ?_) rfl ⟨rfl, ?_⟩
   · simp [go_sem, r2_2, c2_2, r3_2, c3_2]
   · simp [go_sem, r2_2, c2_2, r3_2, c3_2]
   · exact bt

/-! ### the image of a vector -/
theorem app_start (p : Int) (G : Nat → Nat → Int) (v : Nat → Int) : row 8 zf = row 8 (appF p 0 G v) := row_congr fun i _ => by simp [appF, sumTo, zf]
theorem byte_at {b' off' m : Nat} {W : World} {N : Nat} {F g : Nat → Int} (hc : blk W b' = row N F) (h : off' + m ≤ N) (hg : ∀ i, i < m → F (off' + i) = g i) (hb : Bytes m g) : ∀ i, i < m → (blk W b')[off' + i]? = some (.int .u8 (g i)) ∧ 0 ≤ g i ∧ g i ≤ 255 :=
  fun i hi => ⟨by rw [hc, row_get? N F _ (by omega), hg i hi], hb i hi⟩
theorem byte_alg {b' : Nat} {W : World} {p n : Int} {f : Nat → Int} (i j : Nat) (hc : blk W b' = alg p n f) (hi : i < 8) (hj : j < 8) (hf : Bytes 520 f) : ∀ t, t < 8 → (blk W b')[10 + i * 64 + j * 8 + t]? = some (.int .u8 (mtab f i j t)) ∧ 0 ≤ mtab f i j t ∧ mtab f i j t ≤ 255 :=
  fun t ht => ⟨by rw [hc]; exact alg_at p n f i j t hi hj ht, tab_bytes hf (i * 64 + (j * 8 + t)) (by omega)⟩

set_option maxRecDepth 100000 in
set_option maxHeartbeats 1000000 in
theorem applyLinear_any (p : Int) (F v : Nat → Int) (w : World) (hp : 0 < p) (hp' : p ≤ 255) (hF : Bytes 64 F) (hv : Bytes 8 v) :
    Calls Tryz.prog 72 #[.int .i64 p, .agg (row 64 F), .agg (row 8 v)] w fun e w' => e = .returned (.agg (row 8 (appF p 8 (fun j k => F (j * 8 + k)) v))) ∧ Below w.heap.size w w' := by
 have HF := Lib.hid hF; clear hF
 have Hv := Lib.hid hv; clear hv
 go_enter Tryz.func72, Tryz.ntmps72
 go_wp2
 refine atomW fun W1 e1 => ?_
 have hb1 : Below w.heap.size w W1 := by rw [e1]; exact bt
 have q1 := hb1.size
 have r4_1 : IsRow W1 (w.heap.size) := by rw [e1]; simp [go_sem]
 have c4_1 := congrArg (fun x => blk x (w.heap.size)) e1; simp [go_sem] at c4_1
 have z4_1 := isRow_lt r4_1
 have r6_1 : IsRow W1 (w.heap.size + 2) := by rw [e1]; simp [go_sem]
 have c6_1 := congrArg (fun x => blk x (w.heap.size + 2)) e1; simp [go_sem] at c6_1
 have z6_1 := isRow_lt r6_1
 have r7_1 : IsRow W1 (w.heap.size + 3) := by rw [e1]; simp [go_sem]
 have c7_1 := congrArg (fun x => blk x (w.heap.size + 3)) e1; simp [go_sem] at c7_1
 have z7_1 := isRow_lt r7_1
 clear e1
 go_loopw [11] (fun s11 wr => ∃ i : Nat, i ≤ 8 ∧ s11 = .int .i64 i ∧ Below w.heap.size w wr ∧ (IsRow wr (w.heap.size) ∧ blk wr (w.heap.size) = blk W1 (w.heap.size)) ∧ (IsRow wr (w.heap.size + 2) ∧ blk wr (w.heap.size + 2) = blk W1 (w.heap.size + 2)) ∧ (IsRow wr (w.heap.size + 3) ∧ blk wr (w.heap.size + 3) = row 8 (appF p i (fun j k => F (j * 8 + k)) v))) (fun s11 _ => 8 - (intOf s11).toNat)
 case atStart => exact ⟨0, by omega, rfl, hb1, ⟨r4_1, rfl⟩, ⟨r6_1, rfl⟩, ⟨r7_1, c7_1.trans (app_start p _ v)⟩⟩
 case round =>
  obtain ⟨i, hle2, rfl, hb2, ⟨r4_2, c4_2⟩, ⟨r6_2, c6_2⟩, ⟨r7_2, c7_2⟩⟩ := hrel
  obtain ⟨W2, rfl⟩ : ∃ W2 : World, W2 = wr := ⟨_, rfl⟩
  have q2 := hb2.size
  have E4_2 := Lib.hid c4_1; replace c4_2 := c4_2.trans c4_1
  have z4_2 := isRow_lt r4_2
  have E6_2 := Lib.hid c6_1; replace c6_2 := c6_2.trans c6_1
  have z6_2 := isRow_lt r6_2
  have z7_2 := isRow_lt r7_2
  clear r4_1 c4_1 z4_1 r6_1 c6_1 z6_1 r7_1 c7_1 z7_1 hb1
  by_cases hlt2 : i < 8
  ·
   have i0_2 : (0 : Int) ≤ (i : Int) := by omega
   have i8_2 : (i : Int) < 8 := by omega
   have k8_2 : i < 8 := by omega
   have m8_2 : i * 8 + 8 ≤ 64 := by omega
   have m64_2 : i * 64 + 64 ≤ 512 := by omega
   have l1_2 : 10 + i * 64 + 64 ≤ 522 := by omega
   have b1 := (Hv.out i (by omega)).1; have b2 := (Hv.out i (by omega)).2
   go_wp2
   refine wp_quiet_tail 6 (Below W2.heap.size W2) (by kernel_rfl) (by kernel_rfl) (Below.refl _ _).drew ?_
   simp only [List.take_succ_cons, List.take_zero, List.drop_succ_cons, List.drop_zero]
   iterate 6 (refine q_plain rfl ?_; apply Exists.intro; refine ⟨fun W hW => ?_, ?_⟩; (focus (obtain ⟨x4, y4⟩ := keepB hW z4_2 r4_2 c4_2; obtain ⟨x6, y6⟩ := keepB hW z6_2 r6_2 c6_2; obtain ⟨x7, y7⟩ := keepB hW z7_2 r7_2 c7_2; go_simp; first | done | rfl)); simp only [Act.put, List.setIfInBounds_toArray, List.set_cons_zero, List.set_cons_succ])
   refine wpQuiet_nil ?_
   intro W3 hw3
   obtain ⟨r4_3, c4_3, z4_3⟩ := keepZ hw3 z4_2 r4_2 c4_2
   obtain ⟨r6_3, c6_3, z6_3⟩ := keepZ hw3 z6_2 r6_2 c6_2
   obtain ⟨r7_3, c7_3, z7_3⟩ := keepZ hw3 z7_2 r7_2 c7_2
   obtain ⟨hb3, q3⟩ := bN hb2 hw3
   clear hw3 r4_2 c4_2 z4_2 r6_2 c6_2 z6_2 r7_2 c7_2 z7_2 hb2
   go_wp2_with fail
   refine (addMultiple_any p _ _ 0 8 8 8 8 _ (i * 8) (appF p i (fun j k => F (j * 8 + k)) v) (fun k => F (i * 8 + k)) _ hp hp' b1 b2 r7_3 c7_3 (by omega) (by omega) (fun t _ _ => app_range p hp i _ v t) (byte_at (N := 64) c4_3 (by omega) (fun _ _ => rfl) (fun t ht => HF.out _ (by omega))) (by omega)).mono ?_; rintro _ _ ⟨rfl, rfl⟩
   go_wp2
   go_roundw
   case rel => exact ⟨i + 1, by omega, by go_num, bt, ⟨by simp [go_sem, r4_3, c4_3, r6_3, c6_3, r7_3, c7_3], (by rw [E4_2.out]; first | exact c4_3 | (simp [go_sem, r4_3, c4_3, r6_3, c6_3, r7_3, c7_3]; done))⟩, ⟨by simp [go_sem, r4_3, c4_3, r6_3, c6_3, r7_3, c7_3], (by rw [E6_2.out]; first | exact c6_3 | (simp [go_sem, r4_3, c4_3, r6_3, c6_3, r7_3, c7_3]; done))⟩, ⟨by simp [go_sem, r4_3, c4_3, r6_3, c6_3, r7_3, c7_3], (by first | (rw [blk_setRow _ _ _ _ r7_3, if_pos rfl]; exact addm_row fun t _ => app_step p i (fun j k => F (j * 8 + k)) v t) | exact (c7_3).trans (addm_row fun t _ => app_step p i (fun j k => F (j * 8 + k)) v t) | (simp [go_sem, r4_3, c4_3, r6_3, c6_3, r7_3, c7_3]; exact addm_row fun t _ => app_step p i (fun j k => F (j * 8 + k)) v t))⟩⟩
   case measure => simp [intOf]; omega
  ·
   obtain rfl : i = 8 := by omega
   go_wp2_with fail
   refine bodyPost_ret (result_cell rfl aggVec _ _ (row 8 (appF p 8 (fun j k => F (j * 8 + k)) v)) _ rfl ?_ ?_) rfl ⟨rfl, ?_⟩
   · simp [go_sem, r4_2, c4_2, r6_2, c6_2, r7_2, c7_2]
   · simp [go_sem, r4_2, c4_2, r6_2, c6_2, r7_2, c7_2]
   · exact bt

theorem alg_el (p n : Int) (f : Nat → Int) (i j t : Nat) (hi : i < 8) (hj : j < 8) (ht : t < 8) (h : 10 + i * 64 + j * 8 + t < (alg p n f).size) : (alg p n f)[10 + i * 64 + j * 8 + t] = .int .u8 (mtab f i j t) := by
  have := alg_at p n f i j t hi hj ht
  rw [Array.getElem?_eq_getElem h] at this
  exact Option.some.inj this
theorem alg_cu (p n : Int) (f : Nat → Int) (i : Nat) (hi : i < 8) (h : 2 + i < (alg p n f).size) : (alg p n f)[2 + i] = .int .u8 (f i) := by
  have := alg_get p n f (2 + i) (by omega) (by omega)
  rw [Array.getElem?_eq_getElem h, Nat.add_sub_cancel_left] at this
  exact Option.some.inj this
/-! ### coproducts -/
/-- the coproduct of the first m entries of v: at j, k -/
def copF (p : Int) (f v : Nat → Int) (m : Nat) : Nat → Int := fun t => sumTo (fun i => v i * mtab f i (t / 8) (t % 8)) m % p
/-- i entries of v are done, and the first j images for entry i -/
def copK (p : Int) (f v : Nat → Int) (i j : Nat) : Nat → Int := fun t => if t / 8 < j then copF p f v (i + 1) t else copF p f v i t
theorem cop_start (p : Int) (f v : Nat → Int) : row 64 zf = row 64 (copK p f v 0 0) := row_congr fun t _ => by unfold copK copF; rw [if_neg (by omega)]; simp [sumTo, zf]
theorem cop_range (p : Int) (hp : 0 < p) (f v : Nat → Int) (i j t : Nat) : 0 ≤ copK p f v i j t ∧ copK p f v i j t < p := by
  unfold copK copF
  split
  · exact mod_range _ p hp
  · exact mod_range _ p hp
theorem cop_step (p : Int) (f v : Nat → Int) (i j : Nat) (hj : j < 8) : row 64 (addm p (j * 8) 8 (v i) (copK p f v i j) (mtab f i j)) = row 64 (copK p f v i (j + 1)) := row_congr fun t ht => by
  unfold addm copK copF
  by_cases h : j * 8 ≤ t ∧ t < j * 8 + 8
  · rw [if_pos h, if_neg (by omega), if_pos (by omega), Int.emod_add_emod, sumTo, show t / 8 = j by omega, show t - j * 8 = t % 8 by omega]
  · rw [if_neg h]
    by_cases h2 : t / 8 < j
    · rw [if_pos h2, if_pos (by omega)]
    · rw [if_neg h2, if_neg (by omega)]
theorem cop_row (p : Int) (f v : Nat → Int) (i : Nat) : row 64 (copK p f v i 8) = row 64 (copK p f v (i + 1) 0) := row_congr fun t ht => by
  unfold copK; rw [if_pos (by omega), if_neg (by omega)]
theorem cop_end (p : Int) (f v : Nat → Int) (m : Nat) : row 64 (copK p f v m 0) = row 64 (copF p f v m) := row_congr fun t _ => by
  unfold copK; rw [if_neg (by omega)]

set_option maxRecDepth 100000 in
set_option maxHeartbeats 1000000 in
theorem coproduct_any (p n : Int) (f v : Nat → Int) (w : World) (hp : 0 < p) (hp' : p ≤ 255) (hF : Bytes 520 f) (hv : Bytes 8 v) :
    Calls Tryz.prog 79 #[.agg (alg p n f), .agg (row 8 v)] w fun e w' => e = .returned (.agg (row 64 (copF p f v 8))) ∧ Below w.heap.size w w' := by
 have HF := Lib.hid hF; clear hF
 have Hv := Lib.hid hv; clear hv
 go_enter Tryz.func79, Tryz.ntmps79
 go_wp2
 refine atomW fun W1 e1 => ?_
 have hb1 : Below w.heap.size w W1 := by rw [e1]; exact bt
 have q1 := hb1.size
 have r2_1 : IsRow W1 (w.heap.size) := by rw [e1]; simp [go_sem]
 have c2_1 := congrArg (fun x => blk x (w.heap.size)) e1; simp [go_sem] at c2_1
 have z2_1 := isRow_lt r2_1
 have r4_1 : IsRow W1 (w.heap.size + 2) := by rw [e1]; simp [go_sem]
 have c4_1 := congrArg (fun x => blk x (w.heap.size + 2)) e1; simp [go_sem] at c4_1
 have z4_1 := isRow_lt r4_1
 have r5_1 : IsRow W1 (w.heap.size + 3) := by rw [e1]; simp [go_sem]
 have c5_1 := congrArg (fun x => blk x (w.heap.size + 3)) e1; simp [go_sem] at c5_1
 have z5_1 := isRow_lt r5_1
 clear e1
 go_loopw [11] (fun s11 wr => ∃ i : Nat, i ≤ 8 ∧ s11 = .int .i64 i ∧ Below w.heap.size w wr ∧ (IsRow wr (w.heap.size) ∧ blk wr (w.heap.size) = blk W1 (w.heap.size)) ∧ (IsRow wr (w.heap.size + 2) ∧ blk wr (w.heap.size + 2) = blk W1 (w.heap.size + 2)) ∧ (IsRow wr (w.heap.size + 3) ∧ blk wr (w.heap.size + 3) = row 64 (copK p f v i 0))) (fun s11 _ => 8 - (intOf s11).toNat)
 case atStart => exact ⟨0, by omega, rfl, hb1, ⟨r2_1, rfl⟩, ⟨r4_1, rfl⟩, ⟨r5_1, c5_1.trans (cop_start p f v)⟩⟩
 case round =>
  obtain ⟨i, hle2, rfl, hb2, ⟨r2_2, c2_2⟩, ⟨r4_2, c4_2⟩, ⟨r5_2, c5_2⟩⟩ := hrel
  obtain ⟨W2, rfl⟩ : ∃ W2 : World, W2 = wr := ⟨_, rfl⟩
  have q2 := hb2.size
  have E2_2 := Lib.hid c2_1; replace c2_2 := c2_2.trans c2_1
  have z2_2 := isRow_lt r2_2
  have E4_2 := Lib.hid c4_1; replace c4_2 := c4_2.trans c4_1
  have z4_2 := isRow_lt r4_2
  have z5_2 := isRow_lt r5_2
  clear r2_1 c2_1 z2_1 r4_1 c4_1 z4_1 r5_1 c5_1 z5_1 hb1
  by_cases hlt2 : i < 8
  ·
   have i0_2 : (0 : Int) ≤ (i : Int) := by omega
   have i8_2 : (i : Int) < 8 := by omega
   have k8_2 : i < 8 := by omega
   have m8_2 : i * 8 + 8 ≤ 64 := by omega
   have m64_2 : i * 64 + 64 ≤ 512 := by omega
   have l1_2 : 10 + i * 64 + 64 ≤ 522 := by omega
   have b1 := (Hv.out i (by omega)).1; have b2 := (Hv.out i (by omega)).2
   go_wp2
   go_loopw [19] (fun s19 wr => ∃ j : Nat, j ≤ 8 ∧ s19 = .int .i64 j ∧ Below w.heap.size w wr ∧ (IsRow wr (w.heap.size) ∧ blk wr (w.heap.size) = blk W2 (w.heap.size)) ∧ (IsRow wr (w.heap.size + 2) ∧ blk wr (w.heap.size + 2) = blk W2 (w.heap.size + 2)) ∧ (IsRow wr (w.heap.size + 3) ∧ blk wr (w.heap.size + 3) = row 64 (copK p f v i j))) (fun s19 _ => 8 - (intOf s19).toNat)
   case atStart => exact ⟨0, by omega, rfl, hb2, ⟨r2_2, rfl⟩, ⟨r4_2, rfl⟩, ⟨r5_2, c5_2⟩⟩
   case round =>
    obtain ⟨j, hle3, rfl, hb3, ⟨r2_3, c2_3⟩, ⟨r4_3, c4_3⟩, ⟨r5_3, c5_3⟩⟩ := hrel
    obtain ⟨W3, rfl⟩ : ∃ W3 : World, W3 = wr := ⟨_, rfl⟩
    have q3 := hb3.size
    have E2_3 := Lib.hid c2_2; replace c2_3 := c2_3.trans c2_2
    have z2_3 := isRow_lt r2_3
    have E4_3 := Lib.hid c4_2; replace c4_3 := c4_3.trans c4_2
    have z4_3 := isRow_lt r4_3
    have z5_3 := isRow_lt r5_3
    clear r2_2 c2_2 z2_2 r4_2 c4_2 z4_2 r5_2 c5_2 z5_2 hb2
    by_cases hlt3 : j < 8
    ·
     have i0_3 : (0 : Int) ≤ (j : Int) := by omega
     have i8_3 : (j : Int) < 8 := by omega
     have k8_3 : j < 8 := by omega
     have m8_3 : j * 8 + 8 ≤ 64 := by omega
     have m64_3 : j * 64 + 64 ≤ 512 := by omega
     have l1_3 : 10 + j * 64 + 64 ≤ 522 := by omega
     have l2_3i : 10 + i * 64 + j * 8 + 8 ≤ 522 := by omega
     have l3_3i : 10 + j * 64 + i * 8 + 8 ≤ 522 := by omega
     have l4_3i : i * 64 + j * 8 + 8 ≤ 512 := by omega
     have l5_3i : j * 64 + i * 8 + 8 ≤ 512 := by omega
     have l6_3i : i * 8 + j < 64 := by omega
     have l7_3i : j * 8 + i < 64 := by omega
     go_wp2
     have nw2_W3_0 : (w.heap.size) ≠ W3.heap.size := by omega
     have nw4_W3_0 : (w.heap.size + 2) ≠ W3.heap.size := by omega
     have nw5_W3_0 : (w.heap.size + 3) ≠ W3.heap.size := by omega
     refine atomW fun W4 e4 => ?_
     have hb4 : Below w.heap.size w W4 := by rw [e4]; exact bt
     have q4 := hb4.size
     have r2_4 : IsRow W4 (w.heap.size) := by rw [e4]; simp [go_sem, r2_3, c2_3, r4_3, c4_3, r5_3, c5_3, nw2_W3_0, nw4_W3_0, nw5_W3_0]
     have c2_4 := congrArg (fun x => blk x (w.heap.size)) e4; simp [go_sem, r2_3, c2_3, r4_3, c4_3, r5_3, c5_3, nw2_W3_0, nw4_W3_0, nw5_W3_0] at c2_4
     have z2_4 := isRow_lt r2_4
     have r4_4 : IsRow W4 (w.heap.size + 2) := by rw [e4]; simp [go_sem, r2_3, c2_3, r4_3, c4_3, r5_3, c5_3, nw2_W3_0, nw4_W3_0, nw5_W3_0]
     have c4_4 := congrArg (fun x => blk x (w.heap.size + 2)) e4; simp [go_sem, r2_3, c2_3, r4_3, c4_3, r5_3, c5_3, nw2_W3_0, nw4_W3_0, nw5_W3_0] at c4_4
     have z4_4 := isRow_lt r4_4
     have r5_4 : IsRow W4 (w.heap.size + 3) := by rw [e4]; simp [go_sem, r2_3, c2_3, r4_3, c4_3, r5_3, c5_3, nw2_W3_0, nw4_W3_0, nw5_W3_0]
     have c5_4 := congrArg (fun x => blk x (w.heap.size + 3)) e4; simp [go_sem, r2_3, c2_3, r4_3, c4_3, r5_3, c5_3, nw2_W3_0, nw4_W3_0, nw5_W3_0] at c5_4
     have z5_4 := isRow_lt r5_4
     have r9_4 : IsRow W4 (W3.heap.size) := by rw [e4]; simp [go_sem, r2_3, c2_3, r4_3, c4_3, r5_3, c5_3, nw2_W3_0, nw4_W3_0, nw5_W3_0]
     have c9_4 := congrArg (fun x => blk x (W3.heap.size)) e4; simp [go_sem, r2_3, c2_3, r4_3, c4_3, r5_3, c5_3, nw2_W3_0, nw4_W3_0, nw5_W3_0] at c9_4
     have z9_4 := isRow_lt r9_4
     have n2_9 : (w.heap.size) ≠ (W3.heap.size) := by omega
     have n4_9 : (w.heap.size + 2) ≠ (W3.heap.size) := by omega
     have n5_9 : (w.heap.size + 3) ≠ (W3.heap.size) := by omega
     have n9_2 : (W3.heap.size) ≠ (w.heap.size) := by omega
     have n9_4 : (W3.heap.size) ≠ (w.heap.size + 2) := by omega
     have n9_5 : (W3.heap.size) ≠ (w.heap.size + 3) := by omega
     clear e4 nw2_W3_0 nw4_W3_0 nw5_W3_0 r2_3 c2_3 z2_3 r4_3 c4_3 z4_3 r5_3 c5_3 z5_3 hb3
     refine wp_quiet_tail 7 (Below W4.heap.size W4) (by kernel_rfl) (by kernel_rfl) (Below.refl _ _).drew ?_
     simp only [List.take_succ_cons, List.take_zero, List.drop_succ_cons, List.drop_zero]
     iterate 7 (refine q_plain rfl ?_; apply Exists.intro; refine ⟨fun W hW => ?_, ?_⟩; (focus (obtain ⟨x2, y2⟩ := keepB hW z2_4 r2_4 c2_4; obtain ⟨x4, y4⟩ := keepB hW z4_4 r4_4 c4_4; obtain ⟨x5, y5⟩ := keepB hW z5_4 r5_4 c5_4; obtain ⟨x9, y9⟩ := keepB hW z9_4 r9_4 c9_4; go_simp; first | done | rfl)); simp only [Act.put, List.setIfInBounds_toArray, List.set_cons_zero, List.set_cons_succ])
     refine wpQuiet_nil ?_
     intro W5 hw5
     obtain ⟨r2_5, c2_5, z2_5⟩ := keepZ hw5 z2_4 r2_4 c2_4
     obtain ⟨r4_5, c4_5, z4_5⟩ := keepZ hw5 z4_4 r4_4 c4_4
     obtain ⟨r5_5, c5_5, z5_5⟩ := keepZ hw5 z5_4 r5_4 c5_4
     obtain ⟨r9_5, c9_5, z9_5⟩ := keepZ hw5 z9_4 r9_4 c9_4
     obtain ⟨hb5, q5⟩ := bN hb4 hw5
     clear hw5 r2_4 c2_4 z2_4 r4_4 c4_4 z4_4 r5_4 c5_4 z5_4 r9_4 c9_4 z9_4 hb4
     go_wp2_with fail
     refine (addMultiple_any p _ _ (j * 8) 64 8 _ _ _ 0 (copK p f v i j) (mtab f i j) _ hp hp' b1 b2 r5_5 c5_5 (by omega) (by omega) (fun t _ _ => cop_range p hp f v i j t) (byte_at (N := 8) (off' := 0) c9_5 (by omega) (fun t _ => by rw [Nat.zero_add]; rfl) (fun t ht => tab_bytes HF.out _ (by omega))) (by omega)).mono ?_; rintro _ _ ⟨rfl, rfl⟩
     go_wp2
     go_roundw
     case rel => exact ⟨j + 1, by omega, by go_num, bt, ⟨by simp [go_sem, r2_5, c2_5, n2_9, r4_5, c4_5, n4_9, r5_5, c5_5, n5_9, r9_5, c9_5, n9_2, n9_4, n9_5], (by rw [E2_3.out]; first | exact c2_5 | (simp [go_sem, r2_5, c2_5, n2_9, r4_5, c4_5, n4_9, r5_5, c5_5, n5_9, r9_5, c9_5, n9_2, n9_4, n9_5]; done))⟩, ⟨by simp [go_sem, r2_5, c2_5, n2_9, r4_5, c4_5, n4_9, r5_5, c5_5, n5_9, r9_5, c9_5, n9_2, n9_4, n9_5], (by rw [E4_3.out]; first | exact c4_5 | (simp [go_sem, r2_5, c2_5, n2_9, r4_5, c4_5, n4_9, r5_5, c5_5, n5_9, r9_5, c9_5, n9_2, n9_4, n9_5]; done))⟩, ⟨by simp [go_sem, r2_5, c2_5, n2_9, r4_5, c4_5, n4_9, r5_5, c5_5, n5_9, r9_5, c9_5, n9_2, n9_4, n9_5], (by first | (rw [blk_setRow _ _ _ _ r5_5, if_pos rfl]; exact cop_step p f v i j (by omega)) | exact (c5_5).trans (cop_step p f v i j (by omega)) | (simp [go_sem, r2_5, c2_5, n2_9, r4_5, c4_5, n4_9, r5_5, c5_5, n5_9, r9_5, c9_5, n9_2, n9_4, n9_5]; exact cop_step p f v i j (by omega)))⟩⟩
     case measure => simp [intOf]; omega
    ·
     obtain rfl : j = 8 := by omega
     go_wp2
     go_roundw
     case rel => exact ⟨i + 1, by omega, by go_num, bt, ⟨by simp [go_sem, r2_3, c2_3, r4_3, c4_3, r5_3, c5_3], (by rw [E2_2.out]; first | exact c2_3 | (simp [go_sem, r2_3, c2_3, r4_3, c4_3, r5_3, c5_3]; done))⟩, ⟨by simp [go_sem, r2_3, c2_3, r4_3, c4_3, r5_3, c5_3], (by rw [E4_2.out]; first | exact c4_3 | (simp [go_sem, r2_3, c2_3, r4_3, c4_3, r5_3, c5_3]; done))⟩, ⟨by simp [go_sem, r2_3, c2_3, r4_3, c4_3, r5_3, c5_3], (by first | exact (c5_3).trans (cop_row p f v i) | (simp [go_sem, r2_3, c2_3, r4_3, c4_3, r5_3, c5_3]; exact cop_row p f v i))⟩⟩
     case measure => simp [intOf]; omega
  ·
   obtain rfl : i = 8 := by omega
   rw [cop_end p f v 8] at c5_2
   go_wp2_with fail
   refine bodyPost_ret (result_cell rfl aggLin _ _ (row 64 (copF p f v 8)) _ rfl ?_ ?_) rfl ⟨rfl, ?_⟩
   · simp [go_sem, r2_2, c2_2, r4_2, c4_2, r5_2, c5_2]
   · simp [go_sem, r2_2, c2_2, r4_2, c4_2, r5_2, c5_2]
   · exact bt

/-- the coproduct by images before n alone -/
def copS (p : Int) (f v : Nat → Int) (n i j : Nat) : Nat → Int := fun t => if t / 8 < n then copK p f v i j t else 0
theorem copS_start (p : Int) (f v : Nat → Int) (n : Nat) : row 64 zf = row 64 (copS p f v n 0 0) := row_congr fun t _ => by
  unfold copS copK copF
  rw [if_neg (show ¬ t / 8 < 0 by omega)]
  split <;> simp [sumTo, zf]
theorem copS_bytes {p : Int} (hp : 0 < p) (hp' : p ≤ 255) (f v : Nat → Int) (n i j : Nat) (t : Nat) : 0 ≤ copS p f v n i j t ∧ copS p f v n i j t ≤ 255 := by
  unfold copS
  split
  · have := cop_range p hp f v i j t; omega
  · omega
theorem copS_step (p : Int) (f v : Nat → Int) (n i j : Nat) (hj : j < n) (hn : n ≤ 8) : lay (row 64 (copS p f v n i j)) (j * 8) (row 8 (addm p 0 8 (v i) (fun t => copS p f v n i j (j * 8 + t)) (mtab f i j))) = row 64 (copS p f v n i (j + 1)) := by
  rw [lay_row _ _ _ _ _ (by omega)]
  refine row_congr fun t ht => ?_
  by_cases h : j * 8 ≤ t ∧ t < j * 8 + 8
  · rw [if_pos h]
    unfold addm
    rw [if_pos (by omega)]
    dsimp only
    rw [Nat.sub_zero, show j * 8 + (t - j * 8) = t by omega, show t - j * 8 = t % 8 by omega]
    unfold copS copK copF
    rw [if_pos (show t / 8 < n by omega), if_pos (show t / 8 < n by omega), if_neg (show ¬ t / 8 < j by omega), if_pos (show t / 8 < j + 1 by omega), Int.emod_add_emod, sumTo, show t / 8 = j by omega]
  · rw [if_neg h]
    unfold copS copK
    by_cases h1 : t / 8 < n
    · rw [if_pos h1, if_pos h1]
      by_cases h2 : t / 8 < j
      · rw [if_pos h2, if_pos (by omega)]
      · rw [if_neg h2, if_neg (by omega)]
    · rw [if_neg h1, if_neg h1]
theorem copS_row (p : Int) (f v : Nat → Int) (n i : Nat) : row 64 (copS p f v n i n) = row 64 (copS p f v n (i + 1) 0) := row_congr fun t ht => by
  unfold copS copK
  by_cases h1 : t / 8 < n
  · rw [if_pos h1, if_pos h1, if_pos h1, if_neg (by omega)]
  · rw [if_neg h1, if_neg h1]

/-! ### Counits -/
theorem dot_range {v u : Nat → Int} (n : Nat) (hv : Bytes n v) (hu : Bytes n u) : ∀ k, k ≤ n → 0 ≤ dotF k v u ∧ dotF k v u ≤ 65025 * k
  | 0, _ => by simp [dotF, sumTo]
  | k + 1, h => by
    have := dot_range n hv hu k (by omega)
    have := prod_le (v k) (u k) 255 255 (hv k (by omega)).1 (hu k (by omega)).1 (hv k (by omega)).2 (hu k (by omega)).2
    unfold dotF at *
    rw [sumTo]
    omega
theorem dot_succ (v u : Nat → Int) (k : Nat) : dotF k v u + v k * u k = dotF (k + 1) v u := rfl
theorem ret_mod {a b p : Int} (hp : 0 < p) (h : a = b) : Ending.returned (.int .i64 (a % p)) = .returned (.int .i64 (b % p)) := by rw [h]

set_option maxRecDepth 100000 in
set_option maxHeartbeats 1000000 in
theorem formValue_any (p : Int) (v u : Nat → Int) (w : World) (hp : 0 < p) (hp' : p ≤ 255) (hv : Bytes 8 v) (hu : Bytes 8 u) :
    Calls Tryz.prog 163 #[.int .i64 p, .agg (row 8 v), .agg (row 8 u)] w fun e w' => e = .returned (.int .i64 (dotF 8 v u % p)) ∧ Below w.heap.size w w' := by
 have Hv := Lib.hid hv; clear hv
 have Hu := Lib.hid hu; clear hu
 go_enter Tryz.func163, Tryz.ntmps163
 go_wp2
 refine atomW fun W1 e1 => ?_
 have hb1 : Below w.heap.size w W1 := by rw [e1]; exact bt
 have q1 := hb1.size
 have r4_1 : IsRow W1 (w.heap.size) := by rw [e1]; simp [go_sem]
 have c4_1 := congrArg (fun x => blk x (w.heap.size)) e1; simp [go_sem] at c4_1
 have z4_1 := isRow_lt r4_1
 clear e1
 go_loopw [7, 11] (fun s7 s11 wr => ∃ i : Nat, i ≤ 8 ∧ s7 = .int .i64 (dotF i v u) ∧ s11 = .int .i64 i ∧ Below w.heap.size w wr ∧ (IsRow wr (w.heap.size) ∧ blk wr (w.heap.size) = blk W1 (w.heap.size))) (fun _ s11 _ => 8 - (intOf s11).toNat)
 case atStart => exact ⟨0, by omega, (by first | rfl | (simp; done) | go_num), rfl, hb1, ⟨r4_1, rfl⟩⟩
 case round =>
  obtain ⟨i, hle2, rfl, rfl, hb2, ⟨r4_2, c4_2⟩⟩ := hrel
  obtain ⟨W2, rfl⟩ : ∃ W2 : World, W2 = wr := ⟨_, rfl⟩
  have q2 := hb2.size
  have E4_2 := Lib.hid c4_1; replace c4_2 := c4_2.trans c4_1
  have z4_2 := isRow_lt r4_2
  clear r4_1 c4_1 z4_1 hb1
  have d1 := (dot_range 8 Hv.out Hu.out i (by omega)).1; have d2 := (dot_range 8 Hv.out Hu.out i (by omega)).2
  by_cases hlt2 : i < 8
  ·
   have i0_2 : (0 : Int) ≤ (i : Int) := by omega
   have i8_2 : (i : Int) < 8 := by omega
   have k8_2 : i < 8 := by omega
   have m8_2 : i * 8 + 8 ≤ 64 := by omega
   have m64_2 : i * 64 + 64 ≤ 512 := by omega
   have l1_2 : 10 + i * 64 + 64 ≤ 522 := by omega
   have b1 := (Hv.out i (by omega)).1; have b2 := (Hv.out i (by omega)).2; have b3 := (Hu.out i (by omega)).1; have b4 := (Hu.out i (by omega)).2; have b5 := (prod_le (v i) (u i) 255 255 b1 b3 b2 b4).1; have b6 := (prod_le (v i) (u i) 255 255 b1 b3 b2 b4).2
   go_wp2
   go_roundw
   case rel => exact ⟨i + 1, by omega, (by first | rfl | go_num | (simp; done)), by go_num, bt, ⟨by simp [go_sem, r4_2, c4_2], (by rw [E4_2.out]; first | exact c4_2 | (simp [go_sem, r4_2, c4_2]; done))⟩⟩
   case measure => simp [intOf]; omega
  ·
   obtain rfl : i = 8 := by omega
   go_wp2_with fail
   go_ret
   exact ⟨rfl, bt⟩
end
section
open Go.RowKit
set_option linter.unusedSimpArgs false
set_option linter.unusedVariables false
attribute [local irreducible] wpQuiet wpQE

/-! ### tables turned -/
/-- at i, j, k the entry j, k, i -/
def turnF (T : Nat → Int) : Nat → Int := fun u => T (u / 8 % 8 * 64 + u % 8 * 8 + u / 64)
/-- at j, k, i the entry i, j, k -/
def backF (T : Nat → Int) : Nat → Int := fun u => T (u % 8 * 64 + u / 64 * 8 + u / 8 % 8)
def turnK (T : Nat → Int) (a b c : Nat) : Nat → Int := fun u => if u / 8 % 8 < a ∨ (u / 8 % 8 = a ∧ (u % 8 < b ∨ (u % 8 = b ∧ u / 64 < c))) then turnF T u else 0
def backK (T : Nat → Int) (a b c : Nat) : Nat → Int := fun u => if u % 8 < a ∨ (u % 8 = a ∧ (u / 64 < b ∨ (u / 64 = b ∧ u / 8 % 8 < c))) then backF T u else 0
theorem turn_zero (T : Nat → Int) : row 512 zf = row 512 (turnK T 0 0 0) := row_congr fun u _ => by unfold turnK zf; rw [if_neg (by omega)]
theorem back_zero (T : Nat → Int) : row 512 zf = row 512 (backK T 0 0 0) := row_congr fun u _ => by unfold backK zf; rw [if_neg (by omega)]
theorem turn_step (T : Nat → Int) (j k i : Nat) {y : Int} (hj : j < 8) (hk : k < 8) (hi : i < 8) (hy : y = T (j * 64 + k * 8 + i)) : row 512 (upd (turnK T j k i) (i * 64 + j * 8 + k) y) = row 512 (turnK T j k (i + 1)) := row_congr fun u hu => by
  unfold upd turnK turnF
  by_cases e : u = i * 64 + j * 8 + k
  · subst e
    rw [if_pos rfl, if_pos (by omega), hy]
    congr 1; omega
  · rw [if_neg e]
    by_cases h : u / 8 % 8 < j ∨ (u / 8 % 8 = j ∧ (u % 8 < k ∨ (u % 8 = k ∧ u / 64 < i)))
    · rw [if_pos h, if_pos (by omega)]
    · rw [if_neg h, if_neg (by omega)]
theorem back_step (T : Nat → Int) (i j k : Nat) {y : Int} (hi : i < 8) (hj : j < 8) (hk : k < 8) (hy : y = T (i * 64 + j * 8 + k)) : row 512 (upd (backK T i j k) (j * 64 + k * 8 + i) y) = row 512 (backK T i j (k + 1)) := row_congr fun u hu => by
  unfold upd backK backF
  by_cases e : u = j * 64 + k * 8 + i
  · subst e
    rw [if_pos rfl, if_pos (by omega), hy]
    congr 1; omega
  · rw [if_neg e]
    by_cases h : u % 8 < i ∨ (u % 8 = i ∧ (u / 64 < j ∨ (u / 64 = j ∧ u / 8 % 8 < k)))
    · rw [if_pos h, if_pos (by omega)]
    · rw [if_neg h, if_neg (by omega)]
theorem turn_col (T : Nat → Int) (j k : Nat) : row 512 (turnK T j k 8) = row 512 (turnK T j (k + 1) 0) := row_congr fun u hu => by
  unfold turnK
  by_cases h : u / 8 % 8 < j ∨ (u / 8 % 8 = j ∧ (u % 8 < k ∨ (u % 8 = k ∧ u / 64 < 8)))
  · rw [if_pos h, if_pos (by omega)]
  · rw [if_neg h, if_neg (by omega)]
theorem turn_row (T : Nat → Int) (j : Nat) : row 512 (turnK T j 8 0) = row 512 (turnK T (j + 1) 0 0) := row_congr fun u hu => by
  unfold turnK
  by_cases h : u / 8 % 8 < j ∨ (u / 8 % 8 = j ∧ (u % 8 < 8 ∨ (u % 8 = 8 ∧ u / 64 < 0)))
  · rw [if_pos h, if_pos (by omega)]
  · rw [if_neg h, if_neg (by omega)]
theorem turn_end (T : Nat → Int) : row 512 (turnK T 8 0 0) = row 512 (turnF T) := row_congr fun u hu => by unfold turnK; rw [if_pos (by omega)]
theorem back_col (T : Nat → Int) (i j : Nat) : row 512 (backK T i j 8) = row 512 (backK T i (j + 1) 0) := row_congr fun u hu => by
  unfold backK
  by_cases h : u % 8 < i ∨ (u % 8 = i ∧ (u / 64 < j ∨ (u / 64 = j ∧ u / 8 % 8 < 8)))
  · rw [if_pos h, if_pos (by omega)]
  · rw [if_neg h, if_neg (by omega)]
theorem back_row (T : Nat → Int) (i : Nat) : row 512 (backK T i 8 0) = row 512 (backK T (i + 1) 0 0) := row_congr fun u hu => by
  unfold backK
  by_cases h : u % 8 < i ∨ (u % 8 = i ∧ (u / 64 < 8 ∨ (u / 64 = 8 ∧ u / 8 % 8 < 0)))
  · rw [if_pos h, if_pos (by omega)]
  · rw [if_neg h, if_neg (by omega)]
theorem back_end (T : Nat → Int) : row 512 (backK T 8 0 0) = row 512 (backF T) := row_congr fun u hu => by unfold backK; rw [if_pos (by omega)]
theorem digits3 (a b c : Nat) (ha : a < 8) (hb : b < 8) (hc : c < 8) : (a * 64 + b * 8 + c) / 64 = a ∧ (a * 64 + b * 8 + c) / 8 % 8 = b ∧ (a * 64 + b * 8 + c) % 8 = c := ⟨by omega, by omega, by omega⟩
/-- turned twice the other way it is turned once -/
theorem back_back (T : Nat → Int) : row 512 (backF (backF T)) = row 512 (turnF T) := row_congr fun u hu => by
  obtain ⟨h1, h2, h3⟩ := digits3 (u % 8) (u / 64) (u / 8 % 8) (by omega) (by omega) (by omega)
  show T (_ % 8 * 64 + _ / 64 * 8 + _ / 8 % 8) = T _
  rw [h1, h2, h3]
theorem turn_turn (T : Nat → Int) : row 512 (turnF (turnF T)) = row 512 (backF T) := row_congr fun u hu => by
  obtain ⟨h1, h2, h3⟩ := digits3 (u / 8 % 8) (u % 8) (u / 64) (by omega) (by omega) (by omega)
  show T (_ / 8 % 8 * 64 + _ % 8 * 8 + _ / 64) = T _
  rw [h1, h2, h3]
theorem turn_bytes {T : Nat → Int} (h : Bytes 512 T) : Bytes 512 (turnF T) := fun u hu => h _ (by omega)
theorem back_bytes {T : Nat → Int} (h : Bytes 512 T) : Bytes 512 (backF T) := fun u hu => h _ (by omega)

/-! ### pairs of vectors -/
/-- c times v (x) u added, in the first k rows -/
def pairK (p : Int) (F : Nat → Int) (c : Int) (v u : Nat → Int) (k : Nat) : Nat → Int := fun t => if t / 8 < k then (F t + c * v (t / 8) % p * u (t % 8)) % p else F t
theorem pair_zero (p : Int) (F : Nat → Int) (c : Int) (v u : Nat → Int) : row 64 F = row 64 (pairK p F c v u 0) := row_congr fun t _ => by unfold pairK; rw [if_neg (by omega)]
theorem pair_step (p : Int) (F : Nat → Int) (c : Int) (v u : Nat → Int) (k : Nat) (hk : k < 8) : row 64 (addm p (k * 8) 8 (c * v k % p) (pairK p F c v u k) u) = row 64 (pairK p F c v u (k + 1)) := row_congr fun t _ => by
  unfold addm pairK
  by_cases h : k * 8 ≤ t ∧ t < k * 8 + 8
  · rw [if_pos h, if_neg (by omega), if_pos (by omega), show t / 8 = k by omega, show t - k * 8 = t % 8 by omega]
  · rw [if_neg h]
    by_cases h2 : t / 8 < k
    · rw [if_pos h2, if_pos (by omega)]
    · rw [if_neg h2, if_neg (by omega)]
theorem pair_range {p : Int} (hp : 0 < p) {F : Nat → Int} (c : Int) (v u : Nat → Int) (k : Nat) (hF : ∀ t, t < 64 → 0 ≤ F t ∧ F t < p) (t : Nat) (ht : t < 64) : 0 ≤ pairK p F c v u k t ∧ pairK p F c v u k t < p := by
  unfold pairK
  split
  · exact mod_range _ p hp
  · exact hF t ht

set_option maxRecDepth 100000 in
set_option maxHeartbeats 1000000 in
theorem addPair_any (p c : Int) (b : Nat) (F v u : Nat → Int) (w : World) (hp : 0 < p) (hp' : p ≤ 255) (hc : 0 ≤ c) (hc' : c ≤ 255) (hF : ∀ t, t < 64 → 0 ≤ F t ∧ F t < p) (hv : Bytes 8 v) (hu : Bytes 8 u) (hr : IsRow w b) (hcm : blk w b = row 64 F) :
    Calls Tryz.prog 175 #[.int .i64 p, .pointer (some ⟨b, 0, none⟩), .int .u8 c, .agg (row 8 v), .agg (row 8 u)] w fun e w' => e = .returned (.tuple #[]) ∧ Aside w.heap.size b w w' ∧ IsRow w' b ∧ blk w' b = row 64 (pairK p F c v u 8) := by
 have HF := Lib.hid hF; clear hF
 have Hv := Lib.hid hv; clear hv
 have Hu := Lib.hid hu; clear hu
 have hbw := isRow_lt hr
 go_enter Tryz.func175, Tryz.ntmps175
 go_wp2
 have nwm_w_0 : (b) ≠ w.heap.size := by omega
 have nwm_w_1 : (b) ≠ w.heap.size + 1 := by omega
 refine atomW fun W1 e1 => ?_
 have hb1 : Aside w.heap.size b w W1 := by rw [e1]; (repeat (first | exact Aside.refl _ _ _ | refine Aside.alloc ?_ (by first | omega | (simp; try omega)) _ | refine Aside.self ?_ _ | refine Aside.setRow ?_ (by omega) _))
 have q1 := hb1.size
 have rm_1 : IsRow W1 (b) := by rw [e1]; simp [go_sem, hr, hcm, nwm_w_0, nwm_w_1]
 have cm_1 := congrArg (fun x => blk x (b)) e1; simp [go_sem, hr, hcm, nwm_w_0, nwm_w_1] at cm_1
 have zm_1 := isRow_lt rm_1
 have r9_1 : IsRow W1 (w.heap.size + 1) := by rw [e1]; simp [go_sem, hr, hcm, nwm_w_0, nwm_w_1]
 have c9_1 := congrArg (fun x => blk x (w.heap.size + 1)) e1; simp [go_sem, hr, hcm, nwm_w_0, nwm_w_1] at c9_1
 have z9_1 := isRow_lt r9_1
 have nm_9 : (b) ≠ (w.heap.size + 1) := by omega
 have n9_m : (w.heap.size + 1) ≠ (b) := by omega
 clear e1 nwm_w_0 nwm_w_1 hr hcm
 go_loopw [13] (fun s13 wr => ∃ i : Nat, i ≤ 8 ∧ s13 = .int .i64 i ∧ Aside w.heap.size b w wr ∧ (IsRow wr (b) ∧ blk wr (b) = row 64 (pairK p F c v u i)) ∧ (IsRow wr (w.heap.size + 1) ∧ blk wr (w.heap.size + 1) = blk W1 (w.heap.size + 1))) (fun s13 _ => 8 - (intOf s13).toNat)
 case atStart => exact ⟨0, by omega, rfl, hb1, ⟨rm_1, cm_1.trans (pair_zero p F c v u)⟩, ⟨r9_1, rfl⟩⟩
 case round =>
  obtain ⟨i, hle2, rfl, hb2, ⟨rm_2, cm_2⟩, ⟨r9_2, c9_2⟩⟩ := hrel
  obtain ⟨W2, rfl⟩ : ∃ W2 : World, W2 = wr := ⟨_, rfl⟩
  have q2 := hb2.size
  have zm_2 := isRow_lt rm_2
  have E9_2 := Lib.hid c9_1; replace c9_2 := c9_2.trans c9_1
  have z9_2 := isRow_lt r9_2
  clear rm_1 cm_1 zm_1 r9_1 c9_1 z9_1 hb1
  by_cases hlt2 : i < 8
  ·
   have i0_2 : (0 : Int) ≤ (i : Int) := by omega
   have i8_2 : (i : Int) < 8 := by omega
   have k8_2 : i < 8 := by omega
   have m8_2 : i * 8 + 8 ≤ 64 := by omega
   have m64_2 : i * 64 + 64 ≤ 512 := by omega
   have l1_2 : 10 + i * 64 + 64 ≤ 522 := by omega
   have b1 := (Hv.out i (by omega)).1; have b2 := (Hv.out i (by omega)).2; have b3 := (mod_range (c * v i) p hp).1; have b4 := (mod_range (c * v i) p hp).2
   go_wp2
   refine wp_quiet_tail 11 (Below W2.heap.size W2) (by kernel_rfl) (by kernel_rfl) (Below.refl _ _).drew ?_
   simp only [List.take_succ_cons, List.take_zero, List.drop_succ_cons, List.drop_zero]
   iterate 9 (refine q_plain rfl ?_; apply Exists.intro; refine ⟨fun W hW => ?_, ?_⟩; (focus (obtain ⟨xm, ym⟩ := keepB hW zm_2 rm_2 cm_2; obtain ⟨x9, y9⟩ := keepB hW z9_2 r9_2 c9_2; go_simp; first | done | rfl)); simp only [Act.put, List.setIfInBounds_toArray, List.set_cons_zero, List.set_cons_succ])
   (refine q_plain rfl ?_; apply Exists.intro; refine ⟨fun W hW => ?_, ?_⟩; (focus (obtain ⟨xm, ym⟩ := keepB hW zm_2 rm_2 cm_2; obtain ⟨x9, y9⟩ := keepB hW z9_2 r9_2 c9_2; go_simp; (go_at_call 156; exact (timesNumber_any _ _ _ _ hp hp' hc hc' b1 b2).mono fun e w2 ⟨he, hw2⟩ => ⟨he, hw2 ▸ hW⟩))); simp only [Act.put, List.setIfInBounds_toArray, List.set_cons_zero, List.set_cons_succ])
   iterate 1 (refine q_plain rfl ?_; apply Exists.intro; refine ⟨fun W hW => ?_, ?_⟩; (focus (obtain ⟨xm, ym⟩ := keepB hW zm_2 rm_2 cm_2; obtain ⟨x9, y9⟩ := keepB hW z9_2 r9_2 c9_2; go_simp; first | done | rfl)); simp only [Act.put, List.setIfInBounds_toArray, List.set_cons_zero, List.set_cons_succ])
   refine wpQuiet_nil ?_
   intro W3 hw3
   obtain ⟨rm_3, cm_3, zm_3⟩ := keepZ hw3 zm_2 rm_2 cm_2
   obtain ⟨r9_3, c9_3, z9_3⟩ := keepZ hw3 z9_2 r9_2 c9_2
   have hb3 := hb2.tail (hw3.mono hb2.size)
   have q3 := hb3.size
   clear hw3 rm_2 cm_2 zm_2 r9_2 c9_2 z9_2 hb2
   go_wp2_with fail
   refine (addMultiple_any p _ _ (i * 8) 64 8 _ _ _ 0 (pairK p F c v u i) u _ hp hp' b3 (by omega) rm_3 cm_3 (by omega) (by omega) (fun t _ _ => pair_range hp c v u i HF.out t (by omega)) (byte_at (N := 8) (off' := 0) c9_3 (by omega) (fun t _ => by rw [Nat.zero_add]) Hu.out) (by omega)).mono ?_; rintro _ _ ⟨rfl, rfl⟩
   go_wp2
   go_roundw
   case rel => exact ⟨i + 1, by omega, by go_num, (by (repeat (first | exact hb3 | exact Aside.refl _ _ _ | refine Aside.alloc ?_ (by first | omega | (simp; try omega)) _ | refine Aside.self ?_ _ | refine Aside.setRow ?_ (by omega) _))), ⟨by simp [go_sem, rm_3, cm_3, nm_9, r9_3, c9_3, n9_m], (by first | (rw [blk_setRow _ _ _ _ rm_3, if_pos rfl]; exact pair_step p F c v u i (by omega)) | exact (cm_3).trans (pair_step p F c v u i (by omega)) | (simp [go_sem, rm_3, cm_3, nm_9, r9_3, c9_3, n9_m]; exact pair_step p F c v u i (by omega)))⟩, ⟨by simp [go_sem, rm_3, cm_3, nm_9, r9_3, c9_3, n9_m], (by rw [E9_2.out]; first | exact c9_3 | (simp [go_sem, rm_3, cm_3, nm_9, r9_3, c9_3, n9_m]; done))⟩⟩
   case measure => simp [intOf]; omega
  ·
   obtain rfl : i = 8 := by omega
   go_wp2_with fail
   (try simp only [Exit.inBlock, Exit.then]); first | (refine bodyPost_end (results_none rfl _ _ _) rfl ⟨rfl, (by (repeat (first | exact hb2 | exact Aside.refl _ _ _ | refine Aside.alloc ?_ (by first | omega | (simp; try omega)) _ | refine Aside.self ?_ _ | refine Aside.setRow ?_ (by omega) _))), ?_, ?_⟩) | (refine bodyPost_ret (results_none rfl _ _ _) rfl ⟨rfl, (by (repeat (first | exact hb2 | exact Aside.refl _ _ _ | refine Aside.alloc ?_ (by first | omega | (simp; try omega)) _ | refine Aside.self ?_ _ | refine Aside.setRow ?_ (by omega) _))), ?_, ?_⟩)
   · simp [go_sem, rm_2, cm_2, nm_9, r9_2, c9_2, n9_m]
   · first | exact cm_2 | simp [go_sem, rm_2, cm_2, nm_9, r9_2, c9_2, n9_m]

/-- v (x) u -/
def outF (p : Int) (v u : Nat → Int) (k : Nat) : Nat → Int := fun t => if t / 8 < k then v (t / 8) * u (t % 8) % p else 0
theorem otr_zero (p : Int) (v u : Nat → Int) : row 64 zf = row 64 (outF p v u 0) := row_congr fun t _ => by unfold outF zf; rw [if_neg (by omega)]
theorem out_stepL (p : Int) (v u : Nat → Int) (k : Nat) (hk : k < 8) : lay (row 64 (outF p v u k)) (k * 8) (row 8 (addm p 0 8 (v k) zf u)) = row 64 (outF p v u (k + 1)) := by
  rw [lay_row _ _ _ _ _ (by omega)]
  refine row_congr fun t _ => ?_
  by_cases h : k * 8 ≤ t ∧ t < k * 8 + 8
  · rw [if_pos h]
    unfold addm outF zf
    rw [if_pos (by omega), if_pos (by omega), Int.zero_add, Nat.sub_zero, show t / 8 = k by omega, show t - k * 8 = t % 8 by omega]
  · rw [if_neg h]
    unfold outF
    by_cases h2 : t / 8 < k
    · rw [if_pos h2, if_pos (by omega)]
    · rw [if_neg h2, if_neg (by omega)]
theorem pair_out (p : Int) (hp : 0 < p) (v u : Nat → Int) : row 64 (pairK p zf 1 v u 8) = row 64 (outF p v u 8) := row_congr fun t _ => by
  unfold pairK outF zf
  rw [if_pos (by omega), if_pos (by omega), Int.one_mul, Int.zero_add, Int.mul_emod, Int.emod_emod, ← Int.mul_emod]
end
section
open Go.RowKit
set_option linter.unusedSimpArgs false
set_option linter.unusedVariables false
attribute [local irreducible] wpQuiet wpQE

theorem result_cell2 {fn : Func} {p q : Tmp} {T m U k : Nat} {P : Program} (h : fn.results = #[.cell p T, .cell q U]) (hT : AggT P T m) (hU : AggT P U k) (tmps : Array Value) (b d : Nat) (cs ds : Array Value) (w : World) (hp : tmps.getD p undef = .pointer (some ⟨b, 0, none⟩)) (hq : tmps.getD q undef = .pointer (some ⟨d, 0, none⟩)) (hB : Has w b (0 + m)) (hc : (blk w b).extract 0 (0 + m) = cs) (hD : Has w d (0 + k)) (hd : (blk w d).extract 0 (0 + k) = ds) :
    (results fn tmps).run P w = .ok (.tuple #[.agg cs, .agg ds]) w := by
  have h1 := run_loadVar_blk hT w b 0 hB
  rw [hc] at h1
  have h2 := run_loadVar_blk hU w d 0 hD
  rw [hd] at h2
  simp only [Array.getD_eq_getD_getElem?] at hp hq
  simp [results, h, hp, hq, asAddr, h1, h2]

theorem sum_range {g : Nat → Int} {c : Int} (hc : 0 ≤ c) (n : Nat) (h : ∀ i, i < n → 0 ≤ g i ∧ g i ≤ c) : ∀ k, k ≤ n → 0 ≤ sumTo g k ∧ sumTo g k ≤ c * k
  | 0, _ => by simp [sumTo]
  | k + 1, hk => by
    have h1 := sum_range hc n h k (by omega)
    have h2 := h k (by omega)
    rw [sumTo, Int.natCast_add, Int.mul_add]
    omega
/-- the two sums of coassociativity over the first m elements, entry l -/
def coL (p : Int) (f : Nat → Int) (i j k m l : Nat) : Int := sumTo (fun a => mtab f a j k * mtab f i a l) m % p
def coR (p : Int) (f : Nat → Int) (i j k m l : Nat) : Int := sumTo (fun a => mtab f i j a * mtab f a k l) m % p
theorem coL_zero (p : Int) (f : Nat → Int) (i j k : Nat) : row 8 zf = row 8 (coL p f i j k 0) := row_congr fun t _ => by simp [coL, sumTo, zf]
theorem coR_zero (p : Int) (f : Nat → Int) (i j k : Nat) : row 8 zf = row 8 (coR p f i j k 0) := row_congr fun t _ => by simp [coR, sumTo, zf]
theorem coL_step (p : Int) (f : Nat → Int) (i j k m : Nat) : row 8 (addm p 0 8 (mtab f m j k) (coL p f i j k m) (mtab f i m)) = row 8 (coL p f i j k (m + 1)) := addm_row fun t _ => by unfold coL; rw [Int.emod_add_emod, sumTo]
theorem coR_step (p : Int) (f : Nat → Int) (i j k m : Nat) : row 8 (addm p 0 8 (mtab f i j m) (coR p f i j k m) (mtab f m k)) = row 8 (coR p f i j k (m + 1)) := addm_row fun t _ => by unfold coR; rw [Int.emod_add_emod, sumTo]
theorem mtab_range {f : Nat → Int} (h : Bytes 520 f) (i j k : Nat) (hi : i < 8) (hj : j < 8) (hk : k < 8) : 0 ≤ mtab f i j k ∧ mtab f i j k ≤ 255 := mtab_bytes h i j hi hj k hk

set_option maxRecDepth 100000 in
set_option maxHeartbeats 1000000 in
theorem coassociativitySums_any (p : Int) (n : Nat) (f : Nat → Int) (i j k : Nat) (w : World) (hp : 0 < p) (hp' : p ≤ 255) (hn : n ≤ 8) (hi : i < 8) (hj : j < 8) (hk : k < 8) (hF : Bytes 520 f) :
    Calls Tryz.prog 177 #[.agg (alg p n f), .int .i64 i, .int .i64 j, .int .i64 k] w fun e w' => e = .returned (.tuple #[.agg (row 8 (coL p f i j k n)), .agg (row 8 (coR p f i j k n))]) ∧ Below w.heap.size w w' := by
 have HF := Lib.hid hF; clear hF
 have xi : (i : Int) < 8 := by omega
 have xj : (j : Int) < 8 := by omega
 have xk : (k : Int) < 8 := by omega
 go_enter Tryz.func177, Tryz.ntmps177
 go_wp2
 refine atomW fun W1 e1 => ?_
 have hb1 : Below w.heap.size w W1 := by rw [e1]; exact bt
 have q1 := hb1.size
 have r4_1 : IsRow W1 (w.heap.size) := by rw [e1]; simp [go_sem]
 have c4_1 := congrArg (fun x => blk x (w.heap.size)) e1; simp [go_sem] at c4_1
 have z4_1 := isRow_lt r4_1
 have r8_1 : IsRow W1 (w.heap.size + 1) := by rw [e1]; simp [go_sem]
 have c8_1 := congrArg (fun x => blk x (w.heap.size + 1)) e1; simp [go_sem] at c8_1
 have z8_1 := isRow_lt r8_1
 have r9_1 : IsRow W1 (w.heap.size + 2) := by rw [e1]; simp [go_sem]
 have c9_1 := congrArg (fun x => blk x (w.heap.size + 2)) e1; simp [go_sem] at c9_1
 have z9_1 := isRow_lt r9_1
 have r10_1 : IsRow W1 (w.heap.size + 3) := by rw [e1]; simp [go_sem]
 have c10_1 := congrArg (fun x => blk x (w.heap.size + 3)) e1; simp [go_sem] at c10_1
 have z10_1 := isRow_lt r10_1
 have r11_1 : IsRow W1 (w.heap.size + 4) := by rw [e1]; simp [go_sem]
 have c11_1 := congrArg (fun x => blk x (w.heap.size + 4)) e1; simp [go_sem] at c11_1
 have z11_1 := isRow_lt r11_1
 clear e1
 go_loopw [15] (fun s15 wr => ∃ a : Nat, a ≤ n ∧ s15 = .int .i64 a ∧ Below w.heap.size w wr ∧ (IsRow wr (w.heap.size) ∧ blk wr (w.heap.size) = blk W1 (w.heap.size)) ∧ (IsRow wr (w.heap.size + 1) ∧ blk wr (w.heap.size + 1) = blk W1 (w.heap.size + 1)) ∧ (IsRow wr (w.heap.size + 2) ∧ blk wr (w.heap.size + 2) = blk W1 (w.heap.size + 2)) ∧ (IsRow wr (w.heap.size + 3) ∧ blk wr (w.heap.size + 3) = row 8 (coL p f i j k a)) ∧ (IsRow wr (w.heap.size + 4) ∧ blk wr (w.heap.size + 4) = row 8 (coR p f i j k a))) (fun s15 _ => n - (intOf s15).toNat)
 case atStart => exact ⟨0, by omega, rfl, hb1, ⟨r4_1, rfl⟩, ⟨r8_1, rfl⟩, ⟨r9_1, rfl⟩, ⟨r10_1, c10_1.trans (coL_zero p f i j k)⟩, ⟨r11_1, c11_1.trans (coR_zero p f i j k)⟩⟩
 case round =>
  obtain ⟨a, hle2, rfl, hb2, ⟨r4_2, c4_2⟩, ⟨r8_2, c8_2⟩, ⟨r9_2, c9_2⟩, ⟨r10_2, c10_2⟩, ⟨r11_2, c11_2⟩⟩ := hrel
  obtain ⟨W2, rfl⟩ : ∃ W2 : World, W2 = wr := ⟨_, rfl⟩
  have q2 := hb2.size
  have E4_2 := Lib.hid c4_1; replace c4_2 := c4_2.trans c4_1
  have z4_2 := isRow_lt r4_2
  have E8_2 := Lib.hid c8_1; replace c8_2 := c8_2.trans c8_1
  have z8_2 := isRow_lt r8_2
  have E9_2 := Lib.hid c9_1; replace c9_2 := c9_2.trans c9_1
  have z9_2 := isRow_lt r9_2
  have z10_2 := isRow_lt r10_2
  have z11_2 := isRow_lt r11_2
  clear r4_1 c4_1 z4_1 r8_1 c8_1 z8_1 r9_1 c9_1 z9_1 r10_1 c10_1 z10_1 r11_1 c11_1 z11_1 hb1
  by_cases hlt2 : a < n
  ·
   have i0_2 : (0 : Int) ≤ (a : Int) := by omega
   have i8_2 : (a : Int) < 8 := by omega
   have k8_2 : a < 8 := by omega
   have m8_2 : a * 8 + 8 ≤ 64 := by omega
   have m64_2 : a * 64 + 64 ≤ 512 := by omega
   have l1_2 : 10 + a * 64 + 64 ≤ 522 := by omega
   have e1 := alg_el p n f a j k (by omega) hj hk
   have e2 := alg_el p n f i j a hi hj (by omega)
   have b1 := (mtab_range HF.out a j k (by omega) hj hk).1; have b2 := (mtab_range HF.out a j k (by omega) hj hk).2; have b3 := (mtab_range HF.out i j a hi hj (by omega)).1; have b4 := (mtab_range HF.out i j a hi hj (by omega)).2
   have g1 : 10 + i * 64 + a * 8 + 8 ≤ 522 := by omega
   have g2 : 10 + a * 64 + k * 8 + 8 ≤ 522 := by omega
   have g3 : 10 + a * 64 + j * 8 + k < 522 := by omega
   have g4 : 10 + i * 64 + j * 8 + a < 522 := by omega
   go_wp2
   refine wp_quiet_tail 17 (Below W2.heap.size W2) (by kernel_rfl) (by kernel_rfl) (Below.refl _ _).drew ?_
   simp only [List.take_succ_cons, List.take_zero, List.drop_succ_cons, List.drop_zero]
   iterate 17 (refine q_plain rfl ?_; apply Exists.intro; refine ⟨fun W hW => ?_, ?_⟩; (focus (obtain ⟨x4, y4⟩ := keepB hW z4_2 r4_2 c4_2; obtain ⟨x8, y8⟩ := keepB hW z8_2 r8_2 c8_2; obtain ⟨x9, y9⟩ := keepB hW z9_2 r9_2 c9_2; obtain ⟨x10, y10⟩ := keepB hW z10_2 r10_2 c10_2; obtain ⟨x11, y11⟩ := keepB hW z11_2 r11_2 c11_2; go_simp; first | done | rfl)); simp only [Act.put, List.setIfInBounds_toArray, List.set_cons_zero, List.set_cons_succ])
   refine wpQuiet_nil ?_
   intro W3 hw3
   obtain ⟨r4_3, c4_3, z4_3⟩ := keepZ hw3 z4_2 r4_2 c4_2
   obtain ⟨r8_3, c8_3, z8_3⟩ := keepZ hw3 z8_2 r8_2 c8_2
   obtain ⟨r9_3, c9_3, z9_3⟩ := keepZ hw3 z9_2 r9_2 c9_2
   obtain ⟨r10_3, c10_3, z10_3⟩ := keepZ hw3 z10_2 r10_2 c10_2
   obtain ⟨r11_3, c11_3, z11_3⟩ := keepZ hw3 z11_2 r11_2 c11_2
   obtain ⟨hb3, q3⟩ := bN hb2 hw3
   clear hw3 r4_2 c4_2 z4_2 r8_2 c8_2 z8_2 r9_2 c9_2 z9_2 r10_2 c10_2 z10_2 r11_2 c11_2 z11_2 hb2
   go_wp2_with fail
   refine (addMultiple_any p _ _ 0 8 8 8 8 _ (10 + i * 64 + a * 8) (coL p f i j k a) (mtab f i a) _ hp hp' b1 b2 r10_3 c10_3 (by omega) (by omega) (fun t _ _ => mod_range _ p hp) (byte_alg i a c4_3 hi (by omega) HF.out) (by omega)).mono ?_; rintro _ _ ⟨rfl, rfl⟩
   go_wp2
   refine atomW fun W4 e4 => ?_
   have hb4 : Below w.heap.size w W4 := by rw [e4]; exact bt
   have q4 := hb4.size
   have r4_4 : IsRow W4 (w.heap.size) := by rw [e4]; simp [go_sem, r4_3, c4_3, r8_3, c8_3, r9_3, c9_3, r10_3, c10_3, r11_3, c11_3]
   have c4_4 := congrArg (fun x => blk x (w.heap.size)) e4; simp [go_sem, r4_3, c4_3, r8_3, c8_3, r9_3, c9_3, r10_3, c10_3, r11_3, c11_3] at c4_4
   have z4_4 := isRow_lt r4_4
   have r8_4 : IsRow W4 (w.heap.size + 1) := by rw [e4]; simp [go_sem, r4_3, c4_3, r8_3, c8_3, r9_3, c9_3, r10_3, c10_3, r11_3, c11_3]
   have c8_4 := congrArg (fun x => blk x (w.heap.size + 1)) e4; simp [go_sem, r4_3, c4_3, r8_3, c8_3, r9_3, c9_3, r10_3, c10_3, r11_3, c11_3] at c8_4
   have z8_4 := isRow_lt r8_4
   have r9_4 : IsRow W4 (w.heap.size + 2) := by rw [e4]; simp [go_sem, r4_3, c4_3, r8_3, c8_3, r9_3, c9_3, r10_3, c10_3, r11_3, c11_3]
   have c9_4 := congrArg (fun x => blk x (w.heap.size + 2)) e4; simp [go_sem, r4_3, c4_3, r8_3, c8_3, r9_3, c9_3, r10_3, c10_3, r11_3, c11_3] at c9_4
   have z9_4 := isRow_lt r9_4
   have r10_4 : IsRow W4 (w.heap.size + 3) := by rw [e4]; simp [go_sem, r4_3, c4_3, r8_3, c8_3, r9_3, c9_3, r10_3, c10_3, r11_3, c11_3]
   have c10_4 := congrArg (fun x => blk x (w.heap.size + 3)) e4; simp [go_sem, r4_3, c4_3, r8_3, c8_3, r9_3, c9_3, r10_3, c10_3, r11_3, c11_3] at c10_4
   have z10_4 := isRow_lt r10_4
   have r11_4 : IsRow W4 (w.heap.size + 4) := by rw [e4]; simp [go_sem, r4_3, c4_3, r8_3, c8_3, r9_3, c9_3, r10_3, c10_3, r11_3, c11_3]
   have c11_4 := congrArg (fun x => blk x (w.heap.size + 4)) e4; simp [go_sem, r4_3, c4_3, r8_3, c8_3, r9_3, c9_3, r10_3, c10_3, r11_3, c11_3] at c11_4
   have z11_4 := isRow_lt r11_4
   clear e4 r4_3 c4_3 z4_3 r8_3 c8_3 z8_3 r9_3 c9_3 z9_3 r10_3 c10_3 z10_3 r11_3 c11_3 z11_3 hb3
   refine wp_quiet_tail 17 (Below W4.heap.size W4) (by kernel_rfl) (by kernel_rfl) (Below.refl _ _).drew ?_
   simp only [List.take_succ_cons, List.take_zero, List.drop_succ_cons, List.drop_zero]
   iterate 17 (refine q_plain rfl ?_; apply Exists.intro; refine ⟨fun W hW => ?_, ?_⟩; (focus (obtain ⟨x4, y4⟩ := keepB hW z4_4 r4_4 c4_4; obtain ⟨x8, y8⟩ := keepB hW z8_4 r8_4 c8_4; obtain ⟨x9, y9⟩ := keepB hW z9_4 r9_4 c9_4; obtain ⟨x10, y10⟩ := keepB hW z10_4 r10_4 c10_4; obtain ⟨x11, y11⟩ := keepB hW z11_4 r11_4 c11_4; go_simp; first | done | rfl)); simp only [Act.put, List.setIfInBounds_toArray, List.set_cons_zero, List.set_cons_succ])
   refine wpQuiet_nil ?_
   intro W5 hw5
   obtain ⟨r4_5, c4_5, z4_5⟩ := keepZ hw5 z4_4 r4_4 c4_4
   obtain ⟨r8_5, c8_5, z8_5⟩ := keepZ hw5 z8_4 r8_4 c8_4
   obtain ⟨r9_5, c9_5, z9_5⟩ := keepZ hw5 z9_4 r9_4 c9_4
   obtain ⟨r10_5, c10_5, z10_5⟩ := keepZ hw5 z10_4 r10_4 c10_4
   obtain ⟨r11_5, c11_5, z11_5⟩ := keepZ hw5 z11_4 r11_4 c11_4
   obtain ⟨hb5, q5⟩ := bN hb4 hw5
   clear hw5 r4_4 c4_4 z4_4 r8_4 c8_4 z8_4 r9_4 c9_4 z9_4 r10_4 c10_4 z10_4 r11_4 c11_4 z11_4 hb4
   go_wp2_with fail
   refine (addMultiple_any p _ _ 0 8 8 8 8 _ (10 + a * 64 + k * 8) (coR p f i j k a) (mtab f a k) _ hp hp' b3 b4 r11_5 c11_5 (by omega) (by omega) (fun t _ _ => mod_range _ p hp) (byte_alg a k c4_5 (by omega) hk HF.out) (by omega)).mono ?_; rintro _ _ ⟨rfl, rfl⟩
   go_wp2
   go_roundw
   case rel => exact ⟨a + 1, by omega, by go_num, bt, ⟨by simp [go_sem, r4_5, c4_5, r8_5, c8_5, r9_5, c9_5, r10_5, c10_5, r11_5, c11_5], (by rw [E4_2.out]; first | exact c4_5 | (simp [go_sem, r4_5, c4_5, r8_5, c8_5, r9_5, c9_5, r10_5, c10_5, r11_5, c11_5]; done))⟩, ⟨by simp [go_sem, r4_5, c4_5, r8_5, c8_5, r9_5, c9_5, r10_5, c10_5, r11_5, c11_5], (by rw [E8_2.out]; first | exact c8_5 | (simp [go_sem, r4_5, c4_5, r8_5, c8_5, r9_5, c9_5, r10_5, c10_5, r11_5, c11_5]; done))⟩, ⟨by simp [go_sem, r4_5, c4_5, r8_5, c8_5, r9_5, c9_5, r10_5, c10_5, r11_5, c11_5], (by rw [E9_2.out]; first | exact c9_5 | (simp [go_sem, r4_5, c4_5, r8_5, c8_5, r9_5, c9_5, r10_5, c10_5, r11_5, c11_5]; done))⟩, ⟨by simp [go_sem, r4_5, c4_5, r8_5, c8_5, r9_5, c9_5, r10_5, c10_5, r11_5, c11_5], (by first | (rw [blk_setRow _ _ _ _ r10_5, if_pos rfl]; exact coL_step p f i j k a) | exact (c10_5).trans (coL_step p f i j k a) | (simp [go_sem, r4_5, c4_5, r8_5, c8_5, r9_5, c9_5, r10_5, c10_5, r11_5, c11_5]; exact coL_step p f i j k a))⟩, ⟨by simp [go_sem, r4_5, c4_5, r8_5, c8_5, r9_5, c9_5, r10_5, c10_5, r11_5, c11_5], (by first | (rw [blk_setRow _ _ _ _ r11_5, if_pos rfl]; exact coR_step p f i j k a) | exact (c11_5).trans (coR_step p f i j k a) | (simp [go_sem, r4_5, c4_5, r8_5, c8_5, r9_5, c9_5, r10_5, c10_5, r11_5, c11_5]; exact coR_step p f i j k a))⟩⟩
   case measure => simp [intOf]; omega
  ·
   obtain rfl : n = a := by omega
   go_wp2
   go_region
   go_wp2_with fail
   refine bodyPost_ret (result_cell2 rfl aggVec aggVec _ _ _ (row 8 (coL p f i j k n)) (row 8 (coR p f i j k n)) _ rfl rfl ?_ ?_ ?_ ?_) rfl ⟨rfl, ?_⟩
   · simp [go_sem, r8_2, c8_2, r9_2, c9_2, r10_2, c10_2, r11_2, c11_2]
   · simp [go_sem, r8_2, c8_2, r9_2, c9_2, r10_2, c10_2, r11_2, c11_2]
   · simp [go_sem, r8_2, c8_2, r9_2, c9_2, r10_2, c10_2, r11_2, c11_2]
   · simp [go_sem, r8_2, c8_2, r9_2, c9_2, r10_2, c10_2, r11_2, c11_2]
   · exact bt

def soL (f : Nat → Int) (i j k l m : Nat) : Int := sumTo (fun a => mtab f i a l * mtab f a j k) m
def soR (f : Nat → Int) (i j k l m : Nat) : Int := sumTo (fun a => mtab f i j a * mtab f a k l) m
theorem prod_range {x y : Int} (hx : 0 ≤ x ∧ x ≤ 255) (hy : 0 ≤ y ∧ y ≤ 255) : 0 ≤ x * y ∧ x * y ≤ 65025 := prod_le x y 255 255 hx.1 hy.1 hx.2 hy.2
theorem soL_range {f : Nat → Int} (h : Bytes 520 f) (i j k l : Nat) (hi : i < 8) (hj : j < 8) (hk : k < 8) (hl : l < 8) (m : Nat) (hm : m ≤ 8) : 0 ≤ soL f i j k l m ∧ soL f i j k l m ≤ 65025 * m :=
  sum_range (by omega) 8 (fun a ha => prod_range (mtab_range h i a l hi ha hl) (mtab_range h a j k ha hj hk)) m hm
theorem soR_range {f : Nat → Int} (h : Bytes 520 f) (i j k l : Nat) (hi : i < 8) (hj : j < 8) (hk : k < 8) (hl : l < 8) (m : Nat) (hm : m ≤ 8) : 0 ≤ soR f i j k l m ∧ soR f i j k l m ≤ 65025 * m :=
  sum_range (by omega) 8 (fun a ha => prod_range (mtab_range h i j a hi hj ha) (mtab_range h a k l ha hk hl)) m hm
theorem soL_mod (p : Int) (f : Nat → Int) (i j k l n : Nat) : soL f i j k l n % p = coL p f i j k n l := by
  unfold soL coL; congr 1; exact sumTo_congr n fun a _ => Int.mul_comm _ _
theorem soR_mod (p : Int) (f : Nat → Int) (i j k l n : Nat) : soR f i j k l n % p = coR p f i j k n l := rfl
theorem ret_pair8 {a b c d : Int} (h : a = c) (h' : b = d) : Ending.returned (.tuple #[.int .u8 a, .int .u8 b]) = .returned (.tuple #[.int .u8 c, .int .u8 d]) := by rw [h, h']

set_option maxRecDepth 100000 in
set_option maxHeartbeats 1000000 in
theorem l02Sums_any (p : Int) (n : Nat) (f : Nat → Int) (i j k l : Nat) (w : World) (hp : 0 < p) (hp' : p ≤ 255) (hn : n ≤ 8) (hi : i < 8) (hj : j < 8) (hk : k < 8) (hl : l < 8) (hF : Bytes 520 f) :
    Calls Tryz.prog 176 #[.agg (alg p n f), .int .i64 i, .int .i64 j, .int .i64 k, .int .i64 l] w fun e w' => e = .returned (.tuple #[.int .u8 (coL p f i j k n l), .int .u8 (coR p f i j k n l)]) ∧ Below w.heap.size w w' := by
 have HF := Lib.hid hF; clear hF
 have xi : (i : Int) < 8 := by omega
 have xj : (j : Int) < 8 := by omega
 have xk : (k : Int) < 8 := by omega
 have xl : (l : Int) < 8 := by omega
 go_enter Tryz.func176, Tryz.ntmps176
 go_wp2
 refine atomW fun W1 e1 => ?_
 have hb1 : Below w.heap.size w W1 := by rw [e1]; exact bt
 have q1 := hb1.size
 have r5_1 : IsRow W1 (w.heap.size) := by rw [e1]; simp [go_sem]
 have c5_1 := congrArg (fun x => blk x (w.heap.size)) e1; simp [go_sem] at c5_1
 have z5_1 := isRow_lt r5_1
 clear e1
 go_loopw [12, 13, 14] (fun s12 s13 s14 wr => ∃ a : Nat, a ≤ n ∧ s12 = .int .i64 (soL f i j k l a) ∧ s13 = .int .i64 (soR f i j k l a) ∧ s14 = .int .i64 a ∧ Below w.heap.size w wr ∧ (IsRow wr (w.heap.size) ∧ blk wr (w.heap.size) = blk W1 (w.heap.size))) (fun _ _ s14 _ => n - (intOf s14).toNat)
 case atStart => exact ⟨0, by omega, (by first | rfl | (simp; done) | go_num), (by first | rfl | (simp; done) | go_num), rfl, hb1, ⟨r5_1, rfl⟩⟩
 case round =>
  obtain ⟨a, hle2, rfl, rfl, rfl, hb2, ⟨r5_2, c5_2⟩⟩ := hrel
  obtain ⟨W2, rfl⟩ : ∃ W2 : World, W2 = wr := ⟨_, rfl⟩
  have q2 := hb2.size
  have E5_2 := Lib.hid c5_1; replace c5_2 := c5_2.trans c5_1
  have z5_2 := isRow_lt r5_2
  clear r5_1 c5_1 z5_1 hb1
  have d1 := (soL_range HF.out i j k l hi hj hk hl a (by omega)).1; have d2 := (soL_range HF.out i j k l hi hj hk hl a (by omega)).2; have d3 := (soR_range HF.out i j k l hi hj hk hl a (by omega)).1; have d4 := (soR_range HF.out i j k l hi hj hk hl a (by omega)).2
  by_cases hlt2 : a < n
  ·
   have i0_2 : (0 : Int) ≤ (a : Int) := by omega
   have i8_2 : (a : Int) < 8 := by omega
   have k8_2 : a < 8 := by omega
   have m8_2 : a * 8 + 8 ≤ 64 := by omega
   have m64_2 : a * 64 + 64 ≤ 512 := by omega
   have l1_2 : 10 + a * 64 + 64 ≤ 522 := by omega
   have e1 := alg_at p n f i a l hi (by omega) hl; have e2 := alg_at p n f a j k (by omega) hj hk; have e3 := alg_at p n f i j a hi hj (by omega); have e4 := alg_at p n f a k l (by omega) hk hl
   have b1 := mtab_range HF.out i a l hi (by omega) hl; have b2 := mtab_range HF.out a j k (by omega) hj hk; have b3 := mtab_range HF.out i j a hi hj (by omega); have b4 := mtab_range HF.out a k l (by omega) hk hl
   have b5 := prod_range b1 b2; have b6 := prod_range b3 b4
   have q1 : IntKind.i64.wrap (mtab f i a l) = mtab f i a l := IntWalk.i64_in _ (by omega)
   have q2 : IntKind.i64.wrap (mtab f a j k) = mtab f a j k := IntWalk.i64_in _ (by omega)
   have q3 : IntKind.i64.wrap (mtab f i j a) = mtab f i j a := IntWalk.i64_in _ (by omega)
   have q4 : IntKind.i64.wrap (mtab f a k l) = mtab f a k l := IntWalk.i64_in _ (by omega)
   have q5 : IntKind.i64.wrap (mtab f i a l * mtab f a j k) = mtab f i a l * mtab f a j k := IntWalk.i64_in _ (by omega)
   have q6 : IntKind.i64.wrap (mtab f i j a * mtab f a k l) = mtab f i j a * mtab f a k l := IntWalk.i64_in _ (by omega)
   have q7 : IntKind.i64.wrap (soL f i j k l a + mtab f i a l * mtab f a j k) = soL f i j k l a + mtab f i a l * mtab f a j k := IntWalk.i64_in _ (by omega)
   have q8 : IntKind.i64.wrap (soR f i j k l a + mtab f i j a * mtab f a k l) = soR f i j k l a + mtab f i j a * mtab f a k l := IntWalk.i64_in _ (by omega)
   go_wp2
   refine wp_quiet_all (Below W2.heap.size W2) (by kernel_rfl) (by kernel_rfl) (Below.refl _ _).drew ?_
   iterate 22 (refine q_plain rfl ?_; apply Exists.intro; refine ⟨fun W hW => ?_, ?_⟩; (focus (obtain ⟨x5, y5⟩ := keepB hW z5_2 r5_2 c5_2; go_simp; first | done | rfl)); simp only [Act.put, List.setIfInBounds_toArray, List.set_cons_zero, List.set_cons_succ])
   refine wpQuiet_nil ?_
   intro W3 hw3
   obtain ⟨r5_3, c5_3, z5_3⟩ := keepZ hw3 z5_2 r5_2 c5_2
   obtain ⟨hb3, q3⟩ := bN hb2 hw3
   clear hw3 r5_2 c5_2 z5_2 hb2
   go_wp2
   refine wp_quiet_all (Below W3.heap.size W3) (by kernel_rfl) (by kernel_rfl) (Below.refl _ _).drew ?_
   iterate 22 (refine q_plain rfl ?_; apply Exists.intro; refine ⟨fun W hW => ?_, ?_⟩; (focus (obtain ⟨x5, y5⟩ := keepB hW z5_3 r5_3 c5_3; go_simp; first | done | rfl)); simp only [Act.put, List.setIfInBounds_toArray, List.set_cons_zero, List.set_cons_succ])
   refine wpQuiet_nil ?_
   intro W4 hw4
   obtain ⟨r5_4, c5_4, z5_4⟩ := keepZ hw4 z5_3 r5_3 c5_3
   obtain ⟨hb4, q4⟩ := bN hb3 hw4
   clear hw4 r5_3 c5_3 z5_3 hb3
   go_wp2
   go_roundw
   case rel => exact ⟨a + 1, by omega, (by first | rfl | go_num | (simp; done)), (by first | rfl | go_num | (simp; done)), by go_num, bt, ⟨by simp [go_sem, r5_4, c5_4], (by rw [E5_2.out]; first | exact c5_4 | (simp [go_sem, r5_4, c5_4]; done))⟩⟩
   case measure => simp [intOf]; omega
  ·
   obtain rfl : n = a := by omega
   go_wp2
   refine wp_quiet_all (Below W2.heap.size W2) (by kernel_rfl) (by kernel_rfl) (Below.refl _ _).drew ?_
   iterate 3 (refine q_plain rfl ?_; apply Exists.intro; refine ⟨fun W hW => ?_, ?_⟩; (focus (obtain ⟨x5, y5⟩ := keepB hW z5_2 r5_2 c5_2; go_simp; first | done | rfl)); simp only [Act.put, List.setIfInBounds_toArray, List.set_cons_zero, List.set_cons_succ])
   (refine q_plain rfl ?_; apply Exists.intro; refine ⟨fun W hW => ?_, ?_⟩; (focus (obtain ⟨x5, y5⟩ := keepB hW z5_2 r5_2 c5_2; go_simp; (go_at_call 96; exact (l01Mod_any _ _ _ hp hp' (by omega) (by omega)).mono fun e w2 ⟨he, hw2⟩ => ⟨he, hw2 ▸ hW⟩))); simp only [Act.put, List.setIfInBounds_toArray, List.set_cons_zero, List.set_cons_succ])
   iterate 3 (refine q_plain rfl ?_; apply Exists.intro; refine ⟨fun W hW => ?_, ?_⟩; (focus (obtain ⟨x5, y5⟩ := keepB hW z5_2 r5_2 c5_2; go_simp; first | done | rfl)); simp only [Act.put, List.setIfInBounds_toArray, List.set_cons_zero, List.set_cons_succ])
   (refine q_plain rfl ?_; apply Exists.intro; refine ⟨fun W hW => ?_, ?_⟩; (focus (obtain ⟨x5, y5⟩ := keepB hW z5_2 r5_2 c5_2; go_simp; (go_at_call 96; exact (l01Mod_any _ _ _ hp hp' (by omega) (by omega)).mono fun e w2 ⟨he, hw2⟩ => ⟨he, hw2 ▸ hW⟩))); simp only [Act.put, List.setIfInBounds_toArray, List.set_cons_zero, List.set_cons_succ])
   iterate 2 (refine q_plain rfl ?_; apply Exists.intro; refine ⟨fun W hW => ?_, ?_⟩; (focus (obtain ⟨x5, y5⟩ := keepB hW z5_2 r5_2 c5_2; go_simp; first | done | rfl)); simp only [Act.put, List.setIfInBounds_toArray, List.set_cons_zero, List.set_cons_succ])
   refine wpQuiet_nil ?_
   intro W5 hw5
   obtain ⟨r5_5, c5_5, z5_5⟩ := keepZ hw5 z5_2 r5_2 c5_2
   obtain ⟨hb5, q5⟩ := bN hb2 hw5
   clear hw5 r5_2 c5_2 z5_2 hb2
   go_wp2_with fail
   go_ret2
   exact ⟨ret_pair8 (soL_mod p f i j k l n) (soR_mod p f i j k l n), bt⟩

/-! ### the counit -/
/-- what the Counit makes of the coproduct of e(i), on the left and on the right, over n elements -/
def cuL (p : Int) (f : Nat → Int) (i n : Nat) : Nat → Int := appF p n (mtab f i) f
def cuR (p : Int) (f : Nat → Int) (i n : Nat) : Nat → Int := appF p n (fun a b => mtab f i b a) f
def cuAt (p : Int) (f : Nat → Int) (i : Nat) : Bool := segEq 0 8 (cuL p f i 8) (ebas i) && segEq 0 8 (cuR p f i 8) (ebas i)
def cuB (p : Int) (n : Nat) (f : Nat → Int) : Bool := (List.range n).all (cuAt p f)
theorem segEq_congr {m : Nat} {f f' g : Nat → Int} (h : ∀ i, i < m → f i = f' i) : segEq 0 m f g = segEq 0 m f' g := by
  rw [Bool.eq_iff_iff, segEq_iff, segEq_iff]
  constructor <;> intro k i hi <;> have := k i hi <;> rw [Nat.zero_add] at * <;> rw [← this] <;> first | exact (h i hi).symm | exact h i hi
theorem com_bytes {f : Nat → Int} (h : Bytes 520 f) (i : Nat) (hi : i < 8) : Bytes 64 (fun t => tab f (i * 64 + t)) := fun t ht => tab_bytes h _ (by omega)
theorem flip_bytes {F : Nat → Int} (h : Bytes 64 F) : Bytes 64 (flipF F) := fun t ht => h _ (by omega)
theorem app_congr {p : Int} {n : Nat} {g h : Nat → Nat → Int} {v : Nat → Int} (e : ∀ j, j < n → ∀ k, k < 8 → g j k = h j k) : row 8 (appF p n g v) = row 8 (appF p n h v) := row_congr fun k hk => by
  unfold appF; congr 1; exact sumTo_congr n fun j hj => by rw [e j hj k hk]
theorem applyLeft_any (p : Int) (f : Nat → Int) (i : Nat) (w : World) (hp : 0 < p) (hp' : p ≤ 255) (hi : i < 8) (hF : Bytes 520 f) :
    Calls Tryz.prog 72 #[.int .i64 p, .agg (row 64 fun t => tab f (i * 64 + t)), .agg (row 8 f)] w fun e w' => e = .returned (.agg (row 8 (cuL p f i 8))) ∧ Below w.heap.size w w' :=
  applyLinear_any p _ f w hp hp' (com_bytes hF i hi) (unit_bytes hF)
theorem applyRight_any (p : Int) (f : Nat → Int) (i : Nat) (w : World) (hp : 0 < p) (hp' : p ≤ 255) (hi : i < 8) (hF : Bytes 520 f) :
    Calls Tryz.prog 72 #[.int .i64 p, .agg (row 64 (flipF fun t => tab f (i * 64 + t))), .agg (row 8 f)] w fun e w' => e = .returned (.agg (row 8 (cuR p f i 8))) ∧ Below w.heap.size w w' := by
  have h := applyLinear_any p _ f w hp hp' (flip_bytes (com_bytes hF i hi)) (unit_bytes hF)
  have e : row 8 (appF p 8 (fun j k => flipF (fun t => tab f (i * 64 + t)) (j * 8 + k)) f) = row 8 (cuR p f i 8) := app_congr fun j hj k hk => by
    unfold flipF mtab
    congr 1; omega
  rw [e] at h
  exact h

set_option maxRecDepth 100000 in
set_option maxHeartbeats 1000000 in
theorem hasCounit_any (p : Int) (n : Nat) (f : Nat → Int) (w : World) (hp : 0 < p) (hp' : p ≤ 255) (hn : n ≤ 8) (hF : Bytes 520 f) :
    Calls Tryz.prog 173 #[.agg (alg p n f)] w fun e w' => e = .returned (.bool (cuB p n f)) ∧ Below w.heap.size w w' := by
 have HF := Lib.hid hF; clear hF
 go_enter Tryz.func173, Tryz.ntmps173
 go_wp2
 refine atomW fun W1 e1 => ?_
 have hb1 : Below w.heap.size w W1 := by rw [e1]; exact bt
 have q1 := hb1.size
 have r1_1 : IsRow W1 (w.heap.size) := by rw [e1]; simp [go_sem]
 have c1_1 := congrArg (fun x => blk x (w.heap.size)) e1; simp [go_sem] at c1_1
 have z1_1 := isRow_lt r1_1
 clear e1
 go_loopw [9] (fun s9 wr => ∃ i : Nat, i ≤ n ∧ s9 = .int .i64 i ∧ Below w.heap.size w wr ∧ (IsRow wr (w.heap.size) ∧ blk wr (w.heap.size) = blk W1 (w.heap.size)) ∧ ∀ a, a < i → cuAt p f a = true) (fun s9 _ => n - (intOf s9).toNat)
 case atStart => exact ⟨0, by omega, rfl, hb1, ⟨r1_1, rfl⟩, fun a ha => by omega⟩
 case round =>
  obtain ⟨i, hle2, rfl, hb2, ⟨r1_2, c1_2⟩, hx2⟩ := hrel
  obtain ⟨W2, rfl⟩ : ∃ W2 : World, W2 = wr := ⟨_, rfl⟩
  have q2 := hb2.size
  have HX2 := Lib.hid hx2; clear hx2
  have E1_2 := Lib.hid c1_1; replace c1_2 := c1_2.trans c1_1
  have z1_2 := isRow_lt r1_2
  clear r1_1 c1_1 z1_1 hb1
  by_cases hlt2 : i < n
  ·
   have i0_2 : (0 : Int) ≤ (i : Int) := by omega
   have i8_2 : (i : Int) < 8 := by omega
   have k8_2 : i < 8 := by omega
   have m8_2 : i * 8 + 8 ≤ 64 := by omega
   have m64_2 : i * 64 + 64 ≤ 512 := by omega
   have l1_2 : 10 + i * 64 + 64 ≤ 522 := by omega
   cases hu1 : segEq 0 8 (cuL p f i 8) (ebas i)
   ·
    have H : Hid (cuB p n f = false) := Lib.hid (all_no (q := cuAt p f) i n (by omega) (by unfold cuAt; rw [hu1]; rfl))
    go_wp2
    refine wp_quiet_alloc 9 _ (.cells (row 8 zf) 32) (Below W2.heap.size W2) (Made W2 (row 8 zf)) (by kernel_rfl) rfl rfl (by kernel_rfl) (fun a W => (xallocVec _ _ _ _ _ _ _).trans (allocVec W)) (closed_below W2) (closed_made W2 _) (fun b W h => h.1) (fun W h => made_new W2 _ _ W h) (Below.refl _ _).drew ?_
    simp only [List.take_succ_cons, List.take_zero, List.drop_succ_cons, List.drop_zero]
    iterate 8 (refine e_plain rfl ?_; apply Exists.intro; refine ⟨fun D hD hK W hW => ?_, ?_⟩; (focus (obtain ⟨x1, y1⟩ := keepB (hD W hW) z1_2 r1_2 c1_2; unfold Oper.quietAt; go_simp; first | done | rfl)); simp only [Act.put, List.setIfInBounds_toArray, List.set_cons_zero, List.set_cons_succ])
    (refine e_plain rfl ?_; apply Exists.intro; refine ⟨fun D hD hK W hW => ?_, ?_⟩; (focus (obtain ⟨x1, y1⟩ := keepB (hD W hW) z1_2 r1_2 c1_2; unfold Oper.quietAt; go_simp; (go_at_call 72; exact (applyLeft_any p f i _ hp hp' (by omega) HF.out).mono fun e w2 ⟨he, hw2⟩ => ⟨he, hK _ _ hW hw2⟩))); simp only [Act.put, List.setIfInBounds_toArray, List.set_cons_zero, List.set_cons_succ])
    refine e_nil ?_
    intro a3 W3 hW3
    obtain ⟨hw3, hl3, m1_3, m2_3⟩ := hW3
    have n1_4 : (w.heap.size) ≠ (a3) := by have := z1_2; omega
    have n4_1 : (a3) ≠ (w.heap.size) := by have := z1_2; omega
    obtain ⟨r1_3, c1_3, z1_3⟩ := keepZ hw3 z1_2 r1_2 c1_2
    obtain ⟨hb3, q3⟩ := bN hb2 hw3
    clear hw3 r1_2 c1_2 z1_2 hb2
    have z4_3 := isRow_lt m1_3
    simp only [Act.put, List.setIfInBounds_toArray, List.set_cons_zero, List.set_cons_succ]
    go_wp2
    refine atomW fun W4 e4 => ?_
    have hb4 : Below w.heap.size w W4 := by rw [e4]; exact bt
    have q4 := hb4.size
    have r1_4 : IsRow W4 (w.heap.size) := by rw [e4]; simp [go_sem, r1_3, c1_3, n1_4, m1_3, m2_3, n4_1]
    have c1_4 := congrArg (fun x => blk x (w.heap.size)) e4; simp [go_sem, r1_3, c1_3, n1_4, m1_3, m2_3, n4_1] at c1_4
    have z1_4 := isRow_lt r1_4
    have r4_4 : IsRow W4 (a3) := by rw [e4]; simp [go_sem, r1_3, c1_3, n1_4, m1_3, m2_3, n4_1]
    have c4_4 := congrArg (fun x => blk x (a3)) e4; simp [go_sem, r1_3, c1_3, n1_4, m1_3, m2_3, n4_1] at c4_4
    have z4_4 := isRow_lt r4_4
    clear e4 r1_3 c1_3 z1_3 m1_3 m2_3 z4_3 hb3
    refine wp_quiet_alloc 10 _ (.cells (row 8 zf) 32) (Below W4.heap.size W4) (Made W4 (row 8 zf)) (by kernel_rfl) rfl rfl (by kernel_rfl) (fun a W => (xallocVec _ _ _ _ _ _ _).trans (allocVec W)) (closed_below W4) (closed_made W4 _) (fun b W h => h.1) (fun W h => made_new W4 _ _ W h) (Below.refl _ _).drew ?_
    simp only [List.take_succ_cons, List.take_zero, List.drop_succ_cons, List.drop_zero]
    iterate 6 (refine e_plain rfl ?_; apply Exists.intro; refine ⟨fun D hD hK W hW => ?_, ?_⟩; (focus (obtain ⟨x1, y1⟩ := keepB (hD W hW) z1_4 r1_4 c1_4; obtain ⟨x4, y4⟩ := keepB (hD W hW) z4_4 r4_4 c4_4; unfold Oper.quietAt; go_simp; first | done | rfl)); simp only [Act.put, List.setIfInBounds_toArray, List.set_cons_zero, List.set_cons_succ])
    (refine e_plain rfl ?_; apply Exists.intro; refine ⟨fun D hD hK W hW => ?_, ?_⟩; (focus (obtain ⟨x1, y1⟩ := keepB (hD W hW) z1_4 r1_4 c1_4; obtain ⟨x4, y4⟩ := keepB (hD W hW) z4_4 r4_4 c4_4; unfold Oper.quietAt; go_simp; (go_at_call 82; exact (flipLinear_any _ _ (com_bytes HF.out i (by omega))).mono fun e w2 ⟨he, hw2⟩ => ⟨he, hK _ _ hW hw2⟩))); simp only [Act.put, List.setIfInBounds_toArray, List.set_cons_zero, List.set_cons_succ])
    iterate 2 (refine e_plain rfl ?_; apply Exists.intro; refine ⟨fun D hD hK W hW => ?_, ?_⟩; (focus (obtain ⟨x1, y1⟩ := keepB (hD W hW) z1_4 r1_4 c1_4; obtain ⟨x4, y4⟩ := keepB (hD W hW) z4_4 r4_4 c4_4; unfold Oper.quietAt; go_simp; first | done | rfl)); simp only [Act.put, List.setIfInBounds_toArray, List.set_cons_zero, List.set_cons_succ])
    (refine e_plain rfl ?_; apply Exists.intro; refine ⟨fun D hD hK W hW => ?_, ?_⟩; (focus (obtain ⟨x1, y1⟩ := keepB (hD W hW) z1_4 r1_4 c1_4; obtain ⟨x4, y4⟩ := keepB (hD W hW) z4_4 r4_4 c4_4; unfold Oper.quietAt; go_simp; (go_at_call 72; exact (applyRight_any p f i _ hp hp' (by omega) HF.out).mono fun e w2 ⟨he, hw2⟩ => ⟨he, hK _ _ hW hw2⟩))); simp only [Act.put, List.setIfInBounds_toArray, List.set_cons_zero, List.set_cons_succ])
    refine e_nil ?_
    intro a5 W5 hW5
    obtain ⟨hw5, hl5, m1_5, m2_5⟩ := hW5
    have n1_5 : (w.heap.size) ≠ (a5) := by have := z1_4; omega
    have n5_1 : (a5) ≠ (w.heap.size) := by have := z1_4; omega
    have n4_5 : (a3) ≠ (a5) := by have := z4_4; omega
    have n5_4 : (a5) ≠ (a3) := by have := z4_4; omega
    obtain ⟨r1_5, c1_5, z1_5⟩ := keepZ hw5 z1_4 r1_4 c1_4
    obtain ⟨r4_5, c4_5, z4_5⟩ := keepZ hw5 z4_4 r4_4 c4_4
    obtain ⟨hb5, q5⟩ := bN hb4 hw5
    clear hw5 r1_4 c1_4 z1_4 r4_4 c4_4 z4_4 hb4
    have z5_5 := isRow_lt m1_5
    simp only [Act.put, List.setIfInBounds_toArray, List.set_cons_zero, List.set_cons_succ]
    go_wp2_with fail
    refine atomC fun W6 e6 => ?_
    have hb6 : Below w.heap.size w W6 := by rw [e6]; exact bt
    have q6 := hb6.size
    have r1_6 : IsRow W6 (w.heap.size) := by rw [e6]; simp [go_sem, r1_5, c1_5, n1_4, n1_5, r4_5, c4_5, n4_1, n4_5, m1_5, m2_5, n5_1, n5_4]
    have c1_6 := congrArg (fun x => blk x (w.heap.size)) e6; simp [go_sem, r1_5, c1_5, n1_4, n1_5, r4_5, c4_5, n4_1, n4_5, m1_5, m2_5, n5_1, n5_4] at c1_6
    have z1_6 := isRow_lt r1_6
    have r4_6 : IsRow W6 (a3) := by rw [e6]; simp [go_sem, r1_5, c1_5, n1_4, n1_5, r4_5, c4_5, n4_1, n4_5, m1_5, m2_5, n5_1, n5_4]
    have c4_6 := congrArg (fun x => blk x (a3)) e6; simp [go_sem, r1_5, c1_5, n1_4, n1_5, r4_5, c4_5, n4_1, n4_5, m1_5, m2_5, n5_1, n5_4] at c4_6
    have z4_6 := isRow_lt r4_6
    have r5_6 : IsRow W6 (a5) := by rw [e6]; simp [go_sem, r1_5, c1_5, n1_4, n1_5, r4_5, c4_5, n4_1, n4_5, m1_5, m2_5, n5_1, n5_4]
    have c5_6 := congrArg (fun x => blk x (a5)) e6; simp [go_sem, r1_5, c1_5, n1_4, n1_5, r4_5, c4_5, n4_1, n4_5, m1_5, m2_5, n5_1, n5_4] at c5_6
    have z5_6 := isRow_lt r5_6
    clear e6 r1_5 c1_5 z1_5 r4_5 c4_5 z4_5 m1_5 m2_5 z5_5 hb5
    refine (basisAt i (by omega) _).mono ?_; rintro _ W7 ⟨rfl, hw7⟩
    obtain ⟨r1_7, c1_7, z1_7⟩ := keepZ hw7 z1_6 r1_6 c1_6
    obtain ⟨r4_7, c4_7, z4_7⟩ := keepZ hw7 z4_6 r4_6 c4_6
    obtain ⟨r5_7, c5_7, z5_7⟩ := keepZ hw7 z5_6 r5_6 c5_6
    obtain ⟨hb7, q7⟩ := bN hb6 hw7
    clear hw7 r1_6 c1_6 z1_6 r4_6 c4_6 z4_6 r5_6 c5_6 z5_6 hb6
    have nw1_W7_0 : (w.heap.size) ≠ W7.heap.size := by omega
    have nw4_W7_0 : (a3) ≠ W7.heap.size := by omega
    have nw5_W7_0 : (a5) ≠ W7.heap.size := by omega
    go_wp2_with fail
    go_ret
    exact ⟨ret_bool (by rw [H.out] <;> rfl), bt⟩
   ·
    cases hu2 : segEq 0 8 (cuR p f i 8) (ebas i)
    ·
     have H : Hid (cuB p n f = false) := Lib.hid (all_no (q := cuAt p f) i n (by omega) (by unfold cuAt; rw [hu1, hu2]; rfl))
     go_wp2
     refine wp_quiet_alloc 9 _ (.cells (row 8 zf) 32) (Below W2.heap.size W2) (Made W2 (row 8 zf)) (by kernel_rfl) rfl rfl (by kernel_rfl) (fun a W => (xallocVec _ _ _ _ _ _ _).trans (allocVec W)) (closed_below W2) (closed_made W2 _) (fun b W h => h.1) (fun W h => made_new W2 _ _ W h) (Below.refl _ _).drew ?_
     simp only [List.take_succ_cons, List.take_zero, List.drop_succ_cons, List.drop_zero]
     iterate 8 (refine e_plain rfl ?_; apply Exists.intro; refine ⟨fun D hD hK W hW => ?_, ?_⟩; (focus (obtain ⟨x1, y1⟩ := keepB (hD W hW) z1_2 r1_2 c1_2; unfold Oper.quietAt; go_simp; first | done | rfl)); simp only [Act.put, List.setIfInBounds_toArray, List.set_cons_zero, List.set_cons_succ])
     (refine e_plain rfl ?_; apply Exists.intro; refine ⟨fun D hD hK W hW => ?_, ?_⟩; (focus (obtain ⟨x1, y1⟩ := keepB (hD W hW) z1_2 r1_2 c1_2; unfold Oper.quietAt; go_simp; (go_at_call 72; exact (applyLeft_any p f i _ hp hp' (by omega) HF.out).mono fun e w2 ⟨he, hw2⟩ => ⟨he, hK _ _ hW hw2⟩))); simp only [Act.put, List.setIfInBounds_toArray, List.set_cons_zero, List.set_cons_succ])
     refine e_nil ?_
     intro a8 W8 hW8
     obtain ⟨hw8, hl8, m1_8, m2_8⟩ := hW8
     have n1_4 : (w.heap.size) ≠ (a8) := by have := z1_2; omega
     have n4_1 : (a8) ≠ (w.heap.size) := by have := z1_2; omega
     obtain ⟨r1_8, c1_8, z1_8⟩ := keepZ hw8 z1_2 r1_2 c1_2
     obtain ⟨hb8, q8⟩ := bN hb2 hw8
     clear hw8 r1_2 c1_2 z1_2 hb2
     have z4_8 := isRow_lt m1_8
     simp only [Act.put, List.setIfInBounds_toArray, List.set_cons_zero, List.set_cons_succ]
     go_wp2
     refine atomW fun W9 e9 => ?_
     have hb9 : Below w.heap.size w W9 := by rw [e9]; exact bt
     have q9 := hb9.size
     have r1_9 : IsRow W9 (w.heap.size) := by rw [e9]; simp [go_sem, r1_8, c1_8, n1_4, m1_8, m2_8, n4_1]
     have c1_9 := congrArg (fun x => blk x (w.heap.size)) e9; simp [go_sem, r1_8, c1_8, n1_4, m1_8, m2_8, n4_1] at c1_9
     have z1_9 := isRow_lt r1_9
     have r4_9 : IsRow W9 (a8) := by rw [e9]; simp [go_sem, r1_8, c1_8, n1_4, m1_8, m2_8, n4_1]
     have c4_9 := congrArg (fun x => blk x (a8)) e9; simp [go_sem, r1_8, c1_8, n1_4, m1_8, m2_8, n4_1] at c4_9
     have z4_9 := isRow_lt r4_9
     clear e9 r1_8 c1_8 z1_8 m1_8 m2_8 z4_8 hb8
     refine wp_quiet_alloc 10 _ (.cells (row 8 zf) 32) (Below W9.heap.size W9) (Made W9 (row 8 zf)) (by kernel_rfl) rfl rfl (by kernel_rfl) (fun a W => (xallocVec _ _ _ _ _ _ _).trans (allocVec W)) (closed_below W9) (closed_made W9 _) (fun b W h => h.1) (fun W h => made_new W9 _ _ W h) (Below.refl _ _).drew ?_
     simp only [List.take_succ_cons, List.take_zero, List.drop_succ_cons, List.drop_zero]
     iterate 6 (refine e_plain rfl ?_; apply Exists.intro; refine ⟨fun D hD hK W hW => ?_, ?_⟩; (focus (obtain ⟨x1, y1⟩ := keepB (hD W hW) z1_9 r1_9 c1_9; obtain ⟨x4, y4⟩ := keepB (hD W hW) z4_9 r4_9 c4_9; unfold Oper.quietAt; go_simp; first | done | rfl)); simp only [Act.put, List.setIfInBounds_toArray, List.set_cons_zero, List.set_cons_succ])
     (refine e_plain rfl ?_; apply Exists.intro; refine ⟨fun D hD hK W hW => ?_, ?_⟩; (focus (obtain ⟨x1, y1⟩ := keepB (hD W hW) z1_9 r1_9 c1_9; obtain ⟨x4, y4⟩ := keepB (hD W hW) z4_9 r4_9 c4_9; unfold Oper.quietAt; go_simp; (go_at_call 82; exact (flipLinear_any _ _ (com_bytes HF.out i (by omega))).mono fun e w2 ⟨he, hw2⟩ => ⟨he, hK _ _ hW hw2⟩))); simp only [Act.put, List.setIfInBounds_toArray, List.set_cons_zero, List.set_cons_succ])
     iterate 2 (refine e_plain rfl ?_; apply Exists.intro; refine ⟨fun D hD hK W hW => ?_, ?_⟩; (focus (obtain ⟨x1, y1⟩ := keepB (hD W hW) z1_9 r1_9 c1_9; obtain ⟨x4, y4⟩ := keepB (hD W hW) z4_9 r4_9 c4_9; unfold Oper.quietAt; go_simp; first | done | rfl)); simp only [Act.put, List.setIfInBounds_toArray, List.set_cons_zero, List.set_cons_succ])
     (refine e_plain rfl ?_; apply Exists.intro; refine ⟨fun D hD hK W hW => ?_, ?_⟩; (focus (obtain ⟨x1, y1⟩ := keepB (hD W hW) z1_9 r1_9 c1_9; obtain ⟨x4, y4⟩ := keepB (hD W hW) z4_9 r4_9 c4_9; unfold Oper.quietAt; go_simp; (go_at_call 72; exact (applyRight_any p f i _ hp hp' (by omega) HF.out).mono fun e w2 ⟨he, hw2⟩ => ⟨he, hK _ _ hW hw2⟩))); simp only [Act.put, List.setIfInBounds_toArray, List.set_cons_zero, List.set_cons_succ])
     refine e_nil ?_
     intro a10 W10 hW10
     obtain ⟨hw10, hl10, m1_10, m2_10⟩ := hW10
     have n1_5 : (w.heap.size) ≠ (a10) := by have := z1_9; omega
     have n5_1 : (a10) ≠ (w.heap.size) := by have := z1_9; omega
     have n4_5 : (a8) ≠ (a10) := by have := z4_9; omega
     have n5_4 : (a10) ≠ (a8) := by have := z4_9; omega
     obtain ⟨r1_10, c1_10, z1_10⟩ := keepZ hw10 z1_9 r1_9 c1_9
     obtain ⟨r4_10, c4_10, z4_10⟩ := keepZ hw10 z4_9 r4_9 c4_9
     obtain ⟨hb10, q10⟩ := bN hb9 hw10
     clear hw10 r1_9 c1_9 z1_9 r4_9 c4_9 z4_9 hb9
     have z5_10 := isRow_lt m1_10
     simp only [Act.put, List.setIfInBounds_toArray, List.set_cons_zero, List.set_cons_succ]
     go_wp2_with fail
     refine atomC fun W11 e11 => ?_
     have hb11 : Below w.heap.size w W11 := by rw [e11]; exact bt
     have q11 := hb11.size
     have r1_11 : IsRow W11 (w.heap.size) := by rw [e11]; simp [go_sem, r1_10, c1_10, n1_4, n1_5, r4_10, c4_10, n4_1, n4_5, m1_10, m2_10, n5_1, n5_4]
     have c1_11 := congrArg (fun x => blk x (w.heap.size)) e11; simp [go_sem, r1_10, c1_10, n1_4, n1_5, r4_10, c4_10, n4_1, n4_5, m1_10, m2_10, n5_1, n5_4] at c1_11
     have z1_11 := isRow_lt r1_11
     have r4_11 : IsRow W11 (a8) := by rw [e11]; simp [go_sem, r1_10, c1_10, n1_4, n1_5, r4_10, c4_10, n4_1, n4_5, m1_10, m2_10, n5_1, n5_4]
     have c4_11 := congrArg (fun x => blk x (a8)) e11; simp [go_sem, r1_10, c1_10, n1_4, n1_5, r4_10, c4_10, n4_1, n4_5, m1_10, m2_10, n5_1, n5_4] at c4_11
     have z4_11 := isRow_lt r4_11
     have r5_11 : IsRow W11 (a10) := by rw [e11]; simp [go_sem, r1_10, c1_10, n1_4, n1_5, r4_10, c4_10, n4_1, n4_5, m1_10, m2_10, n5_1, n5_4]
     have c5_11 := congrArg (fun x => blk x (a10)) e11; simp [go_sem, r1_10, c1_10, n1_4, n1_5, r4_10, c4_10, n4_1, n4_5, m1_10, m2_10, n5_1, n5_4] at c5_11
     have z5_11 := isRow_lt r5_11
     clear e11 r1_10 c1_10 z1_10 r4_10 c4_10 z4_10 m1_10 m2_10 z5_10 hb10
     refine (basisAt i (by omega) _).mono ?_; rintro _ W12 ⟨rfl, hw12⟩
     obtain ⟨r1_12, c1_12, z1_12⟩ := keepZ hw12 z1_11 r1_11 c1_11
     obtain ⟨r4_12, c4_12, z4_12⟩ := keepZ hw12 z4_11 r4_11 c4_11
     obtain ⟨r5_12, c5_12, z5_12⟩ := keepZ hw12 z5_11 r5_11 c5_11
     obtain ⟨hb12, q12⟩ := bN hb11 hw12
     clear hw12 r1_11 c1_11 z1_11 r4_11 c4_11 z4_11 r5_11 c5_11 z5_11 hb11
     have nw1_W12_0 : (w.heap.size) ≠ W12.heap.size := by omega
     have nw4_W12_0 : (a8) ≠ W12.heap.size := by omega
     have nw5_W12_0 : (a10) ≠ W12.heap.size := by omega
     go_wp2_with fail
     go_ret
     exact ⟨ret_bool (by rw [H.out] <;> rfl), bt⟩
    ·
     have H := Lib.hid (upto_more (q := cuAt p f) HX2.out (by unfold cuAt; rw [hu1, hu2]; rfl))
     go_wp2
     refine wp_quiet_alloc 9 _ (.cells (row 8 zf) 32) (Below W2.heap.size W2) (Made W2 (row 8 zf)) (by kernel_rfl) rfl rfl (by kernel_rfl) (fun a W => (xallocVec _ _ _ _ _ _ _).trans (allocVec W)) (closed_below W2) (closed_made W2 _) (fun b W h => h.1) (fun W h => made_new W2 _ _ W h) (Below.refl _ _).drew ?_
     simp only [List.take_succ_cons, List.take_zero, List.drop_succ_cons, List.drop_zero]
     iterate 8 (refine e_plain rfl ?_; apply Exists.intro; refine ⟨fun D hD hK W hW => ?_, ?_⟩; (focus (obtain ⟨x1, y1⟩ := keepB (hD W hW) z1_2 r1_2 c1_2; unfold Oper.quietAt; go_simp; first | done | rfl)); simp only [Act.put, List.setIfInBounds_toArray, List.set_cons_zero, List.set_cons_succ])
     (refine e_plain rfl ?_; apply Exists.intro; refine ⟨fun D hD hK W hW => ?_, ?_⟩; (focus (obtain ⟨x1, y1⟩ := keepB (hD W hW) z1_2 r1_2 c1_2; unfold Oper.quietAt; go_simp; (go_at_call 72; exact (applyLeft_any p f i _ hp hp' (by omega) HF.out).mono fun e w2 ⟨he, hw2⟩ => ⟨he, hK _ _ hW hw2⟩))); simp only [Act.put, List.setIfInBounds_toArray, List.set_cons_zero, List.set_cons_succ])
     refine e_nil ?_
     intro a13 W13 hW13
     obtain ⟨hw13, hl13, m1_13, m2_13⟩ := hW13
     have n1_4 : (w.heap.size) ≠ (a13) := by have := z1_2; omega
     have n4_1 : (a13) ≠ (w.heap.size) := by have := z1_2; omega
     obtain ⟨r1_13, c1_13, z1_13⟩ := keepZ hw13 z1_2 r1_2 c1_2
     obtain ⟨hb13, q13⟩ := bN hb2 hw13
     clear hw13 r1_2 c1_2 z1_2 hb2
     have z4_13 := isRow_lt m1_13
     simp only [Act.put, List.setIfInBounds_toArray, List.set_cons_zero, List.set_cons_succ]
     go_wp2
     refine atomW fun W14 e14 => ?_
     have hb14 : Below w.heap.size w W14 := by rw [e14]; exact bt
     have q14 := hb14.size
     have r1_14 : IsRow W14 (w.heap.size) := by rw [e14]; simp [go_sem, r1_13, c1_13, n1_4, m1_13, m2_13, n4_1]
     have c1_14 := congrArg (fun x => blk x (w.heap.size)) e14; simp [go_sem, r1_13, c1_13, n1_4, m1_13, m2_13, n4_1] at c1_14
     have z1_14 := isRow_lt r1_14
     have r4_14 : IsRow W14 (a13) := by rw [e14]; simp [go_sem, r1_13, c1_13, n1_4, m1_13, m2_13, n4_1]
     have c4_14 := congrArg (fun x => blk x (a13)) e14; simp [go_sem, r1_13, c1_13, n1_4, m1_13, m2_13, n4_1] at c4_14
     have z4_14 := isRow_lt r4_14
     clear e14 r1_13 c1_13 z1_13 m1_13 m2_13 z4_13 hb13
     refine wp_quiet_alloc 10 _ (.cells (row 8 zf) 32) (Below W14.heap.size W14) (Made W14 (row 8 zf)) (by kernel_rfl) rfl rfl (by kernel_rfl) (fun a W => (xallocVec _ _ _ _ _ _ _).trans (allocVec W)) (closed_below W14) (closed_made W14 _) (fun b W h => h.1) (fun W h => made_new W14 _ _ W h) (Below.refl _ _).drew ?_
     simp only [List.take_succ_cons, List.take_zero, List.drop_succ_cons, List.drop_zero]
     iterate 6 (refine e_plain rfl ?_; apply Exists.intro; refine ⟨fun D hD hK W hW => ?_, ?_⟩; (focus (obtain ⟨x1, y1⟩ := keepB (hD W hW) z1_14 r1_14 c1_14; obtain ⟨x4, y4⟩ := keepB (hD W hW) z4_14 r4_14 c4_14; unfold Oper.quietAt; go_simp; first | done | rfl)); simp only [Act.put, List.setIfInBounds_toArray, List.set_cons_zero, List.set_cons_succ])
     (refine e_plain rfl ?_; apply Exists.intro; refine ⟨fun D hD hK W hW => ?_, ?_⟩; (focus (obtain ⟨x1, y1⟩ := keepB (hD W hW) z1_14 r1_14 c1_14; obtain ⟨x4, y4⟩ := keepB (hD W hW) z4_14 r4_14 c4_14; unfold Oper.quietAt; go_simp; (go_at_call 82; exact (flipLinear_any _ _ (com_bytes HF.out i (by omega))).mono fun e w2 ⟨he, hw2⟩ => ⟨he, hK _ _ hW hw2⟩))); simp only [Act.put, List.setIfInBounds_toArray, List.set_cons_zero, List.set_cons_succ])
     iterate 2 (refine e_plain rfl ?_; apply Exists.intro; refine ⟨fun D hD hK W hW => ?_, ?_⟩; (focus (obtain ⟨x1, y1⟩ := keepB (hD W hW) z1_14 r1_14 c1_14; obtain ⟨x4, y4⟩ := keepB (hD W hW) z4_14 r4_14 c4_14; unfold Oper.quietAt; go_simp; first | done | rfl)); simp only [Act.put, List.setIfInBounds_toArray, List.set_cons_zero, List.set_cons_succ])
     (refine e_plain rfl ?_; apply Exists.intro; refine ⟨fun D hD hK W hW => ?_, ?_⟩; (focus (obtain ⟨x1, y1⟩ := keepB (hD W hW) z1_14 r1_14 c1_14; obtain ⟨x4, y4⟩ := keepB (hD W hW) z4_14 r4_14 c4_14; unfold Oper.quietAt; go_simp; (go_at_call 72; exact (applyRight_any p f i _ hp hp' (by omega) HF.out).mono fun e w2 ⟨he, hw2⟩ => ⟨he, hK _ _ hW hw2⟩))); simp only [Act.put, List.setIfInBounds_toArray, List.set_cons_zero, List.set_cons_succ])
     refine e_nil ?_
     intro a15 W15 hW15
     obtain ⟨hw15, hl15, m1_15, m2_15⟩ := hW15
     have n1_5 : (w.heap.size) ≠ (a15) := by have := z1_14; omega
     have n5_1 : (a15) ≠ (w.heap.size) := by have := z1_14; omega
     have n4_5 : (a13) ≠ (a15) := by have := z4_14; omega
     have n5_4 : (a15) ≠ (a13) := by have := z4_14; omega
     obtain ⟨r1_15, c1_15, z1_15⟩ := keepZ hw15 z1_14 r1_14 c1_14
     obtain ⟨r4_15, c4_15, z4_15⟩ := keepZ hw15 z4_14 r4_14 c4_14
     obtain ⟨hb15, q15⟩ := bN hb14 hw15
     clear hw15 r1_14 c1_14 z1_14 r4_14 c4_14 z4_14 hb14
     have z5_15 := isRow_lt m1_15
     simp only [Act.put, List.setIfInBounds_toArray, List.set_cons_zero, List.set_cons_succ]
     go_wp2_with fail
     refine atomC fun W16 e16 => ?_
     have hb16 : Below w.heap.size w W16 := by rw [e16]; exact bt
     have q16 := hb16.size
     have r1_16 : IsRow W16 (w.heap.size) := by rw [e16]; simp [go_sem, r1_15, c1_15, n1_4, n1_5, r4_15, c4_15, n4_1, n4_5, m1_15, m2_15, n5_1, n5_4]
     have c1_16 := congrArg (fun x => blk x (w.heap.size)) e16; simp [go_sem, r1_15, c1_15, n1_4, n1_5, r4_15, c4_15, n4_1, n4_5, m1_15, m2_15, n5_1, n5_4] at c1_16
     have z1_16 := isRow_lt r1_16
     have r4_16 : IsRow W16 (a13) := by rw [e16]; simp [go_sem, r1_15, c1_15, n1_4, n1_5, r4_15, c4_15, n4_1, n4_5, m1_15, m2_15, n5_1, n5_4]
     have c4_16 := congrArg (fun x => blk x (a13)) e16; simp [go_sem, r1_15, c1_15, n1_4, n1_5, r4_15, c4_15, n4_1, n4_5, m1_15, m2_15, n5_1, n5_4] at c4_16
     have z4_16 := isRow_lt r4_16
     have r5_16 : IsRow W16 (a15) := by rw [e16]; simp [go_sem, r1_15, c1_15, n1_4, n1_5, r4_15, c4_15, n4_1, n4_5, m1_15, m2_15, n5_1, n5_4]
     have c5_16 := congrArg (fun x => blk x (a15)) e16; simp [go_sem, r1_15, c1_15, n1_4, n1_5, r4_15, c4_15, n4_1, n4_5, m1_15, m2_15, n5_1, n5_4] at c5_16
     have z5_16 := isRow_lt r5_16
     clear e16 r1_15 c1_15 z1_15 r4_15 c4_15 z4_15 m1_15 m2_15 z5_15 hb15
     refine (basisAt i (by omega) _).mono ?_; rintro _ W17 ⟨rfl, hw17⟩
     obtain ⟨r1_17, c1_17, z1_17⟩ := keepZ hw17 z1_16 r1_16 c1_16
     obtain ⟨r4_17, c4_17, z4_17⟩ := keepZ hw17 z4_16 r4_16 c4_16
     obtain ⟨r5_17, c5_17, z5_17⟩ := keepZ hw17 z5_16 r5_16 c5_16
     obtain ⟨hb17, q17⟩ := bN hb16 hw17
     clear hw17 r1_16 c1_16 z1_16 r4_16 c4_16 z4_16 r5_16 c5_16 z5_16 hb16
     have nw1_W17_0 : (w.heap.size) ≠ W17.heap.size := by omega
     have nw4_W17_0 : (a13) ≠ W17.heap.size := by omega
     have nw5_W17_0 : (a15) ≠ W17.heap.size := by omega
     go_wp2
     go_roundw
     case rel => exact ⟨i + 1, by omega, by go_num, bt, ⟨by simp [go_sem, r1_17, c1_17, n1_4, n1_5, r4_17, c4_17, n4_1, n4_5, r5_17, c5_17, n5_1, n5_4, nw1_W17_0, nw4_W17_0, nw5_W17_0], (by rw [E1_2.out]; first | exact c1_17 | (simp [go_sem, r1_17, c1_17, n1_4, n1_5, r4_17, c4_17, n4_1, n4_5, r5_17, c5_17, n5_1, n5_4, nw1_W17_0, nw4_W17_0, nw5_W17_0]; done))⟩, H.out⟩
     case measure => simp [intOf]; omega
  ·
   obtain rfl : n = i := by omega
   have H : Hid (cuB p n f = true) := Lib.hid (all_yes (q := cuAt p f) n fun a ha => HX2.out a ha)
   go_wp2_with fail
   go_ret
   exact ⟨ret_bool (by rw [H.out] <;> rfl), bt⟩
end
section
open Go.RowKit
set_option linter.unusedSimpArgs false
set_option linter.unusedVariables false
attribute [local irreducible] wpQuiet wpQE

/-- the number of the list i, j, k, l -/
def idx (n i j k l : Nat) : Nat := ((i * n + j) * n + k) * n + l
theorem idx_l (n i j k l : Nat) : idx n i j k l + 1 = idx n i j k (l + 1) := rfl
theorem up1 (q n : Nat) : q * n + n = (q + 1) * n := by rw [Nat.succ_mul]
theorem idx_k (n i j k : Nat) : idx n i j k n = idx n i j (k + 1) 0 := by unfold idx; rw [up1]; rfl
theorem idx_j (n i j : Nat) : idx n i j n 0 = idx n i (j + 1) 0 0 := by unfold idx; rw [up1]; rfl
theorem idx_i (n i : Nat) : idx n i n 0 0 = idx n (i + 1) 0 0 0 := by unfold idx; rw [up1]; rfl
theorem idx_end (n : Nat) : idx n n 0 0 0 = n * n * n * n := by unfold idx; rfl
theorem lt_step {q n r m : Nat} (h : q < m) (hr : r < n) : q * n + r < m * n := by
  have : (q + 1) * n ≤ m * n := Nat.mul_le_mul_right n h
  rw [Nat.succ_mul] at this
  omega
theorem idx_lt {n i j k l : Nat} (hi : i < n) (hj : j < n) (hk : k < n) (hl : l < n) : idx n i j k l < n * n * n * n := lt_step (lt_step (lt_step hi hj) hk) hl
theorem dig {q n r : Nat} (h : r < n) : (q * n + r) / n = q ∧ (q * n + r) % n = r := by
  have hn : 0 < n := by omega
  rw [Nat.add_comm]
  exact ⟨by rw [Nat.add_mul_div_right _ _ hn, Nat.div_eq_of_lt h, Nat.zero_add], by rw [Nat.add_mul_mod_self_right, Nat.mod_eq_of_lt h]⟩
theorem idx_dig {n i j k l : Nat} (hj : j < n) (hk : k < n) (hl : l < n) : idx n i j k l / (n * n * n) = i ∧ idx n i j k l / (n * n) % n = j ∧ idx n i j k l / n % n = k ∧ idx n i j k l % n = l := by
  have a1 := dig (q := (i * n + j) * n + k) hl
  have a2 := dig (q := i * n + j) hk
  have a3 := dig (q := i) hj
  unfold idx
  refine ⟨?_, ?_, ?_, a1.2⟩
  · rw [← Nat.div_div_eq_div_mul, ← Nat.div_div_eq_div_mul, a1.1, a2.1, a3.1]
  · rw [← Nat.div_div_eq_div_mul, a1.1, a2.1, a3.2]
  · rw [a1.1, a2.2]
/-- the two sums of coassociativity differ at i, j, k, l -/
def cofA (p : Int) (n : Nat) (f : Nat → Int) (i j k l : Nat) : Bool := coL p f i j k n l != coR p f i j k n l
def cofM (p : Int) (n : Nat) (f : Nat → Int) (m : Nat) : Bool := cofA p n f (m / (n * n * n)) (m / (n * n) % n) (m / n % n) (m % n)
theorem cofM_idx {p : Int} {n : Nat} {f : Nat → Int} {i j k l : Nat} (hj : j < n) (hk : k < n) (hl : l < n) : cofM p n f (idx n i j k l) = cofA p n f i j k l := by
  obtain ⟨h1, h2, h3, h4⟩ := idx_dig (i := i) hj hk hl
  unfold cofM
  rw [h1, h2, h3, h4]
/-- no list has a fault -/
def NoCo (p : Int) (n : Nat) (f : Nat → Int) : Prop := ∀ m, m < n * n * n * n → cofM p n f m = false
/-- m is the first with a fault -/
def FirstCo (p : Int) (n : Nat) (f : Nat → Int) (m : Nat) : Prop := m < n * n * n * n ∧ cofM p n f m = true ∧ ∀ m', m' < m → cofM p n f m' = false
theorem least_of {q : Nat → Bool} : ∀ N, (∀ m, m < N → q m = false) ∨ ∃ m, m < N ∧ q m = true ∧ ∀ m', m' < m → q m' = false
  | 0 => .inl fun _ h => by omega
  | N + 1 => by
    rcases least_of (q := q) N with h | ⟨m, h1, h2, h3⟩
    · cases hq : q N
      · refine .inl fun m hm => ?_
        by_cases e : m = N
        · subst e; exact hq
        · exact h m (by omega)
      · exact .inr ⟨N, by omega, hq, h⟩
    · exact .inr ⟨m, by omega, h2, h3⟩
theorem co_or (p : Int) (n : Nat) (f : Nat → Int) : NoCo p n f ∨ ∃ m, FirstCo p n f m := by
  rcases least_of (q := cofM p n f) (n * n * n * n) with h | h
  · exact .inl h
  · exact .inr h
theorem first_at {p : Int} {n : Nat} {f : Nat → Int} {m i j k l : Nat} (h : FirstCo p n f m) (hle : idx n i j k l ≤ m) (hj : j < n) (hk : k < n) (hl : l < n) (hf : cofA p n f i j k l = true) : m = idx n i j k l := by
  refine Nat.le_antisymm (Nat.le_of_not_lt fun hlt => ?_) hle
  have := h.2.2 _ hlt
  rw [cofM_idx hj hk hl, hf] at this
  cases this
theorem first_past {p : Int} {n : Nat} {f : Nat → Int} {m i j k l : Nat} (h : FirstCo p n f m) (hle : idx n i j k l ≤ m) (hj : j < n) (hk : k < n) (hl : l < n) (hf : cofA p n f i j k l = false) : idx n i j k (l + 1) ≤ m := by
  rw [← idx_l]
  refine Nat.lt_of_le_of_ne hle fun e => ?_
  have := h.2.1
  rw [← e, cofM_idx hj hk hl, hf] at this
  cases this
/-- the list as numbers -/
def t4 (i j k l : Nat) : Nat → Int := fun t => match t with | 0 => (i : Int) | 1 => (j : Int) | 2 => (k : Int) | _ => (l : Int)
def q4 (n m : Nat) : Nat → Int := t4 (m / (n * n * n)) (m / (n * n) % n) (m / n % n) (m % n)
theorem q4_idx {n i j k l : Nat} (hj : j < n) (hk : k < n) (hl : l < n) : q4 n (idx n i j k l) = t4 i j k l := by
  obtain ⟨h1, h2, h3, h4⟩ := idx_dig (i := i) hj hk hl
  unfold q4
  rw [h1, h2, h3, h4]
theorem t4_nums (i j k l : Nat) : #[.int .i64 (i : Int), .int .i64 (j : Int), .int .i64 (k : Int), .int .i64 (l : Int)] = nums 4 (t4 i j k l) := by kernel_rfl

set_option maxRecDepth 100000 in
set_option maxHeartbeats 1000000 in
theorem findCoFault_none (p : Int) (n : Nat) (f : Nat → Int) (w : World) (hp : 0 < p) (hp' : p ≤ 255) (hn : n ≤ 8) (hF : Bytes 520 f) (hno : NoCo p n f) :
    Calls Tryz.prog 174 #[.agg (alg p n f)] w fun e w' => e = .returned (.slice none 0 0) ∧ Below w.heap.size w w' := by
 have HF := Lib.hid hF; clear hF
 have Hno := Lib.hid hno; clear hno
 go_enter Tryz.func174, Tryz.ntmps174
 go_wp2
 refine atomW fun W1 e1 => ?_
 have hb1 : Below w.heap.size w W1 := by rw [e1]; exact bt
 have q1 := hb1.size
 have r1_1 : IsRow W1 (w.heap.size) := by rw [e1]; simp [go_sem]
 have c1_1 := congrArg (fun x => blk x (w.heap.size)) e1; simp [go_sem] at c1_1
 have z1_1 := isRow_lt r1_1
 clear e1
 go_loopw [11] (fun s11 wr => ∃ i : Nat, i ≤ n ∧ s11 = .int .i64 i ∧ Below w.heap.size w wr ∧ (IsRow wr (w.heap.size) ∧ blk wr (w.heap.size) = blk W1 (w.heap.size))) (fun s11 _ => n - (intOf s11).toNat)
 case atStart => exact ⟨0, by omega, rfl, hb1, ⟨r1_1, rfl⟩⟩
 case round =>
  obtain ⟨i, hle2, rfl, hb2, ⟨r1_2, c1_2⟩⟩ := hrel
  obtain ⟨W2, rfl⟩ : ∃ W2 : World, W2 = wr := ⟨_, rfl⟩
  have q2 := hb2.size
  have E1_2 := Lib.hid c1_1; replace c1_2 := c1_2.trans c1_1
  have z1_2 := isRow_lt r1_2
  clear r1_1 c1_1 z1_1 hb1
  by_cases hlt2 : i < n
  ·
   have i0_2 : (0 : Int) ≤ (i : Int) := by omega
   have i8_2 : (i : Int) < 8 := by omega
   have k8_2 : i < 8 := by omega
   have m8_2 : i * 8 + 8 ≤ 64 := by omega
   have m64_2 : i * 64 + 64 ≤ 512 := by omega
   have l1_2 : 10 + i * 64 + 64 ≤ 522 := by omega
   go_wp2
   go_loopw [16] (fun s16 wr => ∃ j : Nat, j ≤ n ∧ s16 = .int .i64 j ∧ Below w.heap.size w wr ∧ (IsRow wr (w.heap.size) ∧ blk wr (w.heap.size) = blk W2 (w.heap.size))) (fun s16 _ => n - (intOf s16).toNat)
   case atStart => exact ⟨0, by omega, rfl, hb2, ⟨r1_2, rfl⟩⟩
   case round =>
    obtain ⟨j, hle3, rfl, hb3, ⟨r1_3, c1_3⟩⟩ := hrel
    obtain ⟨W3, rfl⟩ : ∃ W3 : World, W3 = wr := ⟨_, rfl⟩
    have q3 := hb3.size
    have E1_3 := Lib.hid c1_2; replace c1_3 := c1_3.trans c1_2
    have z1_3 := isRow_lt r1_3
    clear r1_2 c1_2 z1_2 hb2
    by_cases hlt3 : j < n
    ·
     have i0_3 : (0 : Int) ≤ (j : Int) := by omega
     have i8_3 : (j : Int) < 8 := by omega
     have k8_3 : j < 8 := by omega
     have m8_3 : j * 8 + 8 ≤ 64 := by omega
     have m64_3 : j * 64 + 64 ≤ 512 := by omega
     have l1_3 : 10 + j * 64 + 64 ≤ 522 := by omega
     have l2_3i : 10 + i * 64 + j * 8 + 8 ≤ 522 := by omega
     have l3_3i : 10 + j * 64 + i * 8 + 8 ≤ 522 := by omega
     have l4_3i : i * 64 + j * 8 + 8 ≤ 512 := by omega
     have l5_3i : j * 64 + i * 8 + 8 ≤ 512 := by omega
     have l6_3i : i * 8 + j < 64 := by omega
     have l7_3i : j * 8 + i < 64 := by omega
     go_wp2
     go_loopw [21] (fun s21 wr => ∃ k : Nat, k ≤ n ∧ s21 = .int .i64 k ∧ Below w.heap.size w wr ∧ (IsRow wr (w.heap.size) ∧ blk wr (w.heap.size) = blk W3 (w.heap.size))) (fun s21 _ => n - (intOf s21).toNat)
     case atStart => exact ⟨0, by omega, rfl, hb3, ⟨r1_3, rfl⟩⟩
     case round =>
      obtain ⟨k, hle4, rfl, hb4, ⟨r1_4, c1_4⟩⟩ := hrel
      obtain ⟨W4, rfl⟩ : ∃ W4 : World, W4 = wr := ⟨_, rfl⟩
      have q4 := hb4.size
      have E1_4 := Lib.hid c1_3; replace c1_4 := c1_4.trans c1_3
      have z1_4 := isRow_lt r1_4
      clear r1_3 c1_3 z1_3 hb3
      by_cases hlt4 : k < n
      ·
       have i0_4 : (0 : Int) ≤ (k : Int) := by omega
       have i8_4 : (k : Int) < 8 := by omega
       have k8_4 : k < 8 := by omega
       have m8_4 : k * 8 + 8 ≤ 64 := by omega
       have m64_4 : k * 64 + 64 ≤ 512 := by omega
       have l1_4 : 10 + k * 64 + 64 ≤ 522 := by omega
       have l2_4i : 10 + i * 64 + k * 8 + 8 ≤ 522 := by omega
       have l3_4i : 10 + k * 64 + i * 8 + 8 ≤ 522 := by omega
       have l4_4i : i * 64 + k * 8 + 8 ≤ 512 := by omega
       have l5_4i : k * 64 + i * 8 + 8 ≤ 512 := by omega
       have l6_4i : i * 8 + k < 64 := by omega
       have l7_4i : k * 8 + i < 64 := by omega
       have l2_4j : 10 + j * 64 + k * 8 + 8 ≤ 522 := by omega
       have l3_4j : 10 + k * 64 + j * 8 + 8 ≤ 522 := by omega
       have l4_4j : j * 64 + k * 8 + 8 ≤ 512 := by omega
       have l5_4j : k * 64 + j * 8 + 8 ≤ 512 := by omega
       have l6_4j : j * 8 + k < 64 := by omega
       have l7_4j : k * 8 + j < 64 := by omega
       go_wp2_with fail
       refine (coassociativitySums_any p n f i j k _ hp hp' hn (by omega) (by omega) (by omega) HF.out).mono ?_; rintro _ W5 ⟨rfl, hw5⟩
       obtain ⟨r1_5, c1_5, z1_5⟩ := keepZ hw5 z1_4 r1_4 c1_4
       obtain ⟨hb5, q5⟩ := bN hb4 hw5
       clear hw5 r1_4 c1_4 z1_4 hb4
       go_wp2
       have nw1_W5_0 : (w.heap.size) ≠ W5.heap.size := by omega
       have nw1_W5_1 : (w.heap.size) ≠ W5.heap.size + 1 := by omega
       refine atomW fun W6 e6 => ?_
       have hb6 : Below w.heap.size w W6 := by rw [e6]; exact bt
       have q6 := hb6.size
       have r1_6 : IsRow W6 (w.heap.size) := by rw [e6]; simp [go_sem, r1_5, c1_5, nw1_W5_0, nw1_W5_1]
       have c1_6 := congrArg (fun x => blk x (w.heap.size)) e6; simp [go_sem, r1_5, c1_5, nw1_W5_0, nw1_W5_1] at c1_6
       have z1_6 := isRow_lt r1_6
       have r6_6 : IsRow W6 (W5.heap.size) := by rw [e6]; simp [go_sem, r1_5, c1_5, nw1_W5_0, nw1_W5_1]
       have c6_6 := congrArg (fun x => blk x (W5.heap.size)) e6; simp [go_sem, r1_5, c1_5, nw1_W5_0, nw1_W5_1] at c6_6
       have z6_6 := isRow_lt r6_6
       have r7_6 : IsRow W6 (W5.heap.size + 1) := by rw [e6]; simp [go_sem, r1_5, c1_5, nw1_W5_0, nw1_W5_1]
       have c7_6 := congrArg (fun x => blk x (W5.heap.size + 1)) e6; simp [go_sem, r1_5, c1_5, nw1_W5_0, nw1_W5_1] at c7_6
       have z7_6 := isRow_lt r7_6
       have n1_6 : (w.heap.size) ≠ (W5.heap.size) := by omega
       have n1_7 : (w.heap.size) ≠ (W5.heap.size + 1) := by omega
       have n6_1 : (W5.heap.size) ≠ (w.heap.size) := by omega
       have n7_1 : (W5.heap.size + 1) ≠ (w.heap.size) := by omega
       clear e6 nw1_W5_0 nw1_W5_1 r1_5 c1_5 z1_5 hb5
       go_loopw [34] (fun s34 wr => ∃ l : Nat, l ≤ n ∧ s34 = .int .i64 l ∧ Below w.heap.size w wr ∧ (IsRow wr (w.heap.size) ∧ blk wr (w.heap.size) = blk W6 (w.heap.size)) ∧ (IsRow wr (W5.heap.size) ∧ blk wr (W5.heap.size) = blk W6 (W5.heap.size)) ∧ (IsRow wr (W5.heap.size + 1) ∧ blk wr (W5.heap.size + 1) = blk W6 (W5.heap.size + 1))) (fun s34 _ => n - (intOf s34).toNat)
       case atStart => exact ⟨0, by omega, rfl, hb6, ⟨r1_6, rfl⟩, ⟨r6_6, rfl⟩, ⟨r7_6, rfl⟩⟩
       case round =>
        obtain ⟨l, hle7, rfl, hb7, ⟨r1_7, c1_7⟩, ⟨r6_7, c6_7⟩, ⟨r7_7, c7_7⟩⟩ := hrel
        obtain ⟨W7, rfl⟩ : ∃ W7 : World, W7 = wr := ⟨_, rfl⟩
        have q7 := hb7.size
        have E1_7 := Lib.hid c1_6; replace c1_7 := c1_7.trans c1_6
        have z1_7 := isRow_lt r1_7
        have E6_7 := Lib.hid c6_6; replace c6_7 := c6_7.trans c6_6
        have z6_7 := isRow_lt r6_7
        have E7_7 := Lib.hid c7_6; replace c7_7 := c7_7.trans c7_6
        have z7_7 := isRow_lt r7_7
        clear r1_6 c1_6 z1_6 r6_6 c6_6 z6_6 r7_6 c7_6 z7_6 hb6
        by_cases hlt7 : l < n
        ·
         have i0_7 : (0 : Int) ≤ (l : Int) := by omega
         have i8_7 : (l : Int) < 8 := by omega
         have k8_7 : l < 8 := by omega
         have m8_7 : l * 8 + 8 ≤ 64 := by omega
         have m64_7 : l * 64 + 64 ≤ 512 := by omega
         have l1_7 : 10 + l * 64 + 64 ≤ 522 := by omega
         have l2_7i : 10 + i * 64 + l * 8 + 8 ≤ 522 := by omega
         have l3_7i : 10 + l * 64 + i * 8 + 8 ≤ 522 := by omega
         have l4_7i : i * 64 + l * 8 + 8 ≤ 512 := by omega
         have l5_7i : l * 64 + i * 8 + 8 ≤ 512 := by omega
         have l6_7i : i * 8 + l < 64 := by omega
         have l7_7i : l * 8 + i < 64 := by omega
         have l2_7j : 10 + j * 64 + l * 8 + 8 ≤ 522 := by omega
         have l3_7j : 10 + l * 64 + j * 8 + 8 ≤ 522 := by omega
         have l4_7j : j * 64 + l * 8 + 8 ≤ 512 := by omega
         have l5_7j : l * 64 + j * 8 + 8 ≤ 512 := by omega
         have l6_7j : j * 8 + l < 64 := by omega
         have l7_7j : l * 8 + j < 64 := by omega
         have l2_7k : 10 + k * 64 + l * 8 + 8 ≤ 522 := by omega
         have l3_7k : 10 + l * 64 + k * 8 + 8 ≤ 522 := by omega
         have l4_7k : k * 64 + l * 8 + 8 ≤ 512 := by omega
         have l5_7k : l * 64 + k * 8 + 8 ≤ 512 := by omega
         have l6_7k : k * 8 + l < 64 := by omega
         have l7_7k : l * 8 + k < 64 := by omega
         have h0 : cofA p n f i j k l = false := by rw [← cofM_idx (by omega) (by omega) (by omega)]; exact Hno.out _ (idx_lt (by omega) (by omega) (by omega) (by omega))
         have h1 : (coL p f i j k n l != coR p f i j k n l) = false := h0
         clear h0
         go_wp2
         refine wp_quiet_all (Below W7.heap.size W7) (by kernel_rfl) (by kernel_rfl) (Below.refl _ _).drew ?_
         iterate 7 (refine q_plain rfl ?_; apply Exists.intro; refine ⟨fun W hW => ?_, ?_⟩; (focus (obtain ⟨x1, y1⟩ := keepB hW z1_7 r1_7 c1_7; obtain ⟨x6, y6⟩ := keepB hW z6_7 r6_7 c6_7; obtain ⟨x7, y7⟩ := keepB hW z7_7 r7_7 c7_7; go_simp; first | done | rfl)); simp only [Act.put, List.setIfInBounds_toArray, List.set_cons_zero, List.set_cons_succ])
         refine wpQuiet_nil ?_
         intro W8 hw8
         obtain ⟨r1_8, c1_8, z1_8⟩ := keepZ hw8 z1_7 r1_7 c1_7
         obtain ⟨r6_8, c6_8, z6_8⟩ := keepZ hw8 z6_7 r6_7 c6_7
         obtain ⟨r7_8, c7_8, z7_8⟩ := keepZ hw8 z7_7 r7_7 c7_7
         obtain ⟨hb8, q8⟩ := bN hb7 hw8
         clear hw8 r1_7 c1_7 z1_7 r6_7 c6_7 z6_7 r7_7 c7_7 z7_7 hb7
         go_wp2
         go_roundw
         case rel => exact ⟨l + 1, by omega, by go_num, bt, ⟨by simp [go_sem, r1_8, c1_8, n1_6, n1_7, r6_8, c6_8, n6_1, r7_8, c7_8, n7_1], (by rw [E1_7.out]; first | exact c1_8 | (simp [go_sem, r1_8, c1_8, n1_6, n1_7, r6_8, c6_8, n6_1, r7_8, c7_8, n7_1]; done))⟩, ⟨by simp [go_sem, r1_8, c1_8, n1_6, n1_7, r6_8, c6_8, n6_1, r7_8, c7_8, n7_1], (by rw [E6_7.out]; first | exact c6_8 | (simp [go_sem, r1_8, c1_8, n1_6, n1_7, r6_8, c6_8, n6_1, r7_8, c7_8, n7_1]; done))⟩, ⟨by simp [go_sem, r1_8, c1_8, n1_6, n1_7, r6_8, c6_8, n6_1, r7_8, c7_8, n7_1], (by rw [E7_7.out]; first | exact c7_8 | (simp [go_sem, r1_8, c1_8, n1_6, n1_7, r6_8, c6_8, n6_1, r7_8, c7_8, n7_1]; done))⟩⟩
         case measure => simp [intOf]; omega
        ·
         obtain rfl : n = l := by omega
         go_wp2
         go_roundw
         case rel => exact ⟨k + 1, by omega, by go_num, bt, ⟨by simp [go_sem, r1_7, c1_7, n1_6, n1_7, r6_7, c6_7, n6_1, r7_7, c7_7, n7_1], (by rw [E1_4.out]; first | exact c1_7 | (simp [go_sem, r1_7, c1_7, n1_6, n1_7, r6_7, c6_7, n6_1, r7_7, c7_7, n7_1]; done))⟩⟩
         case measure => simp [intOf]; omega
      ·
       obtain rfl : n = k := by omega
       go_wp2
       go_roundw
       case rel => exact ⟨j + 1, by omega, by go_num, bt, ⟨by simp [go_sem, r1_4, c1_4], (by rw [E1_3.out]; first | exact c1_4 | (simp [go_sem, r1_4, c1_4]; done))⟩⟩
       case measure => simp [intOf]; omega
    ·
     obtain rfl : n = j := by omega
     go_wp2
     go_roundw
     case rel => exact ⟨i + 1, by omega, by go_num, bt, ⟨by simp [go_sem, r1_3, c1_3], (by rw [E1_2.out]; first | exact c1_3 | (simp [go_sem, r1_3, c1_3]; done))⟩⟩
     case measure => simp [intOf]; omega
  ·
   obtain rfl : n = i := by omega
   go_wp2_with fail
   go_ret
   exact ⟨rfl, bt⟩

set_option maxRecDepth 100000 in
set_option maxHeartbeats 1000000 in
theorem findCoFault_some (p : Int) (n : Nat) (f : Nat → Int) (m : Nat) (w : World) (hp : 0 < p) (hp' : p ≤ 255) (hn : n ≤ 8) (hF : Bytes 520 f) (hfi : FirstCo p n f m) :
    Calls Tryz.prog 174 #[.agg (alg p n f)] w fun e w' => ∃ b, e = .returned (.slice (some ⟨b, 0, none⟩) 4 4) ∧ Below w.heap.size w w' ∧ w.heap.size ≤ b ∧ IsRow w' b ∧ blk w' b = nums 4 (q4 n m) := by
 have HF := Lib.hid hF; clear hF
 have Hfi := Lib.hid hfi; clear hfi
 go_enter Tryz.func174, Tryz.ntmps174
 go_wp2
 refine atomW fun W1 e1 => ?_
 have hb1 : Below w.heap.size w W1 := by rw [e1]; exact bt
 have q1 := hb1.size
 have r1_1 : IsRow W1 (w.heap.size) := by rw [e1]; simp [go_sem]
 have c1_1 := congrArg (fun x => blk x (w.heap.size)) e1; simp [go_sem] at c1_1
 have z1_1 := isRow_lt r1_1
 clear e1
 go_loopw [11] (fun s11 wr => ∃ i : Nat, i ≤ n ∧ s11 = .int .i64 i ∧ Below w.heap.size w wr ∧ (IsRow wr (w.heap.size) ∧ blk wr (w.heap.size) = blk W1 (w.heap.size)) ∧ idx n i 0 0 0 ≤ m) (fun s11 _ => n - (intOf s11).toNat)
 case atStart => exact ⟨0, by omega, rfl, hb1, ⟨r1_1, rfl⟩, by simp [idx]⟩
 case round =>
  obtain ⟨i, hle2, rfl, hb2, ⟨r1_2, c1_2⟩, hx2⟩ := hrel
  obtain ⟨W2, rfl⟩ : ∃ W2 : World, W2 = wr := ⟨_, rfl⟩
  have q2 := hb2.size
  have HX2 := Lib.hid hx2; clear hx2
  have E1_2 := Lib.hid c1_1; replace c1_2 := c1_2.trans c1_1
  have z1_2 := isRow_lt r1_2
  clear r1_1 c1_1 z1_1 hb1
  by_cases hlt2 : i < n
  ·
   have i0_2 : (0 : Int) ≤ (i : Int) := by omega
   have i8_2 : (i : Int) < 8 := by omega
   have k8_2 : i < 8 := by omega
   have m8_2 : i * 8 + 8 ≤ 64 := by omega
   have m64_2 : i * 64 + 64 ≤ 512 := by omega
   have l1_2 : 10 + i * 64 + 64 ≤ 522 := by omega
   go_wp2
   go_loopw [16] (fun s16 wr => ∃ j : Nat, j ≤ n ∧ s16 = .int .i64 j ∧ Below w.heap.size w wr ∧ (IsRow wr (w.heap.size) ∧ blk wr (w.heap.size) = blk W2 (w.heap.size)) ∧ idx n i j 0 0 ≤ m) (fun s16 _ => n - (intOf s16).toNat)
   case atStart => exact ⟨0, by omega, rfl, hb2, ⟨r1_2, rfl⟩, HX2.out⟩
   case round =>
    obtain ⟨j, hle3, rfl, hb3, ⟨r1_3, c1_3⟩, hx3⟩ := hrel
    obtain ⟨W3, rfl⟩ : ∃ W3 : World, W3 = wr := ⟨_, rfl⟩
    have q3 := hb3.size
    have HX3 := Lib.hid hx3; clear hx3
    have E1_3 := Lib.hid c1_2; replace c1_3 := c1_3.trans c1_2
    have z1_3 := isRow_lt r1_3
    clear r1_2 c1_2 z1_2 hb2
    by_cases hlt3 : j < n
    ·
     have i0_3 : (0 : Int) ≤ (j : Int) := by omega
     have i8_3 : (j : Int) < 8 := by omega
     have k8_3 : j < 8 := by omega
     have m8_3 : j * 8 + 8 ≤ 64 := by omega
     have m64_3 : j * 64 + 64 ≤ 512 := by omega
     have l1_3 : 10 + j * 64 + 64 ≤ 522 := by omega
     have l2_3i : 10 + i * 64 + j * 8 + 8 ≤ 522 := by omega
     have l3_3i : 10 + j * 64 + i * 8 + 8 ≤ 522 := by omega
     have l4_3i : i * 64 + j * 8 + 8 ≤ 512 := by omega
     have l5_3i : j * 64 + i * 8 + 8 ≤ 512 := by omega
     have l6_3i : i * 8 + j < 64 := by omega
     have l7_3i : j * 8 + i < 64 := by omega
     go_wp2
     go_loopw [21] (fun s21 wr => ∃ k : Nat, k ≤ n ∧ s21 = .int .i64 k ∧ Below w.heap.size w wr ∧ (IsRow wr (w.heap.size) ∧ blk wr (w.heap.size) = blk W3 (w.heap.size)) ∧ idx n i j k 0 ≤ m) (fun s21 _ => n - (intOf s21).toNat)
     case atStart => exact ⟨0, by omega, rfl, hb3, ⟨r1_3, rfl⟩, HX3.out⟩
     case round =>
      obtain ⟨k, hle4, rfl, hb4, ⟨r1_4, c1_4⟩, hx4⟩ := hrel
      obtain ⟨W4, rfl⟩ : ∃ W4 : World, W4 = wr := ⟨_, rfl⟩
      have q4 := hb4.size
      have HX4 := Lib.hid hx4; clear hx4
      have E1_4 := Lib.hid c1_3; replace c1_4 := c1_4.trans c1_3
      have z1_4 := isRow_lt r1_4
      clear r1_3 c1_3 z1_3 hb3
      by_cases hlt4 : k < n
      ·
       have i0_4 : (0 : Int) ≤ (k : Int) := by omega
       have i8_4 : (k : Int) < 8 := by omega
       have k8_4 : k < 8 := by omega
       have m8_4 : k * 8 + 8 ≤ 64 := by omega
       have m64_4 : k * 64 + 64 ≤ 512 := by omega
       have l1_4 : 10 + k * 64 + 64 ≤ 522 := by omega
       have l2_4i : 10 + i * 64 + k * 8 + 8 ≤ 522 := by omega
       have l3_4i : 10 + k * 64 + i * 8 + 8 ≤ 522 := by omega
       have l4_4i : i * 64 + k * 8 + 8 ≤ 512 := by omega
       have l5_4i : k * 64 + i * 8 + 8 ≤ 512 := by omega
       have l6_4i : i * 8 + k < 64 := by omega
       have l7_4i : k * 8 + i < 64 := by omega
       have l2_4j : 10 + j * 64 + k * 8 + 8 ≤ 522 := by omega
       have l3_4j : 10 + k * 64 + j * 8 + 8 ≤ 522 := by omega
       have l4_4j : j * 64 + k * 8 + 8 ≤ 512 := by omega
       have l5_4j : k * 64 + j * 8 + 8 ≤ 512 := by omega
       have l6_4j : j * 8 + k < 64 := by omega
       have l7_4j : k * 8 + j < 64 := by omega
       go_wp2_with fail
       refine (coassociativitySums_any p n f i j k _ hp hp' hn (by omega) (by omega) (by omega) HF.out).mono ?_; rintro _ W5 ⟨rfl, hw5⟩
       obtain ⟨r1_5, c1_5, z1_5⟩ := keepZ hw5 z1_4 r1_4 c1_4
       obtain ⟨hb5, q5⟩ := bN hb4 hw5
       clear hw5 r1_4 c1_4 z1_4 hb4
       go_wp2
       have nw1_W5_0 : (w.heap.size) ≠ W5.heap.size := by omega
       have nw1_W5_1 : (w.heap.size) ≠ W5.heap.size + 1 := by omega
       refine atomW fun W6 e6 => ?_
       have hb6 : Below w.heap.size w W6 := by rw [e6]; exact bt
       have q6 := hb6.size
       have r1_6 : IsRow W6 (w.heap.size) := by rw [e6]; simp [go_sem, r1_5, c1_5, nw1_W5_0, nw1_W5_1]
       have c1_6 := congrArg (fun x => blk x (w.heap.size)) e6; simp [go_sem, r1_5, c1_5, nw1_W5_0, nw1_W5_1] at c1_6
       have z1_6 := isRow_lt r1_6
       have r6_6 : IsRow W6 (W5.heap.size) := by rw [e6]; simp [go_sem, r1_5, c1_5, nw1_W5_0, nw1_W5_1]
       have c6_6 := congrArg (fun x => blk x (W5.heap.size)) e6; simp [go_sem, r1_5, c1_5, nw1_W5_0, nw1_W5_1] at c6_6
       have z6_6 := isRow_lt r6_6
       have r7_6 : IsRow W6 (W5.heap.size + 1) := by rw [e6]; simp [go_sem, r1_5, c1_5, nw1_W5_0, nw1_W5_1]
       have c7_6 := congrArg (fun x => blk x (W5.heap.size + 1)) e6; simp [go_sem, r1_5, c1_5, nw1_W5_0, nw1_W5_1] at c7_6
       have z7_6 := isRow_lt r7_6
       have n1_6 : (w.heap.size) ≠ (W5.heap.size) := by omega
       have n1_7 : (w.heap.size) ≠ (W5.heap.size + 1) := by omega
       have n6_1 : (W5.heap.size) ≠ (w.heap.size) := by omega
       have n7_1 : (W5.heap.size + 1) ≠ (w.heap.size) := by omega
       clear e6 nw1_W5_0 nw1_W5_1 r1_5 c1_5 z1_5 hb5
       go_loopw [34] (fun s34 wr => ∃ l : Nat, l ≤ n ∧ s34 = .int .i64 l ∧ Below w.heap.size w wr ∧ (IsRow wr (w.heap.size) ∧ blk wr (w.heap.size) = blk W6 (w.heap.size)) ∧ (IsRow wr (W5.heap.size) ∧ blk wr (W5.heap.size) = blk W6 (W5.heap.size)) ∧ (IsRow wr (W5.heap.size + 1) ∧ blk wr (W5.heap.size + 1) = blk W6 (W5.heap.size + 1)) ∧ idx n i j k l ≤ m) (fun s34 _ => n - (intOf s34).toNat)
       case atStart => exact ⟨0, by omega, rfl, hb6, ⟨r1_6, rfl⟩, ⟨r6_6, rfl⟩, ⟨r7_6, rfl⟩, HX4.out⟩
       case round =>
        obtain ⟨l, hle7, rfl, hb7, ⟨r1_7, c1_7⟩, ⟨r6_7, c6_7⟩, ⟨r7_7, c7_7⟩, hx7⟩ := hrel
        obtain ⟨W7, rfl⟩ : ∃ W7 : World, W7 = wr := ⟨_, rfl⟩
        have q7 := hb7.size
        have HX7 := Lib.hid hx7; clear hx7
        have E1_7 := Lib.hid c1_6; replace c1_7 := c1_7.trans c1_6
        have z1_7 := isRow_lt r1_7
        have E6_7 := Lib.hid c6_6; replace c6_7 := c6_7.trans c6_6
        have z6_7 := isRow_lt r6_7
        have E7_7 := Lib.hid c7_6; replace c7_7 := c7_7.trans c7_6
        have z7_7 := isRow_lt r7_7
        clear r1_6 c1_6 z1_6 r6_6 c6_6 z6_6 r7_6 c7_6 z7_6 hb6
        by_cases hlt7 : l < n
        ·
         have i0_7 : (0 : Int) ≤ (l : Int) := by omega
         have i8_7 : (l : Int) < 8 := by omega
         have k8_7 : l < 8 := by omega
         have m8_7 : l * 8 + 8 ≤ 64 := by omega
         have m64_7 : l * 64 + 64 ≤ 512 := by omega
         have l1_7 : 10 + l * 64 + 64 ≤ 522 := by omega
         have l2_7i : 10 + i * 64 + l * 8 + 8 ≤ 522 := by omega
         have l3_7i : 10 + l * 64 + i * 8 + 8 ≤ 522 := by omega
         have l4_7i : i * 64 + l * 8 + 8 ≤ 512 := by omega
         have l5_7i : l * 64 + i * 8 + 8 ≤ 512 := by omega
         have l6_7i : i * 8 + l < 64 := by omega
         have l7_7i : l * 8 + i < 64 := by omega
         have l2_7j : 10 + j * 64 + l * 8 + 8 ≤ 522 := by omega
         have l3_7j : 10 + l * 64 + j * 8 + 8 ≤ 522 := by omega
         have l4_7j : j * 64 + l * 8 + 8 ≤ 512 := by omega
         have l5_7j : l * 64 + j * 8 + 8 ≤ 512 := by omega
         have l6_7j : j * 8 + l < 64 := by omega
         have l7_7j : l * 8 + j < 64 := by omega
         have l2_7k : 10 + k * 64 + l * 8 + 8 ≤ 522 := by omega
         have l3_7k : 10 + l * 64 + k * 8 + 8 ≤ 522 := by omega
         have l4_7k : k * 64 + l * 8 + 8 ≤ 512 := by omega
         have l5_7k : l * 64 + k * 8 + 8 ≤ 512 := by omega
         have l6_7k : k * 8 + l < 64 := by omega
         have l7_7k : l * 8 + k < 64 := by omega
         cases h0 : cofA p n f i j k l
         ·
          have h1 : (coL p f i j k n l != coR p f i j k n l) = false := h0
          have h2 := Lib.hid (first_past Hfi.out HX7.out (by omega) (by omega) (by omega) h0)
          clear h0
          go_wp2
          refine wp_quiet_all (Below W7.heap.size W7) (by kernel_rfl) (by kernel_rfl) (Below.refl _ _).drew ?_
          iterate 7 (refine q_plain rfl ?_; apply Exists.intro; refine ⟨fun W hW => ?_, ?_⟩; (focus (obtain ⟨x1, y1⟩ := keepB hW z1_7 r1_7 c1_7; obtain ⟨x6, y6⟩ := keepB hW z6_7 r6_7 c6_7; obtain ⟨x7, y7⟩ := keepB hW z7_7 r7_7 c7_7; go_simp; first | done | rfl)); simp only [Act.put, List.setIfInBounds_toArray, List.set_cons_zero, List.set_cons_succ])
          refine wpQuiet_nil ?_
          intro W8 hw8
          obtain ⟨r1_8, c1_8, z1_8⟩ := keepZ hw8 z1_7 r1_7 c1_7
          obtain ⟨r6_8, c6_8, z6_8⟩ := keepZ hw8 z6_7 r6_7 c6_7
          obtain ⟨r7_8, c7_8, z7_8⟩ := keepZ hw8 z7_7 r7_7 c7_7
          obtain ⟨hb8, q8⟩ := bN hb7 hw8
          clear hw8 r1_7 c1_7 z1_7 r6_7 c6_7 z6_7 r7_7 c7_7 z7_7 hb7
          go_wp2
          go_roundw
          case rel => exact ⟨l + 1, by omega, by go_num, bt, ⟨by simp [go_sem, r1_8, c1_8, n1_6, n1_7, r6_8, c6_8, n6_1, r7_8, c7_8, n7_1], (by rw [E1_7.out]; first | exact c1_8 | (simp [go_sem, r1_8, c1_8, n1_6, n1_7, r6_8, c6_8, n6_1, r7_8, c7_8, n7_1]; done))⟩, ⟨by simp [go_sem, r1_8, c1_8, n1_6, n1_7, r6_8, c6_8, n6_1, r7_8, c7_8, n7_1], (by rw [E6_7.out]; first | exact c6_8 | (simp [go_sem, r1_8, c1_8, n1_6, n1_7, r6_8, c6_8, n6_1, r7_8, c7_8, n7_1]; done))⟩, ⟨by simp [go_sem, r1_8, c1_8, n1_6, n1_7, r6_8, c6_8, n6_1, r7_8, c7_8, n7_1], (by rw [E7_7.out]; first | exact c7_8 | (simp [go_sem, r1_8, c1_8, n1_6, n1_7, r6_8, c6_8, n6_1, r7_8, c7_8, n7_1]; done))⟩, h2.out⟩
          case measure => simp [intOf]; omega
         ·
          have h1 : (coL p f i j k n l != coR p f i j k n l) = true := h0
          have h2 := Lib.hid (first_at Hfi.out HX7.out (by omega) (by omega) (by omega) h0)
          have h3 := Lib.hid (q4_idx (n := n) (i := i) (j := j) (k := k) (l := l) (by omega) (by omega) (by omega))
          clear h0
          go_wp2
          refine wp_quiet_all (Below W7.heap.size W7) (by kernel_rfl) (by kernel_rfl) (Below.refl _ _).drew ?_
          iterate 7 (refine q_plain rfl ?_; apply Exists.intro; refine ⟨fun W hW => ?_, ?_⟩; (focus (obtain ⟨x1, y1⟩ := keepB hW z1_7 r1_7 c1_7; obtain ⟨x6, y6⟩ := keepB hW z6_7 r6_7 c6_7; obtain ⟨x7, y7⟩ := keepB hW z7_7 r7_7 c7_7; go_simp; first | done | rfl)); simp only [Act.put, List.setIfInBounds_toArray, List.set_cons_zero, List.set_cons_succ])
          refine wpQuiet_nil ?_
          intro W9 hw9
          obtain ⟨r1_9, c1_9, z1_9⟩ := keepZ hw9 z1_7 r1_7 c1_7
          obtain ⟨r6_9, c6_9, z6_9⟩ := keepZ hw9 z6_7 r6_7 c6_7
          obtain ⟨r7_9, c7_9, z7_9⟩ := keepZ hw9 z7_7 r7_7 c7_7
          obtain ⟨hb9, q9⟩ := bN hb7 hw9
          clear hw9 r1_7 c1_7 z1_7 r6_7 c6_7 z6_7 r7_7 c7_7 z7_7 hb7
          have nw1_W9_0 : (w.heap.size) ≠ W9.heap.size := by omega
          have nw6_W9_0 : (W5.heap.size) ≠ W9.heap.size := by omega
          have nw7_W9_0 : (W5.heap.size + 1) ≠ W9.heap.size := by omega
          go_wp2_with fail
          go_ret
          refine ⟨_, rfl, bt, ?_, ?_, ?_⟩
          · first | omega | (simp; omega)
          · simp [go_sem, r1_9, c1_9, n1_6, n1_7, r6_9, c6_9, n6_1, r7_9, c7_9, n7_1]
          · rw [h2.out, h3.out, ← t4_nums]; simp [go_sem, r1_9, c1_9, n1_6, n1_7, r6_9, c6_9, n6_1, r7_9, c7_9, n7_1]
        ·
         obtain rfl : n = l := by omega
         have h0 := HX7.out; rw [idx_k] at h0
         go_wp2
         go_roundw
         case rel => exact ⟨k + 1, by omega, by go_num, bt, ⟨by simp [go_sem, r1_7, c1_7, n1_6, n1_7, r6_7, c6_7, n6_1, r7_7, c7_7, n7_1], (by rw [E1_4.out]; first | exact c1_7 | (simp [go_sem, r1_7, c1_7, n1_6, n1_7, r6_7, c6_7, n6_1, r7_7, c7_7, n7_1]; done))⟩, h0⟩
         case measure => simp [intOf]; omega
      ·
       obtain rfl : n = k := by omega
       have h0 := HX4.out; rw [idx_j] at h0
       go_wp2
       go_roundw
       case rel => exact ⟨j + 1, by omega, by go_num, bt, ⟨by simp [go_sem, r1_4, c1_4], (by rw [E1_3.out]; first | exact c1_4 | (simp [go_sem, r1_4, c1_4]; done))⟩, h0⟩
       case measure => simp [intOf]; omega
    ·
     obtain rfl : n = j := by omega
     have h0 := HX3.out; rw [idx_i] at h0
     go_wp2
     go_roundw
     case rel => exact ⟨i + 1, by omega, by go_num, bt, ⟨by simp [go_sem, r1_3, c1_3], (by rw [E1_2.out]; first | exact c1_3 | (simp [go_sem, r1_3, c1_3]; done))⟩, h0⟩
     case measure => simp [intOf]; omega
  ·
   obtain rfl : n = i := by omega
   have h0 := HX2.out; rw [idx_end] at h0
   exact absurd Hfi.out.1 (by omega)
end
section
open Go.RowKit
set_option linter.unusedSimpArgs false
set_option linter.unusedVariables false
attribute [local irreducible] wpQuiet wpQE

theorem mul_le8 {a n c : Nat} (h : a ≤ c) (hn : n ≤ 8) : a * n ≤ c * 8 := Nat.mul_le_mul h hn
/-- bounds on the powers of n, as the walk reckons them -/
theorem pows {n : Nat} (hn : n ≤ 8) : (0 : Int) ≤ (n : Int) * n ∧ (n : Int) * n ≤ 64 ∧ (0 : Int) ≤ (n : Int) * n * n ∧ (n : Int) * n * n ≤ 512 ∧ (0 : Int) ≤ (n : Int) * n * n * n ∧ (n : Int) * n * n * n ≤ 4096 := by
  have h2 := mul_le8 hn hn
  have h3 := mul_le8 h2 hn
  have h4 := mul_le8 h3 hn
  have e2 : ((n * n : Nat) : Int) = (n : Int) * n := by simp
  have e3 : ((n * n * n : Nat) : Int) = (n : Int) * n * n := by simp
  have e4 : ((n * n * n * n : Nat) : Int) = (n : Int) * n * n * n := by simp
  omega
theorem pow_pos' {n : Nat} (h : 0 < n) : 0 < n * n ∧ 0 < n * n * n := ⟨Nat.mul_pos h h, Nat.mul_pos (Nat.mul_pos h h) h⟩
theorem casts (m n : Nat) : (m : Int) / ((n : Int) * n * n) = ((m / (n * n * n) : Nat) : Int) ∧ (m : Int) / ((n : Int) * n) % n = ((m / (n * n) % n : Nat) : Int) ∧ (m : Int) / n % n = ((m / n % n : Nat) : Int) ∧ (m : Int) % n = ((m % n : Nat) : Int) := by simp
theorem l02SumsI_any (p : Int) (n : Nat) (f : Nat → Int) (m : Nat) (w : World) (hp : 0 < p) (hp' : p ≤ 255) (hn : n ≤ 8) (hF : Bytes 520 f) (hm : m < n * n * n * n) (h0 : 0 < n) (h1 : m / (n * n * n) < n) :
    Calls Tryz.prog 176 #[.agg (alg p n f), .int .i64 ((m : Int) / ((n : Int) * n * n)), .int .i64 ((m : Int) / ((n : Int) * n) % n), .int .i64 ((m : Int) / n % n), .int .i64 ((m : Int) % n)] w fun e w' =>
      e = .returned (.tuple #[.int .u8 (coL p f (m / (n * n * n)) (m / (n * n) % n) (m / n % n) n (m % n)), .int .u8 (coR p f (m / (n * n * n)) (m / (n * n) % n) (m / n % n) n (m % n))]) ∧ Below w.heap.size w w' := by
  rw [(casts m n).1, (casts m n).2.1, (casts m n).2.2.1, (casts m n).2.2.2]
  have b2 := Nat.mod_lt (m / (n * n)) h0
  have b3 := Nat.mod_lt (m / n) h0
  have b4 := Nat.mod_lt m h0
  exact l02Sums_any p n f _ _ _ _ w hp hp' hn (by omega) (by omega) (by omega) (by omega) hF
theorem not_lt4 {m n : Nat} (h : ¬ m < n * n * n * n) : ¬ (m : Int) < (n : Int) * n * n * n := by
  intro h2
  apply h
  have e : ((n * n * n * n : Nat) : Int) = (n : Int) * n * n * n := by simp
  omega
theorem pos_of {m n : Nat} (h : m < n * n * n * n) : 0 < n := by
  rcases Nat.eq_zero_or_pos n with h0 | h0
  · subst h0; simp at h
  · exact h0
theorem first_more {q : Nat → Bool} {m m0 : Nat} (hle : m ≤ m0) (h1 : q m0 = true) (h0 : q m = false) : m + 1 ≤ m0 := by
  refine Nat.lt_of_le_of_ne hle fun e => ?_
  rw [e, h1] at h0; cases h0
theorem first_here {q : Nat → Bool} {m m0 : Nat} (hle : m ≤ m0) (h1 : ∀ i, i < m0 → q i = false) (h0 : q m = true) : m0 = m := by
  refine Nat.le_antisymm (Nat.le_of_not_lt fun h => ?_) hle
  rw [h1 m h] at h0; cases h0
theorem div_lt_n {m n : Nat} (hm : m < n * n * n * n) : m / (n * n * n) < n := by
  rw [Nat.div_lt_iff_lt_mul (by
    rcases Nat.eq_zero_or_pos n with h | h
    · subst h; simp at hm
    · exact (pow_pos' h).2)]
  rw [show n * (n * n * n) = n * n * n * n by rw [Nat.mul_comm]]
  exact hm

set_option maxRecDepth 100000 in
set_option maxHeartbeats 1000000 in
theorem l02Fault_none (p : Int) (n : Nat) (f : Nat → Int) (w : World) (hp : 0 < p) (hp' : p ≤ 255) (hn : n ≤ 8) (hF : Bytes 520 f) (hno : NoCo p n f) :
    Calls Tryz.prog 169 #[.agg (alg p n f)] w fun e w' => e = .returned (.tuple #[.slice none 0 0, .bool false]) ∧ Below w.heap.size w w' := by
 have HF := Lib.hid hF; clear hF
 have Hno := Lib.hid hno; clear hno
 go_enter Tryz.func169, Tryz.ntmps169
 go_wp2
 refine atomW fun W1 e1 => ?_
 have hb1 : Below w.heap.size w W1 := by rw [e1]; exact bt
 have q1 := hb1.size
 have r1_1 : IsRow W1 (w.heap.size) := by rw [e1]; simp [go_sem]
 have c1_1 := congrArg (fun x => blk x (w.heap.size)) e1; simp [go_sem] at c1_1
 have z1_1 := isRow_lt r1_1
 clear e1
 have x1 := (pows hn).1; have x2 := (pows hn).2.1; have x3 := (pows hn).2.2.1; have x4 := (pows hn).2.2.2.1; have x5 := (pows hn).2.2.2.2.1; have x6 := (pows hn).2.2.2.2.2
 go_loopw [5] (fun s5 wr => ∃ m : Nat, m ≤ n * n * n * n ∧ s5 = .int .i64 m ∧ Below w.heap.size w wr ∧ (IsRow wr (w.heap.size) ∧ blk wr (w.heap.size) = blk W1 (w.heap.size))) (fun s5 _ => n * n * n * n - (intOf s5).toNat)
 case atStart => exact ⟨0, by omega, rfl, hb1, ⟨r1_1, rfl⟩⟩
 case round =>
  obtain ⟨m, hle2, rfl, hb2, ⟨r1_2, c1_2⟩⟩ := hrel
  obtain ⟨W2, rfl⟩ : ∃ W2 : World, W2 = wr := ⟨_, rfl⟩
  have q2 := hb2.size
  have E1_2 := Lib.hid c1_1; replace c1_2 := c1_2.trans c1_1
  have z1_2 := isRow_lt r1_2
  clear r1_1 c1_1 z1_1 hb1
  by_cases hlt2 : m < n * n * n * n
  ·
   have hn0 : 0 < n := pos_of hlt2
   have y1 : (0 : Int) < (n : Int) * n := by have := Int.ofNat_lt.2 (pow_pos' hn0).1; simpa using this
   have y2 : (0 : Int) < (n : Int) * n * n := by have := Int.ofNat_lt.2 (pow_pos' hn0).2; simpa using this
   have y3 : (0 : Int) < (n : Int) := by omega
   have y4 : (m : Int) < (n : Int) * n * n * n := by have := Int.ofNat_lt.2 hlt2; simpa using this
   have z1 : ¬ ((n : Int) * n = 0) := by omega
   have z2 : ¬ ((n : Int) * n * n = 0) := by omega
   have z3 : ¬ ((n : Int) = 0) := by omega
   have d1 : (0 : Int) ≤ (m : Int) / ((n : Int) * n) := Int.ediv_nonneg (by omega) (by omega)
   have d2 : (0 : Int) ≤ (m : Int) / (n : Int) := Int.ediv_nonneg (by omega) (by omega)
   have e1 : (m : Int) / ((n : Int) * n) ≤ m := Int.ediv_le_self _ (by omega)
   have e2 : (m : Int) / (n : Int) ≤ m := Int.ediv_le_self _ (by omega)
   have e3 : (m : Int) / ((n : Int) * n * n) ≤ m := Int.ediv_le_self _ (by omega)
   have e4 : (0 : Int) ≤ (m : Int) / ((n : Int) * n * n) := Int.ediv_nonneg (by omega) (by omega)
   have qa : IntKind.i64.wrap ((n : Int) * n) = (n : Int) * n := IntWalk.i64_in _ (by omega)
   have qb : IntKind.i64.wrap ((n : Int) * n * n) = (n : Int) * n * n := IntWalk.i64_in _ (by omega)
   have qc : IntKind.i64.wrap ((m : Int) / ((n : Int) * n)) = (m : Int) / ((n : Int) * n) := IntWalk.i64_in _ (by omega)
   have qd : IntKind.i64.wrap ((m : Int) / (n : Int)) = (m : Int) / (n : Int) := IntWalk.i64_in _ (by omega)
   have qe : IntKind.i64.wrap ((m : Int) / ((n : Int) * n * n)) = (m : Int) / ((n : Int) * n * n) := IntWalk.i64_in _ (by omega)
   have nz : ¬ n = 0 := by omega
   have t1 : ((m : Int) / ((n : Int) * n)).tmod n = (m : Int) / ((n : Int) * n) % n := Int.tmod_eq_emod_of_nonneg d1
   have t2 : ((m : Int) / (n : Int)).tmod n = (m : Int) / (n : Int) % n := Int.tmod_eq_emod_of_nonneg d2
   have t3 : (m : Int).tmod n = (m : Int) % n := Int.tmod_eq_emod_of_nonneg (by omega)
   have b1 := div_lt_n hlt2; have b2 := Nat.mod_lt (m / (n * n)) hn0; have b3 := Nat.mod_lt (m / n) hn0; have b4 := Nat.mod_lt m hn0
   have h1 : (coL p f (m / (n * n * n)) (m / (n * n) % n) (m / n % n) n (m % n) != coR p f (m / (n * n * n)) (m / (n * n) % n) (m / n % n) n (m % n)) = false := Hno.out m hlt2
   go_wp2
   refine wp_quiet_all (Below W2.heap.size W2) (by kernel_rfl) (by kernel_rfl) (Below.refl _ _).drew ?_
   iterate 26 (refine q_plain rfl ?_; apply Exists.intro; refine ⟨fun W hW => ?_, ?_⟩; (focus (obtain ⟨x1, y1⟩ := keepB hW z1_2 r1_2 c1_2; go_simp; first | done | rfl)); simp only [Act.put, List.setIfInBounds_toArray, List.set_cons_zero, List.set_cons_succ])
   refine wpQuiet_nil ?_
   intro W3 hw3
   obtain ⟨r1_3, c1_3, z1_3⟩ := keepZ hw3 z1_2 r1_2 c1_2
   obtain ⟨hb3, q3⟩ := bN hb2 hw3
   clear hw3 r1_2 c1_2 z1_2 hb2
   go_wp2_with fail
   refine (l02SumsI_any p n f m _ hp hp' hn HF.out hlt2 hn0 b1).mono ?_; rintro _ W4 ⟨rfl, hw4⟩
   obtain ⟨r1_4, c1_4, z1_4⟩ := keepZ hw4 z1_3 r1_3 c1_3
   obtain ⟨hb4, q4⟩ := bN hb3 hw4
   clear hw4 r1_3 c1_3 z1_3 hb3
   go_wp2
   go_roundw
   case rel => exact ⟨m + 1, by omega, by go_num, bt, ⟨by simp [go_sem, r1_4, c1_4], (by rw [E1_2.out]; first | exact c1_4 | (simp [go_sem, r1_4, c1_4]; done))⟩⟩
   case measure => simp [intOf]; omega
  ·
   have hend2 : m = n * n * n * n := by omega
   have y4 : ¬ (m : Int) < (n : Int) * n * n * n := not_lt4 hlt2
   go_wp2_with fail
   go_ret2
   exact ⟨rfl, bt⟩

set_option maxRecDepth 100000 in
set_option maxHeartbeats 1000000 in
theorem l02Fault_some (p : Int) (n : Nat) (f : Nat → Int) (m0 : Nat) (w : World) (hp : 0 < p) (hp' : p ≤ 255) (hn : n ≤ 8) (hF : Bytes 520 f) (hfi : FirstCo p n f m0) :
    Calls Tryz.prog 169 #[.agg (alg p n f)] w fun e w' => ∃ b, e = .returned (.tuple #[.slice (some ⟨b, 0, none⟩) 4 4, .bool true]) ∧ Below w.heap.size w w' ∧ w.heap.size ≤ b ∧ IsRow w' b ∧ blk w' b = nums 4 (q4 n m0) := by
 have HF := Lib.hid hF; clear hF
 have Hfi := Lib.hid hfi; clear hfi
 go_enter Tryz.func169, Tryz.ntmps169
 go_wp2
 refine atomW fun W1 e1 => ?_
 have hb1 : Below w.heap.size w W1 := by rw [e1]; exact bt
 have q1 := hb1.size
 have r1_1 : IsRow W1 (w.heap.size) := by rw [e1]; simp [go_sem]
 have c1_1 := congrArg (fun x => blk x (w.heap.size)) e1; simp [go_sem] at c1_1
 have z1_1 := isRow_lt r1_1
 clear e1
 have x1 := (pows hn).1; have x2 := (pows hn).2.1; have x3 := (pows hn).2.2.1; have x4 := (pows hn).2.2.2.1; have x5 := (pows hn).2.2.2.2.1; have x6 := (pows hn).2.2.2.2.2
 go_loopw [5] (fun s5 wr => ∃ m : Nat, m ≤ n * n * n * n ∧ s5 = .int .i64 m ∧ Below w.heap.size w wr ∧ (IsRow wr (w.heap.size) ∧ blk wr (w.heap.size) = blk W1 (w.heap.size)) ∧ m ≤ m0) (fun s5 _ => n * n * n * n - (intOf s5).toNat)
 case atStart => exact ⟨0, by omega, rfl, hb1, ⟨r1_1, rfl⟩, Nat.zero_le _⟩
 case round =>
  obtain ⟨m, hle2, rfl, hb2, ⟨r1_2, c1_2⟩, hx2⟩ := hrel
  obtain ⟨W2, rfl⟩ : ∃ W2 : World, W2 = wr := ⟨_, rfl⟩
  have q2 := hb2.size
  have HX2 := Lib.hid hx2; clear hx2
  have E1_2 := Lib.hid c1_1; replace c1_2 := c1_2.trans c1_1
  have z1_2 := isRow_lt r1_2
  clear r1_1 c1_1 z1_1 hb1
  by_cases hlt2 : m < n * n * n * n
  ·
   cases h0 : cofM p n f m
   ·
    have hn0 : 0 < n := pos_of hlt2
    have y1 : (0 : Int) < (n : Int) * n := by have := Int.ofNat_lt.2 (pow_pos' hn0).1; simpa using this
    have y2 : (0 : Int) < (n : Int) * n * n := by have := Int.ofNat_lt.2 (pow_pos' hn0).2; simpa using this
    have y3 : (0 : Int) < (n : Int) := by omega
    have y4 : (m : Int) < (n : Int) * n * n * n := by have := Int.ofNat_lt.2 hlt2; simpa using this
    have z1 : ¬ ((n : Int) * n = 0) := by omega
    have z2 : ¬ ((n : Int) * n * n = 0) := by omega
    have z3 : ¬ ((n : Int) = 0) := by omega
    have d1 : (0 : Int) ≤ (m : Int) / ((n : Int) * n) := Int.ediv_nonneg (by omega) (by omega)
    have d2 : (0 : Int) ≤ (m : Int) / (n : Int) := Int.ediv_nonneg (by omega) (by omega)
    have e1 : (m : Int) / ((n : Int) * n) ≤ m := Int.ediv_le_self _ (by omega)
    have e2 : (m : Int) / (n : Int) ≤ m := Int.ediv_le_self _ (by omega)
    have e3 : (m : Int) / ((n : Int) * n * n) ≤ m := Int.ediv_le_self _ (by omega)
    have e4 : (0 : Int) ≤ (m : Int) / ((n : Int) * n * n) := Int.ediv_nonneg (by omega) (by omega)
    have qa : IntKind.i64.wrap ((n : Int) * n) = (n : Int) * n := IntWalk.i64_in _ (by omega)
    have qb : IntKind.i64.wrap ((n : Int) * n * n) = (n : Int) * n * n := IntWalk.i64_in _ (by omega)
    have qc : IntKind.i64.wrap ((m : Int) / ((n : Int) * n)) = (m : Int) / ((n : Int) * n) := IntWalk.i64_in _ (by omega)
    have qd : IntKind.i64.wrap ((m : Int) / (n : Int)) = (m : Int) / (n : Int) := IntWalk.i64_in _ (by omega)
    have qe : IntKind.i64.wrap ((m : Int) / ((n : Int) * n * n)) = (m : Int) / ((n : Int) * n * n) := IntWalk.i64_in _ (by omega)
    have nz : ¬ n = 0 := by omega
    have t1 : ((m : Int) / ((n : Int) * n)).tmod n = (m : Int) / ((n : Int) * n) % n := Int.tmod_eq_emod_of_nonneg d1
    have t2 : ((m : Int) / (n : Int)).tmod n = (m : Int) / (n : Int) % n := Int.tmod_eq_emod_of_nonneg d2
    have t3 : (m : Int).tmod n = (m : Int) % n := Int.tmod_eq_emod_of_nonneg (by omega)
    have b1 := div_lt_n hlt2; have b2 := Nat.mod_lt (m / (n * n)) hn0; have b3 := Nat.mod_lt (m / n) hn0; have b4 := Nat.mod_lt m hn0
    have h1 : (coL p f (m / (n * n * n)) (m / (n * n) % n) (m / n % n) n (m % n) != coR p f (m / (n * n * n)) (m / (n * n) % n) (m / n % n) n (m % n)) = false := h0
    have h2 : Hid (m + 1 ≤ m0) := Lib.hid (first_more (q := cofM p n f) HX2.out Hfi.out.2.1 h0)
    clear h0
    go_wp2
    refine wp_quiet_all (Below W2.heap.size W2) (by kernel_rfl) (by kernel_rfl) (Below.refl _ _).drew ?_
    iterate 26 (refine q_plain rfl ?_; apply Exists.intro; refine ⟨fun W hW => ?_, ?_⟩; (focus (obtain ⟨x1, y1⟩ := keepB hW z1_2 r1_2 c1_2; go_simp; first | done | rfl)); simp only [Act.put, List.setIfInBounds_toArray, List.set_cons_zero, List.set_cons_succ])
    refine wpQuiet_nil ?_
    intro W3 hw3
    obtain ⟨r1_3, c1_3, z1_3⟩ := keepZ hw3 z1_2 r1_2 c1_2
    obtain ⟨hb3, q3⟩ := bN hb2 hw3
    clear hw3 r1_2 c1_2 z1_2 hb2
    go_wp2_with fail
    refine (l02SumsI_any p n f m _ hp hp' hn HF.out hlt2 hn0 b1).mono ?_; rintro _ W4 ⟨rfl, hw4⟩
    obtain ⟨r1_4, c1_4, z1_4⟩ := keepZ hw4 z1_3 r1_3 c1_3
    obtain ⟨hb4, q4⟩ := bN hb3 hw4
    clear hw4 r1_3 c1_3 z1_3 hb3
    go_wp2
    go_roundw
    case rel => exact ⟨m + 1, by omega, by go_num, bt, ⟨by simp [go_sem, r1_4, c1_4], (by rw [E1_2.out]; first | exact c1_4 | (simp [go_sem, r1_4, c1_4]; done))⟩, h2.out⟩
    case measure => simp [intOf]; omega
   ·
    have hn0 : 0 < n := pos_of hlt2
    have y1 : (0 : Int) < (n : Int) * n := by have := Int.ofNat_lt.2 (pow_pos' hn0).1; simpa using this
    have y2 : (0 : Int) < (n : Int) * n * n := by have := Int.ofNat_lt.2 (pow_pos' hn0).2; simpa using this
    have y3 : (0 : Int) < (n : Int) := by omega
    have y4 : (m : Int) < (n : Int) * n * n * n := by have := Int.ofNat_lt.2 hlt2; simpa using this
    have z1 : ¬ ((n : Int) * n = 0) := by omega
    have z2 : ¬ ((n : Int) * n * n = 0) := by omega
    have z3 : ¬ ((n : Int) = 0) := by omega
    have d1 : (0 : Int) ≤ (m : Int) / ((n : Int) * n) := Int.ediv_nonneg (by omega) (by omega)
    have d2 : (0 : Int) ≤ (m : Int) / (n : Int) := Int.ediv_nonneg (by omega) (by omega)
    have e1 : (m : Int) / ((n : Int) * n) ≤ m := Int.ediv_le_self _ (by omega)
    have e2 : (m : Int) / (n : Int) ≤ m := Int.ediv_le_self _ (by omega)
    have e3 : (m : Int) / ((n : Int) * n * n) ≤ m := Int.ediv_le_self _ (by omega)
    have e4 : (0 : Int) ≤ (m : Int) / ((n : Int) * n * n) := Int.ediv_nonneg (by omega) (by omega)
    have qa : IntKind.i64.wrap ((n : Int) * n) = (n : Int) * n := IntWalk.i64_in _ (by omega)
    have qb : IntKind.i64.wrap ((n : Int) * n * n) = (n : Int) * n * n := IntWalk.i64_in _ (by omega)
    have qc : IntKind.i64.wrap ((m : Int) / ((n : Int) * n)) = (m : Int) / ((n : Int) * n) := IntWalk.i64_in _ (by omega)
    have qd : IntKind.i64.wrap ((m : Int) / (n : Int)) = (m : Int) / (n : Int) := IntWalk.i64_in _ (by omega)
    have qe : IntKind.i64.wrap ((m : Int) / ((n : Int) * n * n)) = (m : Int) / ((n : Int) * n * n) := IntWalk.i64_in _ (by omega)
    have nz : ¬ n = 0 := by omega
    have t1 : ((m : Int) / ((n : Int) * n)).tmod n = (m : Int) / ((n : Int) * n) % n := Int.tmod_eq_emod_of_nonneg d1
    have t2 : ((m : Int) / (n : Int)).tmod n = (m : Int) / (n : Int) % n := Int.tmod_eq_emod_of_nonneg d2
    have t3 : (m : Int).tmod n = (m : Int) % n := Int.tmod_eq_emod_of_nonneg (by omega)
    have b1 := div_lt_n hlt2; have b2 := Nat.mod_lt (m / (n * n)) hn0; have b3 := Nat.mod_lt (m / n) hn0; have b4 := Nat.mod_lt m hn0
    have h1 : (coL p f (m / (n * n * n)) (m / (n * n) % n) (m / n % n) n (m % n) != coR p f (m / (n * n * n)) (m / (n * n) % n) (m / n % n) n (m % n)) = true := h0
    have h2 : Hid (m0 = m) := Lib.hid (first_here (q := cofM p n f) HX2.out Hfi.out.2.2 h0)
    clear h0
    go_wp2
    refine wp_quiet_all (Below W2.heap.size W2) (by kernel_rfl) (by kernel_rfl) (Below.refl _ _).drew ?_
    iterate 26 (refine q_plain rfl ?_; apply Exists.intro; refine ⟨fun W hW => ?_, ?_⟩; (focus (obtain ⟨x1, y1⟩ := keepB hW z1_2 r1_2 c1_2; go_simp; first | done | rfl)); simp only [Act.put, List.setIfInBounds_toArray, List.set_cons_zero, List.set_cons_succ])
    refine wpQuiet_nil ?_
    intro W5 hw5
    obtain ⟨r1_5, c1_5, z1_5⟩ := keepZ hw5 z1_2 r1_2 c1_2
    obtain ⟨hb5, q5⟩ := bN hb2 hw5
    clear hw5 r1_2 c1_2 z1_2 hb2
    go_wp2_with fail
    refine (l02SumsI_any p n f m _ hp hp' hn HF.out hlt2 hn0 b1).mono ?_; rintro _ W6 ⟨rfl, hw6⟩
    obtain ⟨r1_6, c1_6, z1_6⟩ := keepZ hw6 z1_5 r1_5 c1_5
    obtain ⟨hb6, q6⟩ := bN hb5 hw6
    clear hw6 r1_5 c1_5 z1_5 hb5
    have nw1_W6_0 : (w.heap.size) ≠ W6.heap.size := by omega
    go_wp2_with fail
    go_ret2
    refine ⟨_, rfl, bt, ?_, ?_, ?_⟩
    · first | omega | (simp; omega)
    · simp [go_sem, r1_6, c1_6]
    · rw [h2.out]; unfold q4; rw [← t4_nums]; simp [go_sem, r1_6, c1_6]
  ·
   have hend2 : m = n * n * n * n := by omega
   exact absurd Hfi.out.1 (by have := HX2.out; omega)
end
section
open Go.RowKit
set_option linter.unusedSimpArgs false
set_option linter.unusedVariables false
attribute [local irreducible] wpQuiet wpQE

/-! ### entries of a shaped algebra or coalgebra -/
theorem shape_parts {p n : Int} {f : Nat → Int} (h : shapeB p n f = true) : sizesB p n = true ∧ vecB p n f = true ∧ tabB p n (tab f) = true := by
  unfold shapeB at h
  simp only [Bool.and_eq_true] at h
  exact ⟨h.1, h.2.1, h.2.2⟩
theorem shape_unit {p n : Int} {f : Nat → Int} (h : shapeB p n f = true) (i : Nat) (hi : i < 8) : f i < p ∧ ((i : Int) < n ∨ f i = 0) := (vecB_iff p n f).1 (shape_parts h).2.1 i hi
theorem shape_entry {p n : Int} {f : Nat → Int} (h : shapeB p n f = true) (i j k : Nat) (hi : i < 8) (hj : j < 8) (hk : k < 8) : mtab f i j k < p ∧ (((i : Int) < n ∧ (j : Int) < n ∧ (k : Int) < n) ∨ mtab f i j k = 0) := by
  obtain ⟨hs, _, ht⟩ := shape_parts h
  have h1 := all_get ht i hi
  unfold entT at h1
  simp only [Bool.and_eq_true, Bool.or_eq_true, decide_eq_true_eq] at h1
  have h2 := all_get h1.1 j hj
  unfold entL at h2
  simp only [Bool.and_eq_true, Bool.or_eq_true, decide_eq_true_eq] at h2
  have h3 := (vecB_iff p n _).1 h2.1 k hk
  have e : rowOf 8 (rowOf 64 (tab f) i) j k = mtab f i j k := rfl
  rw [e] at h3
  refine ⟨h3.1, ?_⟩
  rcases h1.2 with a | a
  · rcases h2.2 with b | b
    · rcases h3.2 with c | c
      · exact .inl ⟨a, b, c⟩
      · exact .inr c
    · have := (segEq_iff 0 8 _ _).1 b k hk
      rw [Nat.zero_add] at this
      exact .inr this
  · have := (segEq_iff 0 64 _ _).1 a (j * 8 + k) (by omega)
    rw [Nat.zero_add] at this
    exact .inr this
theorem sumTo_more {g : Nat → Int} {n : Nat} (h : ∀ i, n ≤ i → i < 8 → g i = 0) (hn : n ≤ 8) : sumTo g 8 = sumTo g n := by
  have key : ∀ k, n + k ≤ 8 → sumTo g (n + k) = sumTo g n := by
    intro k
    induction k with
    | zero => exact fun _ => rfl
    | succ k ih => intro hk; rw [← Nat.add_assoc, sumTo, ih (by omega), h (n + k) (by omega) (by omega), Int.add_zero]
  have := key (8 - n) (by omega)
  rwa [show n + (8 - n) = 8 by omega] at this

theorem alg_cuq (p n : Int) (f : Nat → Int) (i : Nat) (hi : i < 8) : (alg p n f)[2 + i]? = some (.int .u8 (f i)) := by rw [alg_get p n f _ (by omega) (by omega), Nat.add_sub_cancel_left]
/-! ### the counit by the reference model -/
def cuRs (p : Int) (f : Nat → Int) (i n j : Nat) : Nat → Int := fun t => if t < j then cuR p f i n t else 0
def cuSAt (p : Int) (n : Nat) (f : Nat → Int) (i : Nat) : Bool := segEq 0 8 (cuL p f i n) (ebas i) && segEq 0 8 (cuRs p f i n n) (ebas i)
def cuSB (p : Int) (n : Nat) (f : Nat → Int) : Bool := (List.range n).all (cuSAt p n f)
theorem cuL_zero (p : Int) (f : Nat → Int) (i : Nat) : row 8 zf = row 8 (cuL p f i 0) := app_start p (mtab f i) f
theorem cuL_step (p : Int) (f : Nat → Int) (i j : Nat) : row 8 (addm p 0 8 (f j) (cuL p f i j) (mtab f i j)) = row 8 (cuL p f i (j + 1)) := addm_row fun t _ => app_step p j (mtab f i) f t
theorem cuRs_zero (p : Int) (f : Nat → Int) (i n : Nat) : row 8 zf = row 8 (cuRs p f i n 0) := row_congr fun t _ => by unfold cuRs zf; rw [if_neg (by omega)]
theorem cuRs_step (p : Int) (f : Nat → Int) (i n j : Nat) : row 8 (upd (cuRs p f i n j) j (cuR p f i n j)) = row 8 (cuRs p f i n (j + 1)) := row_congr fun t _ => by
  unfold upd cuRs
  by_cases e : t = j
  · subst e; rw [if_pos rfl, if_pos (by omega)]
  · rw [if_neg e]
    by_cases h : t < j
    · rw [if_pos h, if_pos (by omega)]
    · rw [if_neg h, if_neg (by omega)]
theorem cuL_bytes {p : Int} (hp : 0 < p) (hp' : p ≤ 255) (f : Nat → Int) (i n : Nat) : Bytes 8 (cuL p f i n) := bytes_mod hp hp' _
theorem dotM_range {f : Nat → Int} (h : Bytes 520 f) (i j : Nat) (hi : i < 8) (hj : j < 8) (m : Nat) (hm : m ≤ 8) : 0 ≤ dotF m f (mtab f i j) ∧ dotF m f (mtab f i j) ≤ 65025 * m :=
  dot_range 8 (unit_bytes h) (mtab_bytes h i j hi hj) m hm
theorem cuR_dot (p : Int) (f : Nat → Int) (i n j : Nat) : dotF n f (mtab f i j) % p = cuR p f i n j := rfl
theorem cuS_eq {p : Int} {n : Nat} {f : Nat → Int} (hn : n ≤ 8) (h : shapeB p n f = true) : cuSB p n f = cuB p n f := by
  have hz : ∀ i, n ≤ i → i < 8 → f i = 0 := fun i h1 h2 => by have := (shape_unit h i h2).2; omega
  unfold cuSB cuB
  rw [Bool.eq_iff_iff, List.all_eq_true, List.all_eq_true]
  have e : ∀ i, i < n → cuSAt p n f i = cuAt p f i := fun i hi => by
    unfold cuSAt cuAt
    have e1 : segEq 0 8 (cuL p f i n) (ebas i) = segEq 0 8 (cuL p f i 8) (ebas i) := segEq_congr fun t _ => by
      unfold cuL appF
      rw [sumTo_more (n := n) (fun j h1 h2 => by rw [hz j h1 h2, Int.zero_mul]) hn]
    have e2 : segEq 0 8 (cuRs p f i n n) (ebas i) = segEq 0 8 (cuR p f i 8) (ebas i) := segEq_congr fun t ht => by
      unfold cuRs
      split
      · unfold cuR appF
        rw [sumTo_more (n := n) (fun j h1 h2 => by rw [hz j h1 h2, Int.zero_mul]) hn]
      · rename_i hlt
        unfold cuR appF
        rw [sumTo_zero 8 fun j hj => by
          have := (shape_entry h i t j (by omega) ht hj).2
          show f j * mtab f i t j = 0
          rw [show mtab f i t j = 0 by omega, Int.mul_zero]]
        rfl
    rw [e1, e2]
  constructor <;> intro k x hx <;> have := k x hx <;> have hx' : x < n := by simpa using hx
  · rw [← e x hx']; exact this
  · rw [e x hx']; exact this

set_option maxRecDepth 100000 in
set_option maxHeartbeats 4000000 in
theorem l02Counits_any (p : Int) (n : Nat) (f : Nat → Int) (w : World) (hp : 0 < p) (hp' : p ≤ 255) (hn : n ≤ 8) (hF : Bytes 520 f) :
    Calls Tryz.prog 170 #[.agg (alg p n f)] w fun e w' => e = .returned (.bool (cuSB p n f)) ∧ Below w.heap.size w w' := by
 have HF := Lib.hid hF; clear hF
 go_enter Tryz.func170, Tryz.ntmps170
 go_wp2
 refine atomW fun W1 e1 => ?_
 have hb1 : Below w.heap.size w W1 := by rw [e1]; exact bt
 have q1 := hb1.size
 have r1_1 : IsRow W1 (w.heap.size) := by rw [e1]; simp [go_sem]
 have c1_1 := congrArg (fun x => blk x (w.heap.size)) e1; simp [go_sem] at c1_1
 have z1_1 := isRow_lt r1_1
 clear e1
 go_loopw [3] (fun s3 wr => ∃ i : Nat, i ≤ n ∧ s3 = .int .i64 i ∧ Below w.heap.size w wr ∧ (IsRow wr (w.heap.size) ∧ blk wr (w.heap.size) = blk W1 (w.heap.size)) ∧ ∀ a, a < i → cuSAt p n f a = true) (fun s3 _ => n - (intOf s3).toNat)
 case atStart => exact ⟨0, by omega, rfl, hb1, ⟨r1_1, rfl⟩, fun a ha => by omega⟩
 case round =>
  obtain ⟨i, hle2, rfl, hb2, ⟨r1_2, c1_2⟩, hx2⟩ := hrel
  obtain ⟨W2, rfl⟩ : ∃ W2 : World, W2 = wr := ⟨_, rfl⟩
  have q2 := hb2.size
  have HX2 := Lib.hid hx2; clear hx2
  have E1_2 := Lib.hid c1_1; replace c1_2 := c1_2.trans c1_1
  have z1_2 := isRow_lt r1_2
  clear r1_1 c1_1 z1_1 hb1
  by_cases hlt2 : i < n
  ·
   have i0_2 : (0 : Int) ≤ (i : Int) := by omega
   have i8_2 : (i : Int) < 8 := by omega
   have k8_2 : i < 8 := by omega
   have m8_2 : i * 8 + 8 ≤ 64 := by omega
   have m64_2 : i * 64 + 64 ≤ 512 := by omega
   have l1_2 : 10 + i * 64 + 64 ≤ 522 := by omega
   cases hu1 : segEq 0 8 (cuL p f i n) (ebas i)
   ·
    have H : Hid (cuSB p n f = false) := Lib.hid (all_no (q := cuSAt p n f) i n (by omega) (by unfold cuSAt; rw [hu1]; rfl))
    go_wp2
    have nw1_W2_0 : (w.heap.size) ≠ W2.heap.size := by omega
    have nw1_W2_1 : (w.heap.size) ≠ W2.heap.size + 1 := by omega
    refine atomW fun W3 e3 => ?_
    have hb3 : Below w.heap.size w W3 := by rw [e3]; exact bt
    have q3 := hb3.size
    have r1_3 : IsRow W3 (w.heap.size) := by rw [e3]; simp [go_sem, r1_2, c1_2, nw1_W2_0, nw1_W2_1]
    have c1_3 := congrArg (fun x => blk x (w.heap.size)) e3; simp [go_sem, r1_2, c1_2, nw1_W2_0, nw1_W2_1] at c1_3
    have z1_3 := isRow_lt r1_3
    have r4_3 : IsRow W3 (W2.heap.size) := by rw [e3]; simp [go_sem, r1_2, c1_2, nw1_W2_0, nw1_W2_1]
    have c4_3 := congrArg (fun x => blk x (W2.heap.size)) e3; simp [go_sem, r1_2, c1_2, nw1_W2_0, nw1_W2_1] at c4_3
    have z4_3 := isRow_lt r4_3
    have r5_3 : IsRow W3 (W2.heap.size + 1) := by rw [e3]; simp [go_sem, r1_2, c1_2, nw1_W2_0, nw1_W2_1]
    have c5_3 := congrArg (fun x => blk x (W2.heap.size + 1)) e3; simp [go_sem, r1_2, c1_2, nw1_W2_0, nw1_W2_1] at c5_3
    have z5_3 := isRow_lt r5_3
    have n1_4 : (w.heap.size) ≠ (W2.heap.size) := by omega
    have n1_5 : (w.heap.size) ≠ (W2.heap.size + 1) := by omega
    have n4_1 : (W2.heap.size) ≠ (w.heap.size) := by omega
    have n5_1 : (W2.heap.size + 1) ≠ (w.heap.size) := by omega
    clear e3 nw1_W2_0 nw1_W2_1 r1_2 c1_2 z1_2 hb2
    go_loopw [6] (fun s6 wr => ∃ j : Nat, j ≤ n ∧ s6 = .int .i64 j ∧ Below w.heap.size w wr ∧ (IsRow wr (w.heap.size) ∧ blk wr (w.heap.size) = blk W3 (w.heap.size)) ∧ (IsRow wr (W2.heap.size) ∧ blk wr (W2.heap.size) = row 8 (cuL p f i j)) ∧ (IsRow wr (W2.heap.size + 1) ∧ blk wr (W2.heap.size + 1) = row 8 (cuRs p f i n j))) (fun s6 _ => n - (intOf s6).toNat)
    case atStart => exact ⟨0, by omega, rfl, hb3, ⟨r1_3, rfl⟩, ⟨r4_3, c4_3.trans (cuL_zero p f i)⟩, ⟨r5_3, c5_3.trans (cuRs_zero p f i n)⟩⟩
    case round =>
     obtain ⟨j, hle4, rfl, hb4, ⟨r1_4, c1_4⟩, ⟨r4_4, c4_4⟩, ⟨r5_4, c5_4⟩⟩ := hrel
     obtain ⟨W4, rfl⟩ : ∃ W4 : World, W4 = wr := ⟨_, rfl⟩
     have q4 := hb4.size
     have E1_4 := Lib.hid c1_3; replace c1_4 := c1_4.trans c1_3
     have z1_4 := isRow_lt r1_4
     have z4_4 := isRow_lt r4_4
     have z5_4 := isRow_lt r5_4
     clear r1_3 c1_3 z1_3 r4_3 c4_3 z4_3 r5_3 c5_3 z5_3 hb3
     by_cases hlt4 : j < n
     ·
      have i0_4 : (0 : Int) ≤ (j : Int) := by omega
      have i8_4 : (j : Int) < 8 := by omega
      have k8_4 : j < 8 := by omega
      have m8_4 : j * 8 + 8 ≤ 64 := by omega
      have m64_4 : j * 64 + 64 ≤ 512 := by omega
      have l1_4 : 10 + j * 64 + 64 ≤ 522 := by omega
      have l2_4i : 10 + i * 64 + j * 8 + 8 ≤ 522 := by omega
      have l3_4i : 10 + j * 64 + i * 8 + 8 ≤ 522 := by omega
      have l4_4i : i * 64 + j * 8 + 8 ≤ 512 := by omega
      have l5_4i : j * 64 + i * 8 + 8 ≤ 512 := by omega
      have l6_4i : i * 8 + j < 64 := by omega
      have l7_4i : j * 8 + i < 64 := by omega
      have HU : Hid (Bytes 8 f) := Lib.hid (unit_bytes HF.out)
      have b1 := (HU.out j (by omega)).1; have b2 := (HU.out j (by omega)).2; have e9 := alg_cuq p n f j (by omega); have e8 := alg_at8 p n f i j (by omega) (by omega)
      have HA : Hid (Bytes 8 (cuL p f i j)) := Lib.hid (cuL_bytes hp hp' f i j)
      have HB : Hid (Bytes 8 (mtab f i j)) := Lib.hid (mtab_bytes HF.out i j (by omega) (by omega))
      have q1 : IntKind.i64.wrap (f j) = f j := IntWalk.i64_in _ (by omega)
      go_wp2
      refine wp_quiet_tail 15 (Below W4.heap.size W4) (by kernel_rfl) (by kernel_rfl) (Below.refl _ _).drew ?_
      simp only [List.take_succ_cons, List.take_zero, List.drop_succ_cons, List.drop_zero]
      iterate 14 (refine q_plain rfl ?_; apply Exists.intro; refine ⟨fun W hW => ?_, ?_⟩; (focus (obtain ⟨x1, y1⟩ := keepB hW z1_4 r1_4 c1_4; obtain ⟨x4, y4⟩ := keepB hW z4_4 r4_4 c4_4; obtain ⟨x5, y5⟩ := keepB hW z5_4 r5_4 c5_4; go_simp; first | done | rfl)); simp only [Act.put, List.setIfInBounds_toArray, List.set_cons_zero, List.set_cons_succ])
      (refine q_plain rfl ?_; apply Exists.intro; refine ⟨fun W hW => ?_, ?_⟩; (focus (obtain ⟨x1, y1⟩ := keepB hW z1_4 r1_4 c1_4; obtain ⟨x4, y4⟩ := keepB hW z4_4 r4_4 c4_4; obtain ⟨x5, y5⟩ := keepB hW z5_4 r5_4 c5_4; go_simp; (go_at_call 66; exact (l01Add_any _ _ _ _ _ hp hp' (by omega) (by omega) HA.out HB.out).mono fun e w2 ⟨he, hw2⟩ => ⟨he, hW.trans (hw2.mono hW.size)⟩))); simp only [Act.put, List.setIfInBounds_toArray, List.set_cons_zero, List.set_cons_succ])
      refine wpQuiet_nil ?_
      intro W5 hw5
      obtain ⟨r1_5, c1_5, z1_5⟩ := keepZ hw5 z1_4 r1_4 c1_4
      obtain ⟨r4_5, c4_5, z4_5⟩ := keepZ hw5 z4_4 r4_4 c4_4
      obtain ⟨r5_5, c5_5, z5_5⟩ := keepZ hw5 z5_4 r5_4 c5_4
      obtain ⟨hb5, q5⟩ := bN hb4 hw5
      clear hw5 r1_4 c1_4 z1_4 r4_4 c4_4 z4_4 r5_4 c5_4 z5_4 hb4
      go_wp2
      refine atomW fun W6 e6 => ?_
      have hb6 : Below w.heap.size w W6 := by rw [e6]; exact bt
      have q6 := hb6.size
      have r1_6 : IsRow W6 (w.heap.size) := by rw [e6]; simp [go_sem, r1_5, c1_5, n1_4, n1_5, r4_5, c4_5, n4_1, r5_5, c5_5, n5_1]
      have c1_6 := congrArg (fun x => blk x (w.heap.size)) e6; simp [go_sem, r1_5, c1_5, n1_4, n1_5, r4_5, c4_5, n4_1, r5_5, c5_5, n5_1] at c1_6
      have z1_6 := isRow_lt r1_6
      have r4_6 : IsRow W6 (W2.heap.size) := by rw [e6]; simp [go_sem, r1_5, c1_5, n1_4, n1_5, r4_5, c4_5, n4_1, r5_5, c5_5, n5_1]
      have c4_6 := congrArg (fun x => blk x (W2.heap.size)) e6; simp [go_sem, r1_5, c1_5, n1_4, n1_5, r4_5, c4_5, n4_1, r5_5, c5_5, n5_1] at c4_6
      have z4_6 := isRow_lt r4_6
      have r5_6 : IsRow W6 (W2.heap.size + 1) := by rw [e6]; simp [go_sem, r1_5, c1_5, n1_4, n1_5, r4_5, c4_5, n4_1, r5_5, c5_5, n5_1]
      have c5_6 := congrArg (fun x => blk x (W2.heap.size + 1)) e6; simp [go_sem, r1_5, c1_5, n1_4, n1_5, r4_5, c4_5, n4_1, r5_5, c5_5, n5_1] at c5_6
      have z5_6 := isRow_lt r5_6
      clear e6 r1_5 c1_5 z1_5 r4_5 c4_5 z4_5 r5_5 c5_5 z5_5 hb5
      go_loopw [7, 8] (fun s7 s8 wr => ∃ k : Nat, k ≤ n ∧ s7 = .int .i64 (dotF k f (mtab f i j)) ∧ s8 = .int .i64 k ∧ Below w.heap.size w wr ∧ (IsRow wr (w.heap.size) ∧ blk wr (w.heap.size) = blk W6 (w.heap.size)) ∧ (IsRow wr (W2.heap.size) ∧ blk wr (W2.heap.size) = blk W6 (W2.heap.size)) ∧ (IsRow wr (W2.heap.size + 1) ∧ blk wr (W2.heap.size + 1) = blk W6 (W2.heap.size + 1))) (fun _ s8 _ => n - (intOf s8).toNat)
      case atStart => exact ⟨0, by omega, (by first | rfl | (simp; done) | go_num), rfl, hb6, ⟨r1_6, rfl⟩, ⟨r4_6, rfl⟩, ⟨r5_6, rfl⟩⟩
      case round =>
       obtain ⟨k, hle7, rfl, rfl, hb7, ⟨r1_7, c1_7⟩, ⟨r4_7, c4_7⟩, ⟨r5_7, c5_7⟩⟩ := hrel
       obtain ⟨W7, rfl⟩ : ∃ W7 : World, W7 = wr := ⟨_, rfl⟩
       have q7 := hb7.size
       have E1_7 := Lib.hid c1_6; replace c1_7 := c1_7.trans c1_6
       have z1_7 := isRow_lt r1_7
       have E4_7 := Lib.hid c4_6; replace c4_7 := c4_7.trans c4_6
       have z4_7 := isRow_lt r4_7
       have E5_7 := Lib.hid c5_6; replace c5_7 := c5_7.trans c5_6
       have z5_7 := isRow_lt r5_7
       clear r1_6 c1_6 z1_6 r4_6 c4_6 z4_6 r5_6 c5_6 z5_6 hb6
       have d1 := (dotM_range HF.out i j (by omega) (by omega) k (by omega)).1; have d2 := (dotM_range HF.out i j (by omega) (by omega) k (by omega)).2
       by_cases hlt7 : k < n
       ·
        have i0_7 : (0 : Int) ≤ (k : Int) := by omega
        have i8_7 : (k : Int) < 8 := by omega
        have k8_7 : k < 8 := by omega
        have m8_7 : k * 8 + 8 ≤ 64 := by omega
        have m64_7 : k * 64 + 64 ≤ 512 := by omega
        have l1_7 : 10 + k * 64 + 64 ≤ 522 := by omega
        have l2_7i : 10 + i * 64 + k * 8 + 8 ≤ 522 := by omega
        have l3_7i : 10 + k * 64 + i * 8 + 8 ≤ 522 := by omega
        have l4_7i : i * 64 + k * 8 + 8 ≤ 512 := by omega
        have l5_7i : k * 64 + i * 8 + 8 ≤ 512 := by omega
        have l6_7i : i * 8 + k < 64 := by omega
        have l7_7i : k * 8 + i < 64 := by omega
        have l2_7j : 10 + j * 64 + k * 8 + 8 ≤ 522 := by omega
        have l3_7j : 10 + k * 64 + j * 8 + 8 ≤ 522 := by omega
        have l4_7j : j * 64 + k * 8 + 8 ≤ 512 := by omega
        have l5_7j : k * 64 + j * 8 + 8 ≤ 512 := by omega
        have l6_7j : j * 8 + k < 64 := by omega
        have l7_7j : k * 8 + j < 64 := by omega
        have b3 := (HU.out k (by omega)).1; have b4 := (HU.out k (by omega)).2; have b5 := mtab_range HF.out i j k (by omega) (by omega) (by omega); have e7 := alg_cu p n f k (by omega); have e6 := alg_el p n f i j k (by omega) (by omega) (by omega); have b6 := prod_range ⟨b3, b4⟩ b5; have e5 := alg_at p n f i j k (by omega) (by omega) (by omega)
        have e4 := alg_cuq p n f k (by omega)
        have q2 : IntKind.i64.wrap (f k) = f k := IntWalk.i64_in _ (by omega)
        have q3 : IntKind.i64.wrap (mtab f i j k) = mtab f i j k := IntWalk.i64_in _ (by omega)
        have q4 : IntKind.i64.wrap (f k * mtab f i j k) = f k * mtab f i j k := IntWalk.i64_in _ (by omega)
        have q5 : IntKind.i64.wrap (dotF k f (mtab f i j) + f k * mtab f i j k) = dotF k f (mtab f i j) + f k * mtab f i j k := IntWalk.i64_in _ (by omega)
        go_wp2
        refine wp_quiet_all (Below W7.heap.size W7) (by kernel_rfl) (by kernel_rfl) (Below.refl _ _).drew ?_
        iterate 18 (refine q_plain rfl ?_; apply Exists.intro; refine ⟨fun W hW => ?_, ?_⟩; (focus (obtain ⟨x1, y1⟩ := keepB hW z1_7 r1_7 c1_7; obtain ⟨x4, y4⟩ := keepB hW z4_7 r4_7 c4_7; obtain ⟨x5, y5⟩ := keepB hW z5_7 r5_7 c5_7; go_simp; first | done | rfl)); simp only [Act.put, List.setIfInBounds_toArray, List.set_cons_zero, List.set_cons_succ])
        refine wpQuiet_nil ?_
        intro W8 hw8
        obtain ⟨r1_8, c1_8, z1_8⟩ := keepZ hw8 z1_7 r1_7 c1_7
        obtain ⟨r4_8, c4_8, z4_8⟩ := keepZ hw8 z4_7 r4_7 c4_7
        obtain ⟨r5_8, c5_8, z5_8⟩ := keepZ hw8 z5_7 r5_7 c5_7
        obtain ⟨hb8, q8⟩ := bN hb7 hw8
        clear hw8 r1_7 c1_7 z1_7 r4_7 c4_7 z4_7 r5_7 c5_7 z5_7 hb7
        go_wp2
        go_roundw
        case rel => exact ⟨k + 1, by omega, (by first | rfl | go_num | (simp; done)), by go_num, bt, ⟨by simp [go_sem, r1_8, c1_8, n1_4, n1_5, r4_8, c4_8, n4_1, r5_8, c5_8, n5_1], (by rw [E1_7.out]; first | exact c1_8 | (simp [go_sem, r1_8, c1_8, n1_4, n1_5, r4_8, c4_8, n4_1, r5_8, c5_8, n5_1]; done))⟩, ⟨by simp [go_sem, r1_8, c1_8, n1_4, n1_5, r4_8, c4_8, n4_1, r5_8, c5_8, n5_1], (by rw [E4_7.out]; first | exact c4_8 | (simp [go_sem, r1_8, c1_8, n1_4, n1_5, r4_8, c4_8, n4_1, r5_8, c5_8, n5_1]; done))⟩, ⟨by simp [go_sem, r1_8, c1_8, n1_4, n1_5, r4_8, c4_8, n4_1, r5_8, c5_8, n5_1], (by rw [E5_7.out]; first | exact c5_8 | (simp [go_sem, r1_8, c1_8, n1_4, n1_5, r4_8, c4_8, n4_1, r5_8, c5_8, n5_1]; done))⟩⟩
        case measure => simp [intOf]; omega
       ·
        obtain rfl : n = k := by omega
        have p1 := (mod_range (dotF n f (mtab f i j)) p hp).1; have p2 := (mod_range (dotF n f (mtab f i j)) p hp).2
        go_wp2_with fail
        refine (l01Mod_any _ _ _ hp hp' (by omega) (by omega)).mono ?_; rintro _ _ ⟨rfl, rfl⟩
        go_wp2
        go_roundw
        case rel => exact ⟨j + 1, by omega, by go_num, bt, ⟨by simp [go_sem, r1_7, c1_7, n1_4, n1_5, r4_7, c4_7, n4_1, r5_7, c5_7, n5_1], (by rw [E1_4.out]; first | exact c1_7 | (simp [go_sem, r1_7, c1_7, n1_4, n1_5, r4_7, c4_7, n4_1, r5_7, c5_7, n5_1]; done))⟩, ⟨by simp [go_sem, r1_7, c1_7, n1_4, n1_5, r4_7, c4_7, n4_1, r5_7, c5_7, n5_1], (by first | (rw [blk_setRow _ _ _ _ r4_7, if_pos rfl]; exact cuL_step p f i j) | exact (c4_7).trans (cuL_step p f i j) | (simp [go_sem, r1_7, c1_7, n1_4, n1_5, r4_7, c4_7, n4_1, r5_7, c5_7, n5_1]; exact cuL_step p f i j))⟩, ⟨by simp [go_sem, r1_7, c1_7, n1_4, n1_5, r4_7, c4_7, n4_1, r5_7, c5_7, n5_1], (by first | (rw [blk_setRow _ _ _ _ r5_7, if_pos rfl]; exact cuRs_step p f i n j) | exact (c5_7).trans (cuRs_step p f i n j) | (simp [go_sem, r1_7, c1_7, n1_4, n1_5, r4_7, c4_7, n4_1, r5_7, c5_7, n5_1]; exact cuRs_step p f i n j))⟩⟩
        case measure => simp [intOf]; omega
     ·
      obtain rfl : n = j := by omega
      go_wp2
      refine wp_quiet_all (Below W4.heap.size W4) (by kernel_rfl) (by kernel_rfl) (Below.refl _ _).drew ?_
      iterate 2 (refine q_plain rfl ?_; apply Exists.intro; refine ⟨fun W hW => ?_, ?_⟩; (focus (obtain ⟨x1, y1⟩ := keepB hW z1_4 r1_4 c1_4; obtain ⟨x4, y4⟩ := keepB hW z4_4 r4_4 c4_4; obtain ⟨x5, y5⟩ := keepB hW z5_4 r5_4 c5_4; go_simp; first | done | rfl)); simp only [Act.put, List.setIfInBounds_toArray, List.set_cons_zero, List.set_cons_succ])
      (refine q_plain rfl ?_; apply Exists.intro; refine ⟨fun W hW => ?_, ?_⟩; (focus (obtain ⟨x1, y1⟩ := keepB hW z1_4 r1_4 c1_4; obtain ⟨x4, y4⟩ := keepB hW z4_4 r4_4 c4_4; obtain ⟨x5, y5⟩ := keepB hW z5_4 r5_4 c5_4; go_simp; (go_at_call 124; exact (l01BasisAt i (by omega) _).mono fun e w2 ⟨he, hw2⟩ => ⟨he, hW.trans (hw2.mono hW.size)⟩))); simp only [Act.put, List.setIfInBounds_toArray, List.set_cons_zero, List.set_cons_succ])
      iterate 2 (refine q_plain rfl ?_; apply Exists.intro; refine ⟨fun W hW => ?_, ?_⟩; (focus (obtain ⟨x1, y1⟩ := keepB hW z1_4 r1_4 c1_4; obtain ⟨x4, y4⟩ := keepB hW z4_4 r4_4 c4_4; obtain ⟨x5, y5⟩ := keepB hW z5_4 r5_4 c5_4; go_simp; first | done | rfl)); simp only [Act.put, List.setIfInBounds_toArray, List.set_cons_zero, List.set_cons_succ])
      iterate 4 (refine q_skip (by kernel_rfl) ?_; simp only [Act.put, List.setIfInBounds_toArray, List.set_cons_zero, List.set_cons_succ])
      iterate 1 (refine q_plain rfl ?_; apply Exists.intro; refine ⟨fun W hW => ?_, ?_⟩; (focus (obtain ⟨x1, y1⟩ := keepB hW z1_4 r1_4 c1_4; obtain ⟨x4, y4⟩ := keepB hW z4_4 r4_4 c4_4; obtain ⟨x5, y5⟩ := keepB hW z5_4 r5_4 c5_4; go_simp; first | done | rfl)); simp only [Act.put, List.setIfInBounds_toArray, List.set_cons_zero, List.set_cons_succ])
      refine wpQuiet_nil ?_
      intro W9 hw9
      obtain ⟨r1_9, c1_9, z1_9⟩ := keepZ hw9 z1_4 r1_4 c1_4
      obtain ⟨r4_9, c4_9, z4_9⟩ := keepZ hw9 z4_4 r4_4 c4_4
      obtain ⟨r5_9, c5_9, z5_9⟩ := keepZ hw9 z5_4 r5_4 c5_4
      obtain ⟨hb9, q9⟩ := bN hb4 hw9
      clear hw9 r1_4 c1_4 z1_4 r4_4 c4_4 z4_4 r5_4 c5_4 z5_4 hb4
      go_wp2_with fail
      go_ret
      exact ⟨ret_bool (by rw [H.out] <;> rfl), bt⟩
   ·
    cases hu2 : segEq 0 8 (cuRs p f i n n) (ebas i)
    ·
     have H : Hid (cuSB p n f = false) := Lib.hid (all_no (q := cuSAt p n f) i n (by omega) (by unfold cuSAt; rw [hu1, hu2]; rfl))
     go_wp2
     have nw1_W2_0 : (w.heap.size) ≠ W2.heap.size := by omega
     have nw1_W2_1 : (w.heap.size) ≠ W2.heap.size + 1 := by omega
     refine atomW fun W10 e10 => ?_
     have hb10 : Below w.heap.size w W10 := by rw [e10]; exact bt
     have q10 := hb10.size
     have r1_10 : IsRow W10 (w.heap.size) := by rw [e10]; simp [go_sem, r1_2, c1_2, nw1_W2_0, nw1_W2_1]
     have c1_10 := congrArg (fun x => blk x (w.heap.size)) e10; simp [go_sem, r1_2, c1_2, nw1_W2_0, nw1_W2_1] at c1_10
     have z1_10 := isRow_lt r1_10
     have r4_10 : IsRow W10 (W2.heap.size) := by rw [e10]; simp [go_sem, r1_2, c1_2, nw1_W2_0, nw1_W2_1]
     have c4_10 := congrArg (fun x => blk x (W2.heap.size)) e10; simp [go_sem, r1_2, c1_2, nw1_W2_0, nw1_W2_1] at c4_10
     have z4_10 := isRow_lt r4_10
     have r5_10 : IsRow W10 (W2.heap.size + 1) := by rw [e10]; simp [go_sem, r1_2, c1_2, nw1_W2_0, nw1_W2_1]
     have c5_10 := congrArg (fun x => blk x (W2.heap.size + 1)) e10; simp [go_sem, r1_2, c1_2, nw1_W2_0, nw1_W2_1] at c5_10
     have z5_10 := isRow_lt r5_10
     have n1_4 : (w.heap.size) ≠ (W2.heap.size) := by omega
     have n1_5 : (w.heap.size) ≠ (W2.heap.size + 1) := by omega
     have n4_1 : (W2.heap.size) ≠ (w.heap.size) := by omega
     have n5_1 : (W2.heap.size + 1) ≠ (w.heap.size) := by omega
     clear e10 nw1_W2_0 nw1_W2_1 r1_2 c1_2 z1_2 hb2
     go_loopw [6] (fun s6 wr => ∃ j : Nat, j ≤ n ∧ s6 = .int .i64 j ∧ Below w.heap.size w wr ∧ (IsRow wr (w.heap.size) ∧ blk wr (w.heap.size) = blk W10 (w.heap.size)) ∧ (IsRow wr (W2.heap.size) ∧ blk wr (W2.heap.size) = row 8 (cuL p f i j)) ∧ (IsRow wr (W2.heap.size + 1) ∧ blk wr (W2.heap.size + 1) = row 8 (cuRs p f i n j))) (fun s6 _ => n - (intOf s6).toNat)
     case atStart => exact ⟨0, by omega, rfl, hb10, ⟨r1_10, rfl⟩, ⟨r4_10, c4_10.trans (cuL_zero p f i)⟩, ⟨r5_10, c5_10.trans (cuRs_zero p f i n)⟩⟩
     case round =>
      obtain ⟨j, hle11, rfl, hb11, ⟨r1_11, c1_11⟩, ⟨r4_11, c4_11⟩, ⟨r5_11, c5_11⟩⟩ := hrel
      obtain ⟨W11, rfl⟩ : ∃ W11 : World, W11 = wr := ⟨_, rfl⟩
      have q11 := hb11.size
      have E1_11 := Lib.hid c1_10; replace c1_11 := c1_11.trans c1_10
      have z1_11 := isRow_lt r1_11
      have z4_11 := isRow_lt r4_11
      have z5_11 := isRow_lt r5_11
      clear r1_10 c1_10 z1_10 r4_10 c4_10 z4_10 r5_10 c5_10 z5_10 hb10
      by_cases hlt11 : j < n
      ·
       have i0_11 : (0 : Int) ≤ (j : Int) := by omega
       have i8_11 : (j : Int) < 8 := by omega
       have k8_11 : j < 8 := by omega
       have m8_11 : j * 8 + 8 ≤ 64 := by omega
       have m64_11 : j * 64 + 64 ≤ 512 := by omega
       have l1_11 : 10 + j * 64 + 64 ≤ 522 := by omega
       have l2_11i : 10 + i * 64 + j * 8 + 8 ≤ 522 := by omega
       have l3_11i : 10 + j * 64 + i * 8 + 8 ≤ 522 := by omega
       have l4_11i : i * 64 + j * 8 + 8 ≤ 512 := by omega
       have l5_11i : j * 64 + i * 8 + 8 ≤ 512 := by omega
       have l6_11i : i * 8 + j < 64 := by omega
       have l7_11i : j * 8 + i < 64 := by omega
       have HU : Hid (Bytes 8 f) := Lib.hid (unit_bytes HF.out)
       have b1 := (HU.out j (by omega)).1; have b2 := (HU.out j (by omega)).2; have e9 := alg_cuq p n f j (by omega); have e8 := alg_at8 p n f i j (by omega) (by omega)
       have HA : Hid (Bytes 8 (cuL p f i j)) := Lib.hid (cuL_bytes hp hp' f i j)
       have HB : Hid (Bytes 8 (mtab f i j)) := Lib.hid (mtab_bytes HF.out i j (by omega) (by omega))
       have q1 : IntKind.i64.wrap (f j) = f j := IntWalk.i64_in _ (by omega)
       go_wp2
       refine wp_quiet_tail 15 (Below W11.heap.size W11) (by kernel_rfl) (by kernel_rfl) (Below.refl _ _).drew ?_
       simp only [List.take_succ_cons, List.take_zero, List.drop_succ_cons, List.drop_zero]
       iterate 14 (refine q_plain rfl ?_; apply Exists.intro; refine ⟨fun W hW => ?_, ?_⟩; (focus (obtain ⟨x1, y1⟩ := keepB hW z1_11 r1_11 c1_11; obtain ⟨x4, y4⟩ := keepB hW z4_11 r4_11 c4_11; obtain ⟨x5, y5⟩ := keepB hW z5_11 r5_11 c5_11; go_simp; first | done | rfl)); simp only [Act.put, List.setIfInBounds_toArray, List.set_cons_zero, List.set_cons_succ])
       (refine q_plain rfl ?_; apply Exists.intro; refine ⟨fun W hW => ?_, ?_⟩; (focus (obtain ⟨x1, y1⟩ := keepB hW z1_11 r1_11 c1_11; obtain ⟨x4, y4⟩ := keepB hW z4_11 r4_11 c4_11; obtain ⟨x5, y5⟩ := keepB hW z5_11 r5_11 c5_11; go_simp; (go_at_call 66; exact (l01Add_any _ _ _ _ _ hp hp' (by omega) (by omega) HA.out HB.out).mono fun e w2 ⟨he, hw2⟩ => ⟨he, hW.trans (hw2.mono hW.size)⟩))); simp only [Act.put, List.setIfInBounds_toArray, List.set_cons_zero, List.set_cons_succ])
       refine wpQuiet_nil ?_
       intro W12 hw12
       obtain ⟨r1_12, c1_12, z1_12⟩ := keepZ hw12 z1_11 r1_11 c1_11
       obtain ⟨r4_12, c4_12, z4_12⟩ := keepZ hw12 z4_11 r4_11 c4_11
       obtain ⟨r5_12, c5_12, z5_12⟩ := keepZ hw12 z5_11 r5_11 c5_11
       obtain ⟨hb12, q12⟩ := bN hb11 hw12
       clear hw12 r1_11 c1_11 z1_11 r4_11 c4_11 z4_11 r5_11 c5_11 z5_11 hb11
       go_wp2
       refine atomW fun W13 e13 => ?_
       have hb13 : Below w.heap.size w W13 := by rw [e13]; exact bt
       have q13 := hb13.size
       have r1_13 : IsRow W13 (w.heap.size) := by rw [e13]; simp [go_sem, r1_12, c1_12, n1_4, n1_5, r4_12, c4_12, n4_1, r5_12, c5_12, n5_1]
       have c1_13 := congrArg (fun x => blk x (w.heap.size)) e13; simp [go_sem, r1_12, c1_12, n1_4, n1_5, r4_12, c4_12, n4_1, r5_12, c5_12, n5_1] at c1_13
       have z1_13 := isRow_lt r1_13
       have r4_13 : IsRow W13 (W2.heap.size) := by rw [e13]; simp [go_sem, r1_12, c1_12, n1_4, n1_5, r4_12, c4_12, n4_1, r5_12, c5_12, n5_1]
       have c4_13 := congrArg (fun x => blk x (W2.heap.size)) e13; simp [go_sem, r1_12, c1_12, n1_4, n1_5, r4_12, c4_12, n4_1, r5_12, c5_12, n5_1] at c4_13
       have z4_13 := isRow_lt r4_13
       have r5_13 : IsRow W13 (W2.heap.size + 1) := by rw [e13]; simp [go_sem, r1_12, c1_12, n1_4, n1_5, r4_12, c4_12, n4_1, r5_12, c5_12, n5_1]
       have c5_13 := congrArg (fun x => blk x (W2.heap.size + 1)) e13; simp [go_sem, r1_12, c1_12, n1_4, n1_5, r4_12, c4_12, n4_1, r5_12, c5_12, n5_1] at c5_13
       have z5_13 := isRow_lt r5_13
       clear e13 r1_12 c1_12 z1_12 r4_12 c4_12 z4_12 r5_12 c5_12 z5_12 hb12
       go_loopw [7, 8] (fun s7 s8 wr => ∃ k : Nat, k ≤ n ∧ s7 = .int .i64 (dotF k f (mtab f i j)) ∧ s8 = .int .i64 k ∧ Below w.heap.size w wr ∧ (IsRow wr (w.heap.size) ∧ blk wr (w.heap.size) = blk W13 (w.heap.size)) ∧ (IsRow wr (W2.heap.size) ∧ blk wr (W2.heap.size) = blk W13 (W2.heap.size)) ∧ (IsRow wr (W2.heap.size + 1) ∧ blk wr (W2.heap.size + 1) = blk W13 (W2.heap.size + 1))) (fun _ s8 _ => n - (intOf s8).toNat)
       case atStart => exact ⟨0, by omega, (by first | rfl | (simp; done) | go_num), rfl, hb13, ⟨r1_13, rfl⟩, ⟨r4_13, rfl⟩, ⟨r5_13, rfl⟩⟩
       case round =>
        obtain ⟨k, hle14, rfl, rfl, hb14, ⟨r1_14, c1_14⟩, ⟨r4_14, c4_14⟩, ⟨r5_14, c5_14⟩⟩ := hrel
        obtain ⟨W14, rfl⟩ : ∃ W14 : World, W14 = wr := ⟨_, rfl⟩
        have q14 := hb14.size
        have E1_14 := Lib.hid c1_13; replace c1_14 := c1_14.trans c1_13
        have z1_14 := isRow_lt r1_14
        have E4_14 := Lib.hid c4_13; replace c4_14 := c4_14.trans c4_13
        have z4_14 := isRow_lt r4_14
        have E5_14 := Lib.hid c5_13; replace c5_14 := c5_14.trans c5_13
        have z5_14 := isRow_lt r5_14
        clear r1_13 c1_13 z1_13 r4_13 c4_13 z4_13 r5_13 c5_13 z5_13 hb13
        have d1 := (dotM_range HF.out i j (by omega) (by omega) k (by omega)).1; have d2 := (dotM_range HF.out i j (by omega) (by omega) k (by omega)).2
        by_cases hlt14 : k < n
        ·
         have i0_14 : (0 : Int) ≤ (k : Int) := by omega
         have i8_14 : (k : Int) < 8 := by omega
         have k8_14 : k < 8 := by omega
         have m8_14 : k * 8 + 8 ≤ 64 := by omega
         have m64_14 : k * 64 + 64 ≤ 512 := by omega
         have l1_14 : 10 + k * 64 + 64 ≤ 522 := by omega
         have l2_14i : 10 + i * 64 + k * 8 + 8 ≤ 522 := by omega
         have l3_14i : 10 + k * 64 + i * 8 + 8 ≤ 522 := by omega
         have l4_14i : i * 64 + k * 8 + 8 ≤ 512 := by omega
         have l5_14i : k * 64 + i * 8 + 8 ≤ 512 := by omega
         have l6_14i : i * 8 + k < 64 := by omega
         have l7_14i : k * 8 + i < 64 := by omega
         have l2_14j : 10 + j * 64 + k * 8 + 8 ≤ 522 := by omega
         have l3_14j : 10 + k * 64 + j * 8 + 8 ≤ 522 := by omega
         have l4_14j : j * 64 + k * 8 + 8 ≤ 512 := by omega
         have l5_14j : k * 64 + j * 8 + 8 ≤ 512 := by omega
         have l6_14j : j * 8 + k < 64 := by omega
         have l7_14j : k * 8 + j < 64 := by omega
         have b3 := (HU.out k (by omega)).1; have b4 := (HU.out k (by omega)).2; have b5 := mtab_range HF.out i j k (by omega) (by omega) (by omega); have e7 := alg_cu p n f k (by omega); have e6 := alg_el p n f i j k (by omega) (by omega) (by omega); have b6 := prod_range ⟨b3, b4⟩ b5; have e5 := alg_at p n f i j k (by omega) (by omega) (by omega)
         have e4 := alg_cuq p n f k (by omega)
         have q2 : IntKind.i64.wrap (f k) = f k := IntWalk.i64_in _ (by omega)
         have q3 : IntKind.i64.wrap (mtab f i j k) = mtab f i j k := IntWalk.i64_in _ (by omega)
         have q4 : IntKind.i64.wrap (f k * mtab f i j k) = f k * mtab f i j k := IntWalk.i64_in _ (by omega)
         have q5 : IntKind.i64.wrap (dotF k f (mtab f i j) + f k * mtab f i j k) = dotF k f (mtab f i j) + f k * mtab f i j k := IntWalk.i64_in _ (by omega)
         go_wp2
         refine wp_quiet_all (Below W14.heap.size W14) (by kernel_rfl) (by kernel_rfl) (Below.refl _ _).drew ?_
         iterate 18 (refine q_plain rfl ?_; apply Exists.intro; refine ⟨fun W hW => ?_, ?_⟩; (focus (obtain ⟨x1, y1⟩ := keepB hW z1_14 r1_14 c1_14; obtain ⟨x4, y4⟩ := keepB hW z4_14 r4_14 c4_14; obtain ⟨x5, y5⟩ := keepB hW z5_14 r5_14 c5_14; go_simp; first | done | rfl)); simp only [Act.put, List.setIfInBounds_toArray, List.set_cons_zero, List.set_cons_succ])
         refine wpQuiet_nil ?_
         intro W15 hw15
         obtain ⟨r1_15, c1_15, z1_15⟩ := keepZ hw15 z1_14 r1_14 c1_14
         obtain ⟨r4_15, c4_15, z4_15⟩ := keepZ hw15 z4_14 r4_14 c4_14
         obtain ⟨r5_15, c5_15, z5_15⟩ := keepZ hw15 z5_14 r5_14 c5_14
         obtain ⟨hb15, q15⟩ := bN hb14 hw15
         clear hw15 r1_14 c1_14 z1_14 r4_14 c4_14 z4_14 r5_14 c5_14 z5_14 hb14
         go_wp2
         go_roundw
         case rel => exact ⟨k + 1, by omega, (by first | rfl | go_num | (simp; done)), by go_num, bt, ⟨by simp [go_sem, r1_15, c1_15, n1_4, n1_5, r4_15, c4_15, n4_1, r5_15, c5_15, n5_1], (by rw [E1_14.out]; first | exact c1_15 | (simp [go_sem, r1_15, c1_15, n1_4, n1_5, r4_15, c4_15, n4_1, r5_15, c5_15, n5_1]; done))⟩, ⟨by simp [go_sem, r1_15, c1_15, n1_4, n1_5, r4_15, c4_15, n4_1, r5_15, c5_15, n5_1], (by rw [E4_14.out]; first | exact c4_15 | (simp [go_sem, r1_15, c1_15, n1_4, n1_5, r4_15, c4_15, n4_1, r5_15, c5_15, n5_1]; done))⟩, ⟨by simp [go_sem, r1_15, c1_15, n1_4, n1_5, r4_15, c4_15, n4_1, r5_15, c5_15, n5_1], (by rw [E5_14.out]; first | exact c5_15 | (simp [go_sem, r1_15, c1_15, n1_4, n1_5, r4_15, c4_15, n4_1, r5_15, c5_15, n5_1]; done))⟩⟩
         case measure => simp [intOf]; omega
        ·
         obtain rfl : n = k := by omega
         have p1 := (mod_range (dotF n f (mtab f i j)) p hp).1; have p2 := (mod_range (dotF n f (mtab f i j)) p hp).2
         go_wp2_with fail
         refine (l01Mod_any _ _ _ hp hp' (by omega) (by omega)).mono ?_; rintro _ _ ⟨rfl, rfl⟩
         go_wp2
         go_roundw
         case rel => exact ⟨j + 1, by omega, by go_num, bt, ⟨by simp [go_sem, r1_14, c1_14, n1_4, n1_5, r4_14, c4_14, n4_1, r5_14, c5_14, n5_1], (by rw [E1_11.out]; first | exact c1_14 | (simp [go_sem, r1_14, c1_14, n1_4, n1_5, r4_14, c4_14, n4_1, r5_14, c5_14, n5_1]; done))⟩, ⟨by simp [go_sem, r1_14, c1_14, n1_4, n1_5, r4_14, c4_14, n4_1, r5_14, c5_14, n5_1], (by first | (rw [blk_setRow _ _ _ _ r4_14, if_pos rfl]; exact cuL_step p f i j) | exact (c4_14).trans (cuL_step p f i j) | (simp [go_sem, r1_14, c1_14, n1_4, n1_5, r4_14, c4_14, n4_1, r5_14, c5_14, n5_1]; exact cuL_step p f i j))⟩, ⟨by simp [go_sem, r1_14, c1_14, n1_4, n1_5, r4_14, c4_14, n4_1, r5_14, c5_14, n5_1], (by first | (rw [blk_setRow _ _ _ _ r5_14, if_pos rfl]; exact cuRs_step p f i n j) | exact (c5_14).trans (cuRs_step p f i n j) | (simp [go_sem, r1_14, c1_14, n1_4, n1_5, r4_14, c4_14, n4_1, r5_14, c5_14, n5_1]; exact cuRs_step p f i n j))⟩⟩
         case measure => simp [intOf]; omega
      ·
       obtain rfl : n = j := by omega
       go_wp2
       refine wp_quiet_all (Below W11.heap.size W11) (by kernel_rfl) (by kernel_rfl) (Below.refl _ _).drew ?_
       iterate 2 (refine q_plain rfl ?_; apply Exists.intro; refine ⟨fun W hW => ?_, ?_⟩; (focus (obtain ⟨x1, y1⟩ := keepB hW z1_11 r1_11 c1_11; obtain ⟨x4, y4⟩ := keepB hW z4_11 r4_11 c4_11; obtain ⟨x5, y5⟩ := keepB hW z5_11 r5_11 c5_11; go_simp; first | done | rfl)); simp only [Act.put, List.setIfInBounds_toArray, List.set_cons_zero, List.set_cons_succ])
       (refine q_plain rfl ?_; apply Exists.intro; refine ⟨fun W hW => ?_, ?_⟩; (focus (obtain ⟨x1, y1⟩ := keepB hW z1_11 r1_11 c1_11; obtain ⟨x4, y4⟩ := keepB hW z4_11 r4_11 c4_11; obtain ⟨x5, y5⟩ := keepB hW z5_11 r5_11 c5_11; go_simp; (go_at_call 124; exact (l01BasisAt i (by omega) _).mono fun e w2 ⟨he, hw2⟩ => ⟨he, hW.trans (hw2.mono hW.size)⟩))); simp only [Act.put, List.setIfInBounds_toArray, List.set_cons_zero, List.set_cons_succ])
       iterate 2 (refine q_plain rfl ?_; apply Exists.intro; refine ⟨fun W hW => ?_, ?_⟩; (focus (obtain ⟨x1, y1⟩ := keepB hW z1_11 r1_11 c1_11; obtain ⟨x4, y4⟩ := keepB hW z4_11 r4_11 c4_11; obtain ⟨x5, y5⟩ := keepB hW z5_11 r5_11 c5_11; go_simp; first | done | rfl)); simp only [Act.put, List.setIfInBounds_toArray, List.set_cons_zero, List.set_cons_succ])
       iterate 2 (refine q_want (by kernel_rfl) ?_; apply Exists.intro; refine ⟨fun W hW => ?_, ?_⟩; (focus (obtain ⟨x1, y1⟩ := keepB hW z1_11 r1_11 c1_11; obtain ⟨x4, y4⟩ := keepB hW z4_11 r4_11 c4_11; obtain ⟨x5, y5⟩ := keepB hW z5_11 r5_11 c5_11; go_simp; first | done | rfl)); simp only [Act.put, List.setIfInBounds_toArray, List.set_cons_zero, List.set_cons_succ])
       (refine q_want (by kernel_rfl) ?_; apply Exists.intro; refine ⟨fun W hW => ?_, ?_⟩; (focus (obtain ⟨x1, y1⟩ := keepB hW z1_11 r1_11 c1_11; obtain ⟨x4, y4⟩ := keepB hW z4_11 r4_11 c4_11; obtain ⟨x5, y5⟩ := keepB hW z5_11 r5_11 c5_11; go_simp; (go_at_call 124; exact (l01BasisAt i (by omega) _).mono fun e w2 ⟨he, hw2⟩ => ⟨he, hW.trans (hw2.mono hW.size)⟩))); simp only [Act.put, List.setIfInBounds_toArray, List.set_cons_zero, List.set_cons_succ])
       iterate 1 (refine q_want (by kernel_rfl) ?_; apply Exists.intro; refine ⟨fun W hW => ?_, ?_⟩; (focus (obtain ⟨x1, y1⟩ := keepB hW z1_11 r1_11 c1_11; obtain ⟨x4, y4⟩ := keepB hW z4_11 r4_11 c4_11; obtain ⟨x5, y5⟩ := keepB hW z5_11 r5_11 c5_11; go_simp; first | done | rfl)); simp only [Act.put, List.setIfInBounds_toArray, List.set_cons_zero, List.set_cons_succ])
       iterate 1 (refine q_plain rfl ?_; apply Exists.intro; refine ⟨fun W hW => ?_, ?_⟩; (focus (obtain ⟨x1, y1⟩ := keepB hW z1_11 r1_11 c1_11; obtain ⟨x4, y4⟩ := keepB hW z4_11 r4_11 c4_11; obtain ⟨x5, y5⟩ := keepB hW z5_11 r5_11 c5_11; go_simp; first | done | rfl)); simp only [Act.put, List.setIfInBounds_toArray, List.set_cons_zero, List.set_cons_succ])
       refine wpQuiet_nil ?_
       intro W16 hw16
       obtain ⟨r1_16, c1_16, z1_16⟩ := keepZ hw16 z1_11 r1_11 c1_11
       obtain ⟨r4_16, c4_16, z4_16⟩ := keepZ hw16 z4_11 r4_11 c4_11
       obtain ⟨r5_16, c5_16, z5_16⟩ := keepZ hw16 z5_11 r5_11 c5_11
       obtain ⟨hb16, q16⟩ := bN hb11 hw16
       clear hw16 r1_11 c1_11 z1_11 r4_11 c4_11 z4_11 r5_11 c5_11 z5_11 hb11
       go_wp2_with fail
       go_ret
       exact ⟨ret_bool (by rw [H.out] <;> rfl), bt⟩
    ·
     have H := Lib.hid (upto_more (q := cuSAt p n f) HX2.out (by unfold cuSAt; rw [hu1, hu2]; rfl))
     go_wp2
     have nw1_W2_0 : (w.heap.size) ≠ W2.heap.size := by omega
     have nw1_W2_1 : (w.heap.size) ≠ W2.heap.size + 1 := by omega
     refine atomW fun W17 e17 => ?_
     have hb17 : Below w.heap.size w W17 := by rw [e17]; exact bt
     have q17 := hb17.size
     have r1_17 : IsRow W17 (w.heap.size) := by rw [e17]; simp [go_sem, r1_2, c1_2, nw1_W2_0, nw1_W2_1]
     have c1_17 := congrArg (fun x => blk x (w.heap.size)) e17; simp [go_sem, r1_2, c1_2, nw1_W2_0, nw1_W2_1] at c1_17
     have z1_17 := isRow_lt r1_17
     have r4_17 : IsRow W17 (W2.heap.size) := by rw [e17]; simp [go_sem, r1_2, c1_2, nw1_W2_0, nw1_W2_1]
     have c4_17 := congrArg (fun x => blk x (W2.heap.size)) e17; simp [go_sem, r1_2, c1_2, nw1_W2_0, nw1_W2_1] at c4_17
     have z4_17 := isRow_lt r4_17
     have r5_17 : IsRow W17 (W2.heap.size + 1) := by rw [e17]; simp [go_sem, r1_2, c1_2, nw1_W2_0, nw1_W2_1]
     have c5_17 := congrArg (fun x => blk x (W2.heap.size + 1)) e17; simp [go_sem, r1_2, c1_2, nw1_W2_0, nw1_W2_1] at c5_17
     have z5_17 := isRow_lt r5_17
     have n1_4 : (w.heap.size) ≠ (W2.heap.size) := by omega
     have n1_5 : (w.heap.size) ≠ (W2.heap.size + 1) := by omega
     have n4_1 : (W2.heap.size) ≠ (w.heap.size) := by omega
     have n5_1 : (W2.heap.size + 1) ≠ (w.heap.size) := by omega
     clear e17 nw1_W2_0 nw1_W2_1 r1_2 c1_2 z1_2 hb2
     go_loopw [6] (fun s6 wr => ∃ j : Nat, j ≤ n ∧ s6 = .int .i64 j ∧ Below w.heap.size w wr ∧ (IsRow wr (w.heap.size) ∧ blk wr (w.heap.size) = blk W17 (w.heap.size)) ∧ (IsRow wr (W2.heap.size) ∧ blk wr (W2.heap.size) = row 8 (cuL p f i j)) ∧ (IsRow wr (W2.heap.size + 1) ∧ blk wr (W2.heap.size + 1) = row 8 (cuRs p f i n j))) (fun s6 _ => n - (intOf s6).toNat)
     case atStart => exact ⟨0, by omega, rfl, hb17, ⟨r1_17, rfl⟩, ⟨r4_17, c4_17.trans (cuL_zero p f i)⟩, ⟨r5_17, c5_17.trans (cuRs_zero p f i n)⟩⟩
     case round =>
      obtain ⟨j, hle18, rfl, hb18, ⟨r1_18, c1_18⟩, ⟨r4_18, c4_18⟩, ⟨r5_18, c5_18⟩⟩ := hrel
      obtain ⟨W18, rfl⟩ : ∃ W18 : World, W18 = wr := ⟨_, rfl⟩
      have q18 := hb18.size
      have E1_18 := Lib.hid c1_17; replace c1_18 := c1_18.trans c1_17
      have z1_18 := isRow_lt r1_18
      have z4_18 := isRow_lt r4_18
      have z5_18 := isRow_lt r5_18
      clear r1_17 c1_17 z1_17 r4_17 c4_17 z4_17 r5_17 c5_17 z5_17 hb17
      by_cases hlt18 : j < n
      ·
       have i0_18 : (0 : Int) ≤ (j : Int) := by omega
       have i8_18 : (j : Int) < 8 := by omega
       have k8_18 : j < 8 := by omega
       have m8_18 : j * 8 + 8 ≤ 64 := by omega
       have m64_18 : j * 64 + 64 ≤ 512 := by omega
       have l1_18 : 10 + j * 64 + 64 ≤ 522 := by omega
       have l2_18i : 10 + i * 64 + j * 8 + 8 ≤ 522 := by omega
       have l3_18i : 10 + j * 64 + i * 8 + 8 ≤ 522 := by omega
       have l4_18i : i * 64 + j * 8 + 8 ≤ 512 := by omega
       have l5_18i : j * 64 + i * 8 + 8 ≤ 512 := by omega
       have l6_18i : i * 8 + j < 64 := by omega
       have l7_18i : j * 8 + i < 64 := by omega
       have HU : Hid (Bytes 8 f) := Lib.hid (unit_bytes HF.out)
       have b1 := (HU.out j (by omega)).1; have b2 := (HU.out j (by omega)).2; have e9 := alg_cuq p n f j (by omega); have e8 := alg_at8 p n f i j (by omega) (by omega)
       have HA : Hid (Bytes 8 (cuL p f i j)) := Lib.hid (cuL_bytes hp hp' f i j)
       have HB : Hid (Bytes 8 (mtab f i j)) := Lib.hid (mtab_bytes HF.out i j (by omega) (by omega))
       have q1 : IntKind.i64.wrap (f j) = f j := IntWalk.i64_in _ (by omega)
       go_wp2
       refine wp_quiet_tail 15 (Below W18.heap.size W18) (by kernel_rfl) (by kernel_rfl) (Below.refl _ _).drew ?_
       simp only [List.take_succ_cons, List.take_zero, List.drop_succ_cons, List.drop_zero]
       iterate 14 (refine q_plain rfl ?_; apply Exists.intro; refine ⟨fun W hW => ?_, ?_⟩; (focus (obtain ⟨x1, y1⟩ := keepB hW z1_18 r1_18 c1_18; obtain ⟨x4, y4⟩ := keepB hW z4_18 r4_18 c4_18; obtain ⟨x5, y5⟩ := keepB hW z5_18 r5_18 c5_18; go_simp; first | done | rfl)); simp only [Act.put, List.setIfInBounds_toArray, List.set_cons_zero, List.set_cons_succ])
       (refine q_plain rfl ?_; apply Exists.intro; refine ⟨fun W hW => ?_, ?_⟩; (focus (obtain ⟨x1, y1⟩ := keepB hW z1_18 r1_18 c1_18; obtain ⟨x4, y4⟩ := keepB hW z4_18 r4_18 c4_18; obtain ⟨x5, y5⟩ := keepB hW z5_18 r5_18 c5_18; go_simp; (go_at_call 66; exact (l01Add_any _ _ _ _ _ hp hp' (by omega) (by omega) HA.out HB.out).mono fun e w2 ⟨he, hw2⟩ => ⟨he, hW.trans (hw2.mono hW.size)⟩))); simp only [Act.put, List.setIfInBounds_toArray, List.set_cons_zero, List.set_cons_succ])
       refine wpQuiet_nil ?_
       intro W19 hw19
       obtain ⟨r1_19, c1_19, z1_19⟩ := keepZ hw19 z1_18 r1_18 c1_18
       obtain ⟨r4_19, c4_19, z4_19⟩ := keepZ hw19 z4_18 r4_18 c4_18
       obtain ⟨r5_19, c5_19, z5_19⟩ := keepZ hw19 z5_18 r5_18 c5_18
       obtain ⟨hb19, q19⟩ := bN hb18 hw19
       clear hw19 r1_18 c1_18 z1_18 r4_18 c4_18 z4_18 r5_18 c5_18 z5_18 hb18
       go_wp2
       refine atomW fun W20 e20 => ?_
       have hb20 : Below w.heap.size w W20 := by rw [e20]; exact bt
       have q20 := hb20.size
       have r1_20 : IsRow W20 (w.heap.size) := by rw [e20]; simp [go_sem, r1_19, c1_19, n1_4, n1_5, r4_19, c4_19, n4_1, r5_19, c5_19, n5_1]
       have c1_20 := congrArg (fun x => blk x (w.heap.size)) e20; simp [go_sem, r1_19, c1_19, n1_4, n1_5, r4_19, c4_19, n4_1, r5_19, c5_19, n5_1] at c1_20
       have z1_20 := isRow_lt r1_20
       have r4_20 : IsRow W20 (W2.heap.size) := by rw [e20]; simp [go_sem, r1_19, c1_19, n1_4, n1_5, r4_19, c4_19, n4_1, r5_19, c5_19, n5_1]
       have c4_20 := congrArg (fun x => blk x (W2.heap.size)) e20; simp [go_sem, r1_19, c1_19, n1_4, n1_5, r4_19, c4_19, n4_1, r5_19, c5_19, n5_1] at c4_20
       have z4_20 := isRow_lt r4_20
       have r5_20 : IsRow W20 (W2.heap.size + 1) := by rw [e20]; simp [go_sem, r1_19, c1_19, n1_4, n1_5, r4_19, c4_19, n4_1, r5_19, c5_19, n5_1]
       have c5_20 := congrArg (fun x => blk x (W2.heap.size + 1)) e20; simp [go_sem, r1_19, c1_19, n1_4, n1_5, r4_19, c4_19, n4_1, r5_19, c5_19, n5_1] at c5_20
       have z5_20 := isRow_lt r5_20
       clear e20 r1_19 c1_19 z1_19 r4_19 c4_19 z4_19 r5_19 c5_19 z5_19 hb19
       go_loopw [7, 8] (fun s7 s8 wr => ∃ k : Nat, k ≤ n ∧ s7 = .int .i64 (dotF k f (mtab f i j)) ∧ s8 = .int .i64 k ∧ Below w.heap.size w wr ∧ (IsRow wr (w.heap.size) ∧ blk wr (w.heap.size) = blk W20 (w.heap.size)) ∧ (IsRow wr (W2.heap.size) ∧ blk wr (W2.heap.size) = blk W20 (W2.heap.size)) ∧ (IsRow wr (W2.heap.size + 1) ∧ blk wr (W2.heap.size + 1) = blk W20 (W2.heap.size + 1))) (fun _ s8 _ => n - (intOf s8).toNat)
       case atStart => exact ⟨0, by omega, (by first | rfl | (simp; done) | go_num), rfl, hb20, ⟨r1_20, rfl⟩, ⟨r4_20, rfl⟩, ⟨r5_20, rfl⟩⟩
       case round =>
        obtain ⟨k, hle21, rfl, rfl, hb21, ⟨r1_21, c1_21⟩, ⟨r4_21, c4_21⟩, ⟨r5_21, c5_21⟩⟩ := hrel
        obtain ⟨W21, rfl⟩ : ∃ W21 : World, W21 = wr := ⟨_, rfl⟩
        have q21 := hb21.size
        have E1_21 := Lib.hid c1_20; replace c1_21 := c1_21.trans c1_20
        have z1_21 := isRow_lt r1_21
        have E4_21 := Lib.hid c4_20; replace c4_21 := c4_21.trans c4_20
        have z4_21 := isRow_lt r4_21
        have E5_21 := Lib.hid c5_20; replace c5_21 := c5_21.trans c5_20
        have z5_21 := isRow_lt r5_21
        clear r1_20 c1_20 z1_20 r4_20 c4_20 z4_20 r5_20 c5_20 z5_20 hb20
        have d1 := (dotM_range HF.out i j (by omega) (by omega) k (by omega)).1; have d2 := (dotM_range HF.out i j (by omega) (by omega) k (by omega)).2
        by_cases hlt21 : k < n
        ·
         have i0_21 : (0 : Int) ≤ (k : Int) := by omega
         have i8_21 : (k : Int) < 8 := by omega
         have k8_21 : k < 8 := by omega
         have m8_21 : k * 8 + 8 ≤ 64 := by omega
         have m64_21 : k * 64 + 64 ≤ 512 := by omega
         have l1_21 : 10 + k * 64 + 64 ≤ 522 := by omega
         have l2_21i : 10 + i * 64 + k * 8 + 8 ≤ 522 := by omega
         have l3_21i : 10 + k * 64 + i * 8 + 8 ≤ 522 := by omega
         have l4_21i : i * 64 + k * 8 + 8 ≤ 512 := by omega
         have l5_21i : k * 64 + i * 8 + 8 ≤ 512 := by omega
         have l6_21i : i * 8 + k < 64 := by omega
         have l7_21i : k * 8 + i < 64 := by omega
         have l2_21j : 10 + j * 64 + k * 8 + 8 ≤ 522 := by omega
         have l3_21j : 10 + k * 64 + j * 8 + 8 ≤ 522 := by omega
         have l4_21j : j * 64 + k * 8 + 8 ≤ 512 := by omega
         have l5_21j : k * 64 + j * 8 + 8 ≤ 512 := by omega
         have l6_21j : j * 8 + k < 64 := by omega
         have l7_21j : k * 8 + j < 64 := by omega
         have b3 := (HU.out k (by omega)).1; have b4 := (HU.out k (by omega)).2; have b5 := mtab_range HF.out i j k (by omega) (by omega) (by omega); have e7 := alg_cu p n f k (by omega); have e6 := alg_el p n f i j k (by omega) (by omega) (by omega); have b6 := prod_range ⟨b3, b4⟩ b5; have e5 := alg_at p n f i j k (by omega) (by omega) (by omega)
         have e4 := alg_cuq p n f k (by omega)
         have q2 : IntKind.i64.wrap (f k) = f k := IntWalk.i64_in _ (by omega)
         have q3 : IntKind.i64.wrap (mtab f i j k) = mtab f i j k := IntWalk.i64_in _ (by omega)
         have q4 : IntKind.i64.wrap (f k * mtab f i j k) = f k * mtab f i j k := IntWalk.i64_in _ (by omega)
         have q5 : IntKind.i64.wrap (dotF k f (mtab f i j) + f k * mtab f i j k) = dotF k f (mtab f i j) + f k * mtab f i j k := IntWalk.i64_in _ (by omega)
         go_wp2
         refine wp_quiet_all (Below W21.heap.size W21) (by kernel_rfl) (by kernel_rfl) (Below.refl _ _).drew ?_
         iterate 18 (refine q_plain rfl ?_; apply Exists.intro; refine ⟨fun W hW => ?_, ?_⟩; (focus (obtain ⟨x1, y1⟩ := keepB hW z1_21 r1_21 c1_21; obtain ⟨x4, y4⟩ := keepB hW z4_21 r4_21 c4_21; obtain ⟨x5, y5⟩ := keepB hW z5_21 r5_21 c5_21; go_simp; first | done | rfl)); simp only [Act.put, List.setIfInBounds_toArray, List.set_cons_zero, List.set_cons_succ])
         refine wpQuiet_nil ?_
         intro W22 hw22
         obtain ⟨r1_22, c1_22, z1_22⟩ := keepZ hw22 z1_21 r1_21 c1_21
         obtain ⟨r4_22, c4_22, z4_22⟩ := keepZ hw22 z4_21 r4_21 c4_21
         obtain ⟨r5_22, c5_22, z5_22⟩ := keepZ hw22 z5_21 r5_21 c5_21
         obtain ⟨hb22, q22⟩ := bN hb21 hw22
         clear hw22 r1_21 c1_21 z1_21 r4_21 c4_21 z4_21 r5_21 c5_21 z5_21 hb21
         go_wp2
         go_roundw
         case rel => exact ⟨k + 1, by omega, (by first | rfl | go_num | (simp; done)), by go_num, bt, ⟨by simp [go_sem, r1_22, c1_22, n1_4, n1_5, r4_22, c4_22, n4_1, r5_22, c5_22, n5_1], (by rw [E1_21.out]; first | exact c1_22 | (simp [go_sem, r1_22, c1_22, n1_4, n1_5, r4_22, c4_22, n4_1, r5_22, c5_22, n5_1]; done))⟩, ⟨by simp [go_sem, r1_22, c1_22, n1_4, n1_5, r4_22, c4_22, n4_1, r5_22, c5_22, n5_1], (by rw [E4_21.out]; first | exact c4_22 | (simp [go_sem, r1_22, c1_22, n1_4, n1_5, r4_22, c4_22, n4_1, r5_22, c5_22, n5_1]; done))⟩, ⟨by simp [go_sem, r1_22, c1_22, n1_4, n1_5, r4_22, c4_22, n4_1, r5_22, c5_22, n5_1], (by rw [E5_21.out]; first | exact c5_22 | (simp [go_sem, r1_22, c1_22, n1_4, n1_5, r4_22, c4_22, n4_1, r5_22, c5_22, n5_1]; done))⟩⟩
         case measure => simp [intOf]; omega
        ·
         obtain rfl : n = k := by omega
         have p1 := (mod_range (dotF n f (mtab f i j)) p hp).1; have p2 := (mod_range (dotF n f (mtab f i j)) p hp).2
         go_wp2_with fail
         refine (l01Mod_any _ _ _ hp hp' (by omega) (by omega)).mono ?_; rintro _ _ ⟨rfl, rfl⟩
         go_wp2
         go_roundw
         case rel => exact ⟨j + 1, by omega, by go_num, bt, ⟨by simp [go_sem, r1_21, c1_21, n1_4, n1_5, r4_21, c4_21, n4_1, r5_21, c5_21, n5_1], (by rw [E1_18.out]; first | exact c1_21 | (simp [go_sem, r1_21, c1_21, n1_4, n1_5, r4_21, c4_21, n4_1, r5_21, c5_21, n5_1]; done))⟩, ⟨by simp [go_sem, r1_21, c1_21, n1_4, n1_5, r4_21, c4_21, n4_1, r5_21, c5_21, n5_1], (by first | (rw [blk_setRow _ _ _ _ r4_21, if_pos rfl]; exact cuL_step p f i j) | exact (c4_21).trans (cuL_step p f i j) | (simp [go_sem, r1_21, c1_21, n1_4, n1_5, r4_21, c4_21, n4_1, r5_21, c5_21, n5_1]; exact cuL_step p f i j))⟩, ⟨by simp [go_sem, r1_21, c1_21, n1_4, n1_5, r4_21, c4_21, n4_1, r5_21, c5_21, n5_1], (by first | (rw [blk_setRow _ _ _ _ r5_21, if_pos rfl]; exact cuRs_step p f i n j) | exact (c5_21).trans (cuRs_step p f i n j) | (simp [go_sem, r1_21, c1_21, n1_4, n1_5, r4_21, c4_21, n4_1, r5_21, c5_21, n5_1]; exact cuRs_step p f i n j))⟩⟩
         case measure => simp [intOf]; omega
      ·
       obtain rfl : n = j := by omega
       go_wp2
       refine wp_quiet_all (Below W18.heap.size W18) (by kernel_rfl) (by kernel_rfl) (Below.refl _ _).drew ?_
       iterate 2 (refine q_plain rfl ?_; apply Exists.intro; refine ⟨fun W hW => ?_, ?_⟩; (focus (obtain ⟨x1, y1⟩ := keepB hW z1_18 r1_18 c1_18; obtain ⟨x4, y4⟩ := keepB hW z4_18 r4_18 c4_18; obtain ⟨x5, y5⟩ := keepB hW z5_18 r5_18 c5_18; go_simp; first | done | rfl)); simp only [Act.put, List.setIfInBounds_toArray, List.set_cons_zero, List.set_cons_succ])
       (refine q_plain rfl ?_; apply Exists.intro; refine ⟨fun W hW => ?_, ?_⟩; (focus (obtain ⟨x1, y1⟩ := keepB hW z1_18 r1_18 c1_18; obtain ⟨x4, y4⟩ := keepB hW z4_18 r4_18 c4_18; obtain ⟨x5, y5⟩ := keepB hW z5_18 r5_18 c5_18; go_simp; (go_at_call 124; exact (l01BasisAt i (by omega) _).mono fun e w2 ⟨he, hw2⟩ => ⟨he, hW.trans (hw2.mono hW.size)⟩))); simp only [Act.put, List.setIfInBounds_toArray, List.set_cons_zero, List.set_cons_succ])
       iterate 2 (refine q_plain rfl ?_; apply Exists.intro; refine ⟨fun W hW => ?_, ?_⟩; (focus (obtain ⟨x1, y1⟩ := keepB hW z1_18 r1_18 c1_18; obtain ⟨x4, y4⟩ := keepB hW z4_18 r4_18 c4_18; obtain ⟨x5, y5⟩ := keepB hW z5_18 r5_18 c5_18; go_simp; first | done | rfl)); simp only [Act.put, List.setIfInBounds_toArray, List.set_cons_zero, List.set_cons_succ])
       iterate 2 (refine q_want (by kernel_rfl) ?_; apply Exists.intro; refine ⟨fun W hW => ?_, ?_⟩; (focus (obtain ⟨x1, y1⟩ := keepB hW z1_18 r1_18 c1_18; obtain ⟨x4, y4⟩ := keepB hW z4_18 r4_18 c4_18; obtain ⟨x5, y5⟩ := keepB hW z5_18 r5_18 c5_18; go_simp; first | done | rfl)); simp only [Act.put, List.setIfInBounds_toArray, List.set_cons_zero, List.set_cons_succ])
       (refine q_want (by kernel_rfl) ?_; apply Exists.intro; refine ⟨fun W hW => ?_, ?_⟩; (focus (obtain ⟨x1, y1⟩ := keepB hW z1_18 r1_18 c1_18; obtain ⟨x4, y4⟩ := keepB hW z4_18 r4_18 c4_18; obtain ⟨x5, y5⟩ := keepB hW z5_18 r5_18 c5_18; go_simp; (go_at_call 124; exact (l01BasisAt i (by omega) _).mono fun e w2 ⟨he, hw2⟩ => ⟨he, hW.trans (hw2.mono hW.size)⟩))); simp only [Act.put, List.setIfInBounds_toArray, List.set_cons_zero, List.set_cons_succ])
       iterate 1 (refine q_want (by kernel_rfl) ?_; apply Exists.intro; refine ⟨fun W hW => ?_, ?_⟩; (focus (obtain ⟨x1, y1⟩ := keepB hW z1_18 r1_18 c1_18; obtain ⟨x4, y4⟩ := keepB hW z4_18 r4_18 c4_18; obtain ⟨x5, y5⟩ := keepB hW z5_18 r5_18 c5_18; go_simp; first | done | rfl)); simp only [Act.put, List.setIfInBounds_toArray, List.set_cons_zero, List.set_cons_succ])
       iterate 1 (refine q_plain rfl ?_; apply Exists.intro; refine ⟨fun W hW => ?_, ?_⟩; (focus (obtain ⟨x1, y1⟩ := keepB hW z1_18 r1_18 c1_18; obtain ⟨x4, y4⟩ := keepB hW z4_18 r4_18 c4_18; obtain ⟨x5, y5⟩ := keepB hW z5_18 r5_18 c5_18; go_simp; first | done | rfl)); simp only [Act.put, List.setIfInBounds_toArray, List.set_cons_zero, List.set_cons_succ])
       refine wpQuiet_nil ?_
       intro W23 hw23
       obtain ⟨r1_23, c1_23, z1_23⟩ := keepZ hw23 z1_18 r1_18 c1_18
       obtain ⟨r4_23, c4_23, z4_23⟩ := keepZ hw23 z4_18 r4_18 c4_18
       obtain ⟨r5_23, c5_23, z5_23⟩ := keepZ hw23 z5_18 r5_18 c5_18
       obtain ⟨hb23, q23⟩ := bN hb18 hw23
       clear hw23 r1_18 c1_18 z1_18 r4_18 c4_18 z4_18 r5_18 c5_18 z5_18 hb18
       go_wp2
       go_roundw
       case rel => exact ⟨i + 1, by omega, by go_num, bt, ⟨by simp [go_sem, r1_23, c1_23, n1_4, n1_5, r4_23, c4_23, n4_1, r5_23, c5_23, n5_1], (by rw [E1_2.out]; first | exact c1_23 | (simp [go_sem, r1_23, c1_23, n1_4, n1_5, r4_23, c4_23, n4_1, r5_23, c5_23, n5_1]; done))⟩, H.out⟩
       case measure => simp [intOf]; omega
  ·
   obtain rfl : n = i := by omega
   have H : Hid (cuSB p n f = true) := Lib.hid (all_yes (q := cuSAt p n f) n fun a ha => HX2.out a ha)
   go_wp2_with fail
   go_ret
   exact ⟨ret_bool (by rw [H.out] <;> rfl), bt⟩
end
section
open Go.RowKit
set_option linter.unusedSimpArgs false
set_option linter.unusedVariables false
attribute [local irreducible] wpQuiet wpQE

def noCoB (p : Int) (n : Nat) (f : Nat → Int) : Bool := (List.range (n * n * n * n)).all fun m => !cofM p n f m
theorem noCo_yes {p : Int} {n : Nat} {f : Nat → Int} (h : NoCo p n f) : noCoB p n f = true := all_yes _ fun m hm => by rw [h m hm]; rfl
theorem noCo_no {p : Int} {n : Nat} {f : Nat → Int} {m : Nat} (h : FirstCo p n f m) : noCoB p n f = false := all_no (q := fun m => !cofM p n f m) m _ h.1 (by rw [h.2.1]; rfl)
/-- p, n, f is a coalgebra -/
def coB (p n : Int) (f : Nat → Int) : Bool := shapeB p n f && (cuB p n.toNat f && noCoB p n.toNat f)

set_option maxRecDepth 100000 in
set_option maxHeartbeats 1000000 in
theorem isShapedCo_any (p n : Int) (f : Nat → Int) (w : World) (hF : Bytes 520 f) :
    Calls Tryz.prog 136 #[.agg (alg p n f)] w fun e w' => e = .returned (.bool (shapeB p n f)) ∧ Below w.heap.size w w' := by
 have HF := Lib.hid hF; clear hF
 have HU : Hid (Bytes 8 f) := Lib.hid (unit_bytes HF.out)
 have HT : Hid (Bytes 512 (tab f)) := Lib.hid (tab_bytes HF.out)
 have H : Hid (shapeB p n f = ((sizesB p n && vecB p n f) && (sizesB p n && tabB p n (tab f)))) := Lib.hid (by unfold shapeB; cases sizesB p n <;> cases vecB p n f <;> rfl)
 cases hv : (sizesB p n && vecB p n f)
 ·
  go_enter Tryz.func136, Tryz.ntmps136
  go_wp2_with fail
  refine atomC fun W1 e1 => ?_
  have hb1 : Below w.heap.size w W1 := by rw [e1]; exact bt
  have q1 := hb1.size
  have r1_1 : IsRow W1 (w.heap.size) := by rw [e1]; simp [go_sem]
  have c1_1 := congrArg (fun x => blk x (w.heap.size)) e1; simp [go_sem] at c1_1
  have z1_1 := isRow_lt r1_1
  clear e1
  refine (isVector_any _ _ _ _ HU.out).mono ?_; rintro _ W2 ⟨rfl, hw2⟩
  obtain ⟨r1_2, c1_2, z1_2⟩ := keepZ hw2 z1_1 r1_1 c1_1
  obtain ⟨hb2, q2⟩ := bN hb1 hw2
  clear hw2 r1_1 c1_1 z1_1 hb1
  go_wp2_with fail
  go_ret
  exact ⟨ret_bool (by rw [H.out, hv] <;> rfl), bt⟩
 ·
  go_enter Tryz.func136, Tryz.ntmps136
  go_wp2_with fail
  refine atomC fun W3 e3 => ?_
  have hb3 : Below w.heap.size w W3 := by rw [e3]; exact bt
  have q3 := hb3.size
  have r1_3 : IsRow W3 (w.heap.size) := by rw [e3]; simp [go_sem]
  have c1_3 := congrArg (fun x => blk x (w.heap.size)) e3; simp [go_sem] at c1_3
  have z1_3 := isRow_lt r1_3
  clear e3
  refine (isVector_any _ _ _ _ HU.out).mono ?_; rintro _ W4 ⟨rfl, hw4⟩
  obtain ⟨r1_4, c1_4, z1_4⟩ := keepZ hw4 z1_3 r1_3 c1_3
  obtain ⟨hb4, q4⟩ := bN hb3 hw4
  clear hw4 r1_3 c1_3 z1_3 hb3
  go_wp2_with fail
  refine (isTable_any _ _ _ _ HT.out).mono ?_; rintro _ W5 ⟨rfl, hw5⟩
  obtain ⟨hb5, q5⟩ := bN hb4 hw5
  clear hw5 hb4
  go_wp2_with fail
  go_ret
  exact ⟨ret_bool (by rw [H.out, hv] <;> rfl), bt⟩

set_option maxRecDepth 100000 in
set_option maxHeartbeats 1000000 in
theorem l02Shape_any (p n : Int) (f : Nat → Int) (w : World) (hF : Bytes 520 f) :
    Calls Tryz.prog 168 #[.agg (alg p n f)] w fun e w' => e = .returned (.bool (shapeB p n f)) ∧ Below w.heap.size w w' := by
 have HF := Lib.hid hF; clear hF
 have HU : Hid (Bytes 8 f) := Lib.hid (unit_bytes HF.out)
 have HT : Hid (Bytes 512 (tab f)) := Lib.hid (tab_bytes HF.out)
 have H : Hid (shapeB p n f = (sizesB p n && (vecB p n f && tabB p n (tab f)))) := Lib.hid rfl
 cases hs : sizesB p n
 ·
  go_enter Tryz.func168, Tryz.ntmps168
  go_wp2_with fail
  refine atomC fun W1 e1 => ?_
  have hb1 : Below w.heap.size w W1 := by rw [e1]; exact bt
  have q1 := hb1.size
  have r1_1 : IsRow W1 (w.heap.size) := by rw [e1]; simp [go_sem]
  have c1_1 := congrArg (fun x => blk x (w.heap.size)) e1; simp [go_sem] at c1_1
  have z1_1 := isRow_lt r1_1
  clear e1
  refine (l01Sizes_any _ _ _).mono ?_; rintro _ _ ⟨rfl, rfl⟩
  go_wp2_with fail
  go_ret
  exact ⟨ret_bool (by rw [H.out, hs] <;> rfl), bt⟩
 ·
  cases hv : vecB p n f
  ·
   go_enter Tryz.func168, Tryz.ntmps168
   go_wp2_with fail
   refine atomC fun W2 e2 => ?_
   have hb2 : Below w.heap.size w W2 := by rw [e2]; exact bt
   have q2 := hb2.size
   have r1_2 : IsRow W2 (w.heap.size) := by rw [e2]; simp [go_sem]
   have c1_2 := congrArg (fun x => blk x (w.heap.size)) e2; simp [go_sem] at c1_2
   have z1_2 := isRow_lt r1_2
   clear e2
   refine (l01Sizes_any _ _ _).mono ?_; rintro _ _ ⟨rfl, rfl⟩
   go_wp2_with fail
   refine (l01Vector_any _ _ _ _ HU.out).mono ?_; rintro _ W3 ⟨rfl, hw3⟩
   obtain ⟨r1_3, c1_3, z1_3⟩ := keepZ hw3 z1_2 r1_2 c1_2
   obtain ⟨hb3, q3⟩ := bN hb2 hw3
   clear hw3 r1_2 c1_2 z1_2 hb2
   go_wp2_with fail
   go_ret
   exact ⟨ret_bool (by rw [H.out, hs, hv] <;> rfl), bt⟩
  ·
   go_enter Tryz.func168, Tryz.ntmps168
   go_wp2_with fail
   refine atomC fun W4 e4 => ?_
   have hb4 : Below w.heap.size w W4 := by rw [e4]; exact bt
   have q4 := hb4.size
   have r1_4 : IsRow W4 (w.heap.size) := by rw [e4]; simp [go_sem]
   have c1_4 := congrArg (fun x => blk x (w.heap.size)) e4; simp [go_sem] at c1_4
   have z1_4 := isRow_lt r1_4
   clear e4
   refine (l01Sizes_any _ _ _).mono ?_; rintro _ _ ⟨rfl, rfl⟩
   go_wp2_with fail
   refine (l01Vector_any _ _ _ _ HU.out).mono ?_; rintro _ W5 ⟨rfl, hw5⟩
   obtain ⟨r1_5, c1_5, z1_5⟩ := keepZ hw5 z1_4 r1_4 c1_4
   obtain ⟨hb5, q5⟩ := bN hb4 hw5
   clear hw5 r1_4 c1_4 z1_4 hb4
   go_wp2_with fail
   refine (l01Table_any _ _ _ _ HT.out).mono ?_; rintro _ W6 ⟨rfl, hw6⟩
   obtain ⟨hb6, q6⟩ := bN hb5 hw6
   clear hw6 hb5
   go_wp2_with fail
   go_ret
   exact ⟨ret_bool (by rw [H.out, hs, hv] <;> rfl), bt⟩

theorem coB_shape {p n : Int} {f : Nat → Int} (h : shapeB p n f = false) : coB p n f = false := by unfold coB; rw [h]; rfl
theorem coB_of {p : Int} {n : Nat} {f : Nat → Int} (h : shapeB p n f = true) : coB p n f = (cuB p n f && noCoB p n f) := by unfold coB; rw [h]; rfl

set_option maxRecDepth 100000 in
set_option maxHeartbeats 1000000 in
theorem isCo_no (p n : Int) (f : Nat → Int) (w : World) (hF : Bytes 520 f) (hs : shapeB p n f = false) :
    Calls Tryz.prog 160 #[.agg (alg p n f)] w fun e w' => e = .returned (.bool (coB p n f)) ∧ Below w.heap.size w w' := by
 have HF := Lib.hid hF; clear hF
 have H := Lib.hid (coB_shape hs)
 go_enter Tryz.func160, Tryz.ntmps160
 go_wp2_with fail
 refine atomC fun W1 e1 => ?_
 have hb1 : Below w.heap.size w W1 := by rw [e1]; exact bt
 have q1 := hb1.size
 have r1_1 : IsRow W1 (w.heap.size) := by rw [e1]; simp [go_sem]
 have c1_1 := congrArg (fun x => blk x (w.heap.size)) e1; simp [go_sem] at c1_1
 have z1_1 := isRow_lt r1_1
 clear e1
 refine (isShapedCo_any _ _ _ _ HF.out).mono ?_; rintro _ W2 ⟨rfl, hw2⟩
 obtain ⟨r1_2, c1_2, z1_2⟩ := keepZ hw2 z1_1 r1_1 c1_1
 obtain ⟨hb2, q2⟩ := bN hb1 hw2
 clear hw2 r1_1 c1_1 z1_1 hb1
 go_wp2_with fail
 go_ret
 exact ⟨ret_bool (by rw [H.out]), bt⟩

set_option maxRecDepth 100000 in
set_option maxHeartbeats 1000000 in
theorem isCo_cu (p : Int) (n : Nat) (f : Nat → Int) (w : World) (hp : 0 < p) (hp' : p ≤ 255) (hn : n ≤ 8) (hF : Bytes 520 f) (hs : shapeB p n f = true) (hc : cuB p n f = false) :
    Calls Tryz.prog 160 #[.agg (alg p n f)] w fun e w' => e = .returned (.bool (coB p n f)) ∧ Below w.heap.size w w' := by
 have HF := Lib.hid hF; clear hF
 have H := Lib.hid (coB_of hs)
 go_enter Tryz.func160, Tryz.ntmps160
 go_wp2_with fail
 refine atomC fun W1 e1 => ?_
 have hb1 : Below w.heap.size w W1 := by rw [e1]; exact bt
 have q1 := hb1.size
 have r1_1 : IsRow W1 (w.heap.size) := by rw [e1]; simp [go_sem]
 have c1_1 := congrArg (fun x => blk x (w.heap.size)) e1; simp [go_sem] at c1_1
 have z1_1 := isRow_lt r1_1
 clear e1
 refine (isShapedCo_any _ _ _ _ HF.out).mono ?_; rintro _ W2 ⟨rfl, hw2⟩
 obtain ⟨r1_2, c1_2, z1_2⟩ := keepZ hw2 z1_1 r1_1 c1_1
 obtain ⟨hb2, q2⟩ := bN hb1 hw2
 clear hw2 r1_1 c1_1 z1_1 hb1
 go_wp2_with fail
 refine (hasCounit_any p n f _ hp hp' hn HF.out).mono ?_; rintro _ W3 ⟨rfl, hw3⟩
 obtain ⟨r1_3, c1_3, z1_3⟩ := keepZ hw3 z1_2 r1_2 c1_2
 obtain ⟨hb3, q3⟩ := bN hb2 hw3
 clear hw3 r1_2 c1_2 z1_2 hb2
 go_wp2_with fail
 go_ret
 exact ⟨ret_bool (by rw [H.out, hc] <;> rfl), bt⟩

set_option maxRecDepth 100000 in
set_option maxHeartbeats 1000000 in
theorem isCo_none (p : Int) (n : Nat) (f : Nat → Int) (w : World) (hp : 0 < p) (hp' : p ≤ 255) (hn : n ≤ 8) (hF : Bytes 520 f) (hs : shapeB p n f = true) (hc : cuB p n f = true) (hno : NoCo p n f) :
    Calls Tryz.prog 160 #[.agg (alg p n f)] w fun e w' => e = .returned (.bool (coB p n f)) ∧ Below w.heap.size w w' := by
 have HF := Lib.hid hF; clear hF
 have Hno := Lib.hid hno; clear hno
 have H := Lib.hid (coB_of hs); have HN := Lib.hid (noCo_yes Hno.out)
 have hn1 := nil_none; have hn2 := nil_some
 go_enter Tryz.func160, Tryz.ntmps160
 go_wp2_with fail
 refine atomC fun W1 e1 => ?_
 have hb1 : Below w.heap.size w W1 := by rw [e1]; exact bt
 have q1 := hb1.size
 have r1_1 : IsRow W1 (w.heap.size) := by rw [e1]; simp [go_sem]
 have c1_1 := congrArg (fun x => blk x (w.heap.size)) e1; simp [go_sem] at c1_1
 have z1_1 := isRow_lt r1_1
 clear e1
 refine (isShapedCo_any _ _ _ _ HF.out).mono ?_; rintro _ W2 ⟨rfl, hw2⟩
 obtain ⟨r1_2, c1_2, z1_2⟩ := keepZ hw2 z1_1 r1_1 c1_1
 obtain ⟨hb2, q2⟩ := bN hb1 hw2
 clear hw2 r1_1 c1_1 z1_1 hb1
 go_wp2_with fail
 refine (hasCounit_any p n f _ hp hp' hn HF.out).mono ?_; rintro _ W3 ⟨rfl, hw3⟩
 obtain ⟨r1_3, c1_3, z1_3⟩ := keepZ hw3 z1_2 r1_2 c1_2
 obtain ⟨hb3, q3⟩ := bN hb2 hw3
 clear hw3 r1_2 c1_2 z1_2 hb2
 go_wp2_with fail
 refine (findCoFault_none p n f _ hp hp' hn HF.out Hno.out).mono ?_; rintro _ W4 ⟨rfl, hw4⟩
 obtain ⟨hb4, q4⟩ := bN hb3 hw4
 clear hw4 hb3
 go_wp2_with fail
 go_ret
 exact ⟨ret_bool (by rw [H.out, hc, HN.out] <;> rfl), bt⟩

set_option maxRecDepth 100000 in
set_option maxHeartbeats 1000000 in
theorem isCo_some (p : Int) (n : Nat) (f : Nat → Int) (m : Nat) (w : World) (hp : 0 < p) (hp' : p ≤ 255) (hn : n ≤ 8) (hF : Bytes 520 f) (hs : shapeB p n f = true) (hc : cuB p n f = true) (hfi : FirstCo p n f m) :
    Calls Tryz.prog 160 #[.agg (alg p n f)] w fun e w' => e = .returned (.bool (coB p n f)) ∧ Below w.heap.size w w' := by
 have HF := Lib.hid hF; clear hF
 have Hfi := Lib.hid hfi; clear hfi
 have H := Lib.hid (coB_of hs); have HN := Lib.hid (noCo_no Hfi.out)
 have hn1 := nil_none; have hn2 := nil_some
 go_enter Tryz.func160, Tryz.ntmps160
 go_wp2_with fail
 refine atomC fun W1 e1 => ?_
 have hb1 : Below w.heap.size w W1 := by rw [e1]; exact bt
 have q1 := hb1.size
 have r1_1 : IsRow W1 (w.heap.size) := by rw [e1]; simp [go_sem]
 have c1_1 := congrArg (fun x => blk x (w.heap.size)) e1; simp [go_sem] at c1_1
 have z1_1 := isRow_lt r1_1
 clear e1
 refine (isShapedCo_any _ _ _ _ HF.out).mono ?_; rintro _ W2 ⟨rfl, hw2⟩
 obtain ⟨r1_2, c1_2, z1_2⟩ := keepZ hw2 z1_1 r1_1 c1_1
 obtain ⟨hb2, q2⟩ := bN hb1 hw2
 clear hw2 r1_1 c1_1 z1_1 hb1
 go_wp2_with fail
 refine (hasCounit_any p n f _ hp hp' hn HF.out).mono ?_; rintro _ W3 ⟨rfl, hw3⟩
 obtain ⟨r1_3, c1_3, z1_3⟩ := keepZ hw3 z1_2 r1_2 c1_2
 obtain ⟨hb3, q3⟩ := bN hb2 hw3
 clear hw3 r1_2 c1_2 z1_2 hb2
 go_wp2_with fail
 refine (findCoFault_some p n f m _ hp hp' hn HF.out Hfi.out).mono ?_; rintro _ W4 ⟨b4, rfl, hw4, hl4, rb_4, cb_4⟩
 obtain ⟨hb4, q4⟩ := bN hb3 hw4
 clear hw4 hb3
 go_wp2_with fail
 go_ret
 exact ⟨ret_bool (by rw [H.out, hc, HN.out] <;> rfl), bt⟩

theorem isCo_any (p n : Int) (f : Nat → Int) (w : World) (hF : Bytes 520 f) :
    Calls Tryz.prog 160 #[.agg (alg p n f)] w fun e w' => e = .returned (.bool (coB p n f)) ∧ Below w.heap.size w w' := by
  cases hs : shapeB p n f
  · exact isCo_no p n f w hF hs
  · have hq := sizes_range (shape_parts hs).1
    obtain ⟨n, rfl⟩ := Int.eq_ofNat_of_zero_le (show 0 ≤ n by omega)
    cases hc : cuB p n f
    · exact isCo_cu p n f w (by omega) (by omega) (by omega) hF hs hc
    · rcases co_or p n f with h | ⟨m, h⟩
      · exact isCo_none p n f w (by omega) (by omega) (by omega) hF hs hc h
      · exact isCo_some p n f m w (by omega) (by omega) (by omega) hF hs hc h

set_option maxRecDepth 100000 in
set_option maxHeartbeats 1000000 in
theorem l02Is_no (p n : Int) (f : Nat → Int) (w : World) (hF : Bytes 520 f) (hs : shapeB p n f = false) :
    Calls Tryz.prog 149 #[.agg (alg p n f)] w fun e w' => e = .returned (.bool (coB p n f)) ∧ Below w.heap.size w w' := by
 have HF := Lib.hid hF; clear hF
 have H := Lib.hid (coB_shape hs)
 go_enter Tryz.func149, Tryz.ntmps149
 go_wp2_with fail
 refine atomC fun W1 e1 => ?_
 have hb1 : Below w.heap.size w W1 := by rw [e1]; exact bt
 have q1 := hb1.size
 have r1_1 : IsRow W1 (w.heap.size) := by rw [e1]; simp [go_sem]
 have c1_1 := congrArg (fun x => blk x (w.heap.size)) e1; simp [go_sem] at c1_1
 have z1_1 := isRow_lt r1_1
 clear e1
 refine (l02Shape_any _ _ _ _ HF.out).mono ?_; rintro _ W2 ⟨rfl, hw2⟩
 obtain ⟨r1_2, c1_2, z1_2⟩ := keepZ hw2 z1_1 r1_1 c1_1
 obtain ⟨hb2, q2⟩ := bN hb1 hw2
 clear hw2 r1_1 c1_1 z1_1 hb1
 go_wp2_with fail
 go_ret
 exact ⟨ret_bool (by rw [H.out]), bt⟩

set_option maxRecDepth 100000 in
set_option maxHeartbeats 1000000 in
theorem l02Is_none (p : Int) (n : Nat) (f : Nat → Int) (w : World) (hp : 0 < p) (hp' : p ≤ 255) (hn : n ≤ 8) (hF : Bytes 520 f) (hs : shapeB p n f = true) (hno : NoCo p n f) :
    Calls Tryz.prog 149 #[.agg (alg p n f)] w fun e w' => e = .returned (.bool (coB p n f)) ∧ Below w.heap.size w w' := by
 have HF := Lib.hid hF; clear hF
 have Hno := Lib.hid hno; clear hno
 have H := Lib.hid (coB_of hs); have HN := Lib.hid (noCo_yes Hno.out); have HC := Lib.hid (cuS_eq hn hs)
 go_enter Tryz.func149, Tryz.ntmps149
 go_wp2_with fail
 refine atomC fun W1 e1 => ?_
 have hb1 : Below w.heap.size w W1 := by rw [e1]; exact bt
 have q1 := hb1.size
 have r1_1 : IsRow W1 (w.heap.size) := by rw [e1]; simp [go_sem]
 have c1_1 := congrArg (fun x => blk x (w.heap.size)) e1; simp [go_sem] at c1_1
 have z1_1 := isRow_lt r1_1
 clear e1
 refine (l02Shape_any _ _ _ _ HF.out).mono ?_; rintro _ W2 ⟨rfl, hw2⟩
 obtain ⟨r1_2, c1_2, z1_2⟩ := keepZ hw2 z1_1 r1_1 c1_1
 obtain ⟨hb2, q2⟩ := bN hb1 hw2
 clear hw2 r1_1 c1_1 z1_1 hb1
 go_wp2_with fail
 refine (l02Fault_none p n f _ hp hp' hn HF.out Hno.out).mono ?_; rintro _ W3 ⟨rfl, hw3⟩
 obtain ⟨r1_3, c1_3, z1_3⟩ := keepZ hw3 z1_2 r1_2 c1_2
 obtain ⟨hb3, q3⟩ := bN hb2 hw3
 clear hw3 r1_2 c1_2 z1_2 hb2
 go_wp2_with fail
 refine (l02Counits_any p n f _ hp hp' hn HF.out).mono ?_; rintro _ W4 ⟨rfl, hw4⟩
 obtain ⟨hb4, q4⟩ := bN hb3 hw4
 clear hw4 hb3
 go_wp2_with fail
 go_ret
 exact ⟨ret_bool (by rw [H.out, HN.out, HC.out, Bool.and_true]), bt⟩

set_option maxRecDepth 100000 in
set_option maxHeartbeats 1000000 in
theorem l02Is_some (p : Int) (n : Nat) (f : Nat → Int) (m : Nat) (w : World) (hp : 0 < p) (hp' : p ≤ 255) (hn : n ≤ 8) (hF : Bytes 520 f) (hs : shapeB p n f = true) (hfi : FirstCo p n f m) :
    Calls Tryz.prog 149 #[.agg (alg p n f)] w fun e w' => e = .returned (.bool (coB p n f)) ∧ Below w.heap.size w w' := by
 have HF := Lib.hid hF; clear hF
 have Hfi := Lib.hid hfi; clear hfi
 have H := Lib.hid (coB_of hs); have HN := Lib.hid (noCo_no Hfi.out)
 go_enter Tryz.func149, Tryz.ntmps149
 go_wp2_with fail
 refine atomC fun W1 e1 => ?_
 have hb1 : Below w.heap.size w W1 := by rw [e1]; exact bt
 have q1 := hb1.size
 have r1_1 : IsRow W1 (w.heap.size) := by rw [e1]; simp [go_sem]
 have c1_1 := congrArg (fun x => blk x (w.heap.size)) e1; simp [go_sem] at c1_1
 have z1_1 := isRow_lt r1_1
 clear e1
 refine (l02Shape_any _ _ _ _ HF.out).mono ?_; rintro _ W2 ⟨rfl, hw2⟩
 obtain ⟨r1_2, c1_2, z1_2⟩ := keepZ hw2 z1_1 r1_1 c1_1
 obtain ⟨hb2, q2⟩ := bN hb1 hw2
 clear hw2 r1_1 c1_1 z1_1 hb1
 go_wp2_with fail
 refine (l02Fault_some p n f m _ hp hp' hn HF.out Hfi.out).mono ?_; rintro _ W3 ⟨b3, rfl, hw3, hl3, rb_3, cb_3⟩
 obtain ⟨r1_3, c1_3, z1_3⟩ := keepZ hw3 z1_2 r1_2 c1_2
 obtain ⟨hb3, q3⟩ := bN hb2 hw3
 clear hw3 r1_2 c1_2 z1_2 hb2
 go_wp2_with fail
 go_ret
 exact ⟨ret_bool (by rw [H.out, HN.out, Bool.and_false]), bt⟩

theorem l02Is_any (p n : Int) (f : Nat → Int) (w : World) (hF : Bytes 520 f) :
    Calls Tryz.prog 149 #[.agg (alg p n f)] w fun e w' => e = .returned (.bool (coB p n f)) ∧ Below w.heap.size w w' := by
  cases hs : shapeB p n f
  · exact l02Is_no p n f w hF hs
  · have hq := sizes_range (shape_parts hs).1
    obtain ⟨n, rfl⟩ := Int.eq_ofNat_of_zero_le (show 0 ≤ n by omega)
    rcases co_or p n f with h | ⟨m, h⟩
    · exact l02Is_none p n f w (by omega) (by omega) (by omega) hF hs h
    · exact l02Is_some p n f m w (by omega) (by omega) (by omega) hF hs h

/-! ### a coalgebra and m vectors for it -/
def okC (p n : Int) (f : Nat → Int) (m : Nat) (g : Nat → Nat → Int) : Bool := coB p n f && allV p n m g
theorem co_sizes {p n : Int} {f : Nat → Int} (h : coB p n f = true) : sizesB p n = true := by
  unfold coB at h
  simp only [Bool.and_eq_true] at h
  exact (shape_parts h.1).1
theorem co_shape {p n : Int} {f : Nat → Int} (h : coB p n f = true) : shapeB p n f = true := by
  unfold coB at h
  simp only [Bool.and_eq_true] at h
  exact h.1
/-- a list of m vectors lies in block b from off on -/
def VecsAt (w : World) (b off m : Nat) (g : Nat → Nat → Int) : Prop := ∀ i, i < m → off + i * 8 + 8 ≤ (blk w b).size ∧ (blk w b).extract (off + i * 8) (off + i * 8 + 8) = row 8 (g i) ∧ Bytes 8 (g i)
theorem vecs_keep {w W : World} {b off m : Nat} {g : Nat → Nat → Int} (h : VecsAt w b off m g) (e : blk W b = blk w b) : VecsAt W b off m g := by unfold VecsAt; rw [e]; exact h
theorem okC_no {p n : Int} {f : Nat → Int} {m : Nat} {g : Nat → Nat → Int} (hv : (sizesB p n && allV p n m g) = false) : okC p n f m g = false := by
  unfold okC
  cases ha : coB p n f
  · rfl
  · rw [co_sizes ha, Bool.true_and] at hv; rw [hv]; rfl
theorem okC_yes {p n : Int} {f : Nat → Int} {m : Nat} {g : Nat → Nat → Int} (hv : (sizesB p n && allV p n m g) = true) : okC p n f m g = coB p n f := by
  unfold okC
  simp only [Bool.and_eq_true] at hv
  rw [hv.2, Bool.and_true]
end
end Go.Proofs.YtjmmmggnbndolaaGreat
