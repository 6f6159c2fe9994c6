/- Linear maps turned round, applied; coproducts and Counits of vectors, of the program and of the reference model. -/
import Derived.Test.YtnjjcimpcnennaaGen
import Derived.Test.YtnjjcimpcnennaaP17
import Derived.Test.YtnjjcimpcnennaaLin
namespace Go.Proofs.Ytnjjcimpcnennaa
open Go.RowKit
set_option linter.unusedSimpArgs false
set_option linter.unusedVariables false
attribute [local irreducible] wpQuiet wpQE

/-- F turned round: the entry k of image j is the entry j of image k -/
def flipF (F : Nat → Int) : Nat → Int := fun t => F (t % 8 * 8 + t / 8)
/-- i rows are turned, and j entries of row i -/
def flipK (F : Nat → Int) (i j : Nat) : Nat → Int := fun t => if t % 8 < i ∨ (t % 8 = i ∧ t / 8 < j) then F (t % 8 * 8 + t / 8) else 0
theorem flip_zero (F : Nat → Int) : row 64 zf = row 64 (flipK F 0 0) := row_congr fun t _ => by unfold flipK zf; rw [if_neg (by omega)]
theorem flip_step (F : Nat → Int) (i j : Nat) (hi : i < 8) (hj : j < 8) : row 64 (upd (flipK F i j) (j * 8 + i) (F (i * 8 + j))) = row 64 (flipK F i (j + 1)) := row_congr fun t ht => by
  unfold upd flipK
  by_cases e : t = j * 8 + i
  · subst e
    rw [if_pos rfl, if_pos (by omega)]
    congr 1; omega
  · rw [if_neg e]
    by_cases h : t % 8 < i ∨ (t % 8 = i ∧ t / 8 < j)
    · rw [if_pos h, if_pos (by omega)]
    · rw [if_neg h, if_neg (by omega)]
theorem flip_row (F : Nat → Int) (i : Nat) : row 64 (flipK F i 8) = row 64 (flipK F (i + 1) 0) := row_congr fun t ht => by
  unfold flipK
  by_cases h : t % 8 < i ∨ (t % 8 = i ∧ t / 8 < 8)
  · rw [if_pos h, if_pos (by omega)]
  · rw [if_neg h, if_neg (by omega)]
theorem flip_end (F : Nat → Int) : row 64 (flipK F 8 0) = row 64 (flipF F) := row_congr fun t ht => by
  unfold flipK flipF; rw [if_pos (by omega)]

set_option maxRecDepth 100000 in
set_option maxHeartbeats 1000000 in
theorem flipLinear_any (F : Nat → Int) (w : World) (hF : Bytes 64 F) :
    Calls Try.prog 110 #[.agg (row 64 F)] w fun e w' => e = .returned (.agg (row 64 (flipF F))) ∧ Below w.heap.size w w' := by
  have HF := Lib.hid hF; clear hF
  go_enter Try.func110, Try.ntmps110
  go_wp2
  refine atomW fun W1 e1 => ?_
  have hb1 : Below w.heap.size w W1 := by rw [e1]; (repeat (first | exact Below.refl _ _ | refine Below.alloc ?_ (by first | omega | (simp; try omega)) _ | refine below_setRow ?_ (by omega) _ | refine Below.drew ?_))
  have q1 := hb1.size
  have r2_1 : IsRow W1 (w.heap.size + 1) := by rw [e1]; simp [go_sem]
  have c2_1 := congrArg (fun x => blk x (w.heap.size + 1)) e1; simp [go_sem] at c2_1
  have z2_1 := isRow_lt r2_1
  have r3_1 : IsRow W1 (w.heap.size + 2) := by rw [e1]; simp [go_sem]
  have c3_1 := congrArg (fun x => blk x (w.heap.size + 2)) e1; simp [go_sem] at c3_1
  have z3_1 := isRow_lt r3_1
  clear e1
  go_loopw [9] (fun s9 wr => ∃ i : Nat, i ≤ 8 ∧ s9 = .int .i64 i ∧ Below w.heap.size w wr ∧ (IsRow wr (w.heap.size + 1) ∧ blk wr (w.heap.size + 1) = blk W1 (w.heap.size + 1)) ∧ (IsRow wr (w.heap.size + 2) ∧ blk wr (w.heap.size + 2) = row 64 (flipK F i 0))) (fun s9 _ => 8 - (intOf s9).toNat)
  case atStart => exact ⟨0, by omega, rfl, hb1, ⟨r2_1, rfl⟩, ⟨r3_1, c3_1.trans (flip_zero F)⟩⟩
  case round =>
    obtain ⟨i, hle2, rfl, hb2, ⟨r2_2, c2_2⟩, ⟨r3_2, c3_2⟩⟩ := hrel
    obtain ⟨W2, rfl⟩ : ∃ W2 : World, W2 = wr := ⟨_, rfl⟩
    have q2 := hb2.size
    have E2_2 := Lib.hid c2_1; replace c2_2 := c2_2.trans c2_1
    have z2_2 := isRow_lt r2_2
    have z3_2 := isRow_lt r3_2
    clear r2_1 c2_1 z2_1 r3_1 c3_1 z3_1 hb1
    by_cases hlt2 : i < 8
    · skip
      have i0_2 : (0 : Int) ≤ (i : Int) := by omega
      have i8_2 : (i : Int) < 8 := by omega
      have k8_2 : i < 8 := by omega
      have m8_2 : i * 8 + 8 ≤ 64 := by omega
      have m64_2 : i * 64 + 64 ≤ 512 := by omega
      have l1_2 : 10 + i * 64 + 64 ≤ 522 := by omega
      go_wp2
      have nw2_W2_0 : (w.heap.size + 1) ≠ W2.heap.size := by omega
      have nw3_W2_0 : (w.heap.size + 2) ≠ W2.heap.size := by omega
      refine atomW fun W3 e3 => ?_
      have hb3 : Below w.heap.size w W3 := by rw [e3]; (repeat (first | exact hb2 | exact Below.refl _ _ | refine Below.alloc ?_ (by first | omega | (simp; try omega)) _ | refine below_setRow ?_ (by omega) _ | refine Below.drew ?_))
      have q3 := hb3.size
      have r2_3 : IsRow W3 (w.heap.size + 1) := by rw [e3]; simp [go_sem, r2_2, c2_2, r3_2, c3_2, nw2_W2_0, nw3_W2_0]
      have c2_3 := congrArg (fun x => blk x (w.heap.size + 1)) e3; simp [go_sem, r2_2, c2_2, r3_2, c3_2, nw2_W2_0, nw3_W2_0] at c2_3
      have z2_3 := isRow_lt r2_3
      have r3_3 : IsRow W3 (w.heap.size + 2) := by rw [e3]; simp [go_sem, r2_2, c2_2, r3_2, c3_2, nw2_W2_0, nw3_W2_0]
      have c3_3 := congrArg (fun x => blk x (w.heap.size + 2)) e3; simp [go_sem, r2_2, c2_2, r3_2, c3_2, nw2_W2_0, nw3_W2_0] at c3_3
      have z3_3 := isRow_lt r3_3
      clear e3 nw2_W2_0 nw3_W2_0 r2_2 c2_2 z2_2 r3_2 c3_2 z3_2 hb2
      go_loopw [14] (fun s14 wr => ∃ j : Nat, j ≤ 8 ∧ s14 = .int .i64 j ∧ Below w.heap.size w wr ∧ (IsRow wr (w.heap.size + 1) ∧ blk wr (w.heap.size + 1) = blk W3 (w.heap.size + 1)) ∧ (IsRow wr (w.heap.size + 2) ∧ blk wr (w.heap.size + 2) = row 64 (flipK F i j))) (fun s14 _ => 8 - (intOf s14).toNat)
      case atStart => exact ⟨0, by omega, rfl, hb3, ⟨r2_3, rfl⟩, ⟨r3_3, c3_3⟩⟩
      case round =>
        obtain ⟨j, hle4, rfl, hb4, ⟨r2_4, c2_4⟩, ⟨r3_4, c3_4⟩⟩ := hrel
        obtain ⟨W4, rfl⟩ : ∃ W4 : World, W4 = wr := ⟨_, rfl⟩
        have q4 := hb4.size
        have E2_4 := Lib.hid c2_3; replace c2_4 := c2_4.trans c2_3
        have z2_4 := isRow_lt r2_4
        have z3_4 := isRow_lt r3_4
        clear r2_3 c2_3 z2_3 r3_3 c3_3 z3_3 hb3
        by_cases hlt4 : j < 8
        · skip
          have i0_4 : (0 : Int) ≤ (j : Int) := by omega
          have i8_4 : (j : Int) < 8 := by omega
          have k8_4 : j < 8 := by omega
          have m8_4 : j * 8 + 8 ≤ 64 := by omega
          have m64_4 : j * 64 + 64 ≤ 512 := by omega
          have l1_4 : 10 + j * 64 + 64 ≤ 522 := by omega
          have l2_4i : 10 + i * 64 + j * 8 + 8 ≤ 522 := by omega
          have l3_4i : 10 + j * 64 + i * 8 + 8 ≤ 522 := by omega
          have l4_4i : i * 64 + j * 8 + 8 ≤ 512 := by omega
          have l5_4i : j * 64 + i * 8 + 8 ≤ 512 := by omega
          have l6_4i : i * 8 + j < 64 := by omega
          have l7_4i : j * 8 + i < 64 := by omega
          go_wp2
          go_roundw
          case rel => exact ⟨j + 1, by omega, by go_num, (by (repeat (first | exact hb4 | exact Below.refl _ _ | refine Below.alloc ?_ (by first | omega | (simp; try omega)) _ | refine below_setRow ?_ (by omega) _ | refine Below.drew ?_))), ⟨by simp [go_sem, r2_4, c2_4, r3_4, c3_4], (by rw [E2_4.out]; first | exact c2_4 | (simp [go_sem, r2_4, c2_4, r3_4, c3_4]; done))⟩, ⟨by simp [go_sem, r2_4, c2_4, r3_4, c3_4], (by first | (rw [blk_setRow _ _ _ _ r3_4, if_pos rfl]; exact flip_step F i j (by omega) (by omega)) | exact (c3_4).trans (flip_step F i j (by omega) (by omega)) | (simp [go_sem, r2_4, c2_4, r3_4, c3_4]; exact flip_step F i j (by omega) (by omega)))⟩⟩
          case measure => simp [intOf]; omega
        · skip
          obtain rfl : j = 8 := by omega
          go_wp2
          go_roundw
          case rel => exact ⟨i + 1, by omega, by go_num, (by (repeat (first | exact hb4 | exact Below.refl _ _ | refine Below.alloc ?_ (by first | omega | (simp; try omega)) _ | refine below_setRow ?_ (by omega) _ | refine Below.drew ?_))), ⟨by simp [go_sem, r2_4, c2_4, r3_4, c3_4], (by rw [E2_2.out]; first | exact c2_4 | (simp [go_sem, r2_4, c2_4, r3_4, c3_4]; done))⟩, ⟨by simp [go_sem, r2_4, c2_4, r3_4, c3_4], (by first | exact (c3_4).trans (flip_row F i) | (simp [go_sem, r2_4, c2_4, r3_4, c3_4]; exact flip_row F i))⟩⟩
          case measure => simp [intOf]; omega
    · skip
      obtain rfl : i = 8 := by omega
      rw [flip_end F] at c3_2
      go_wp2_with fail
      refine bodyPost_ret (result_cell rfl aggLin _ _ (row 64 (flipF F)) _ rfl ?_ ?_) rfl ⟨rfl, ?_⟩
      · simp [go_sem, r2_2, c2_2, r3_2, c3_2]
      · simp [go_sem, r2_2, c2_2, r3_2, c3_2]
      · repeat (first | exact hb2 | exact Below.refl _ _ | refine Below.alloc ?_ (by first | omega | (simp; try omega)) _ | refine below_setRow ?_ (by omega) _ | refine Below.drew ?_)

/-! ### the image of a vector -/
theorem app_start (p : Int) (G : Nat → Nat → Int) (v : Nat → Int) : row 8 zf = row 8 (appF p 0 G v) := row_congr fun i _ => by simp [appF, sumTo, zf]
theorem byte_at {b' off' m : Nat} {W : World} {N : Nat} {F g : Nat → Int} (hc : blk W b' = row N F) (h : off' + m ≤ N) (hg : ∀ i, i < m → F (off' + i) = g i) (hb : Bytes m g) : ∀ i, i < m → (blk W b')[off' + i]? = some (.int .u8 (g i)) ∧ 0 ≤ g i ∧ g i ≤ 255 :=
  fun i hi => ⟨by rw [hc, row_get? N F _ (by omega), hg i hi], hb i hi⟩
theorem byte_alg {b' : Nat} {W : World} {p n : Int} {f : Nat → Int} (i j : Nat) (hc : blk W b' = alg p n f) (hi : i < 8) (hj : j < 8) (hf : Bytes 520 f) : ∀ t, t < 8 → (blk W b')[10 + i * 64 + j * 8 + t]? = some (.int .u8 (mtab f i j t)) ∧ 0 ≤ mtab f i j t ∧ mtab f i j t ≤ 255 :=
  fun t ht => ⟨by rw [hc]; exact alg_at p n f i j t hi hj ht, tab_bytes hf (i * 64 + (j * 8 + t)) (by omega)⟩

set_option maxRecDepth 100000 in
set_option maxHeartbeats 1000000 in
theorem applyLinear_any (p : Int) (F v : Nat → Int) (w : World) (hp : 0 < p) (hp' : p ≤ 255) (hF : Bytes 64 F) (hv : Bytes 8 v) :
    Calls Try.prog 52 #[.int .i64 p, .agg (row 64 F), .agg (row 8 v)] w fun e w' => e = .returned (.agg (row 8 (appF p 8 (fun j k => F (j * 8 + k)) v))) ∧ Below w.heap.size w w' := by
  have HF := Lib.hid hF; clear hF
  have Hv := Lib.hid hv; clear hv
  go_enter Try.func52, Try.ntmps52
  go_wp2
  refine atomW fun W1 e1 => ?_
  have hb1 : Below w.heap.size w W1 := by rw [e1]; (repeat (first | exact Below.refl _ _ | refine Below.alloc ?_ (by first | omega | (simp; try omega)) _ | refine below_setRow ?_ (by omega) _ | refine Below.drew ?_))
  have q1 := hb1.size
  have r4_1 : IsRow W1 (w.heap.size) := by rw [e1]; simp [go_sem]
  have c4_1 := congrArg (fun x => blk x (w.heap.size)) e1; simp [go_sem] at c4_1
  have z4_1 := isRow_lt r4_1
  have r6_1 : IsRow W1 (w.heap.size + 2) := by rw [e1]; simp [go_sem]
  have c6_1 := congrArg (fun x => blk x (w.heap.size + 2)) e1; simp [go_sem] at c6_1
  have z6_1 := isRow_lt r6_1
  have r7_1 : IsRow W1 (w.heap.size + 3) := by rw [e1]; simp [go_sem]
  have c7_1 := congrArg (fun x => blk x (w.heap.size + 3)) e1; simp [go_sem] at c7_1
  have z7_1 := isRow_lt r7_1
  clear e1
  go_loopw [11] (fun s11 wr => ∃ i : Nat, i ≤ 8 ∧ s11 = .int .i64 i ∧ Below w.heap.size w wr ∧ (IsRow wr (w.heap.size) ∧ blk wr (w.heap.size) = blk W1 (w.heap.size)) ∧ (IsRow wr (w.heap.size + 2) ∧ blk wr (w.heap.size + 2) = blk W1 (w.heap.size + 2)) ∧ (IsRow wr (w.heap.size + 3) ∧ blk wr (w.heap.size + 3) = row 8 (appF p i (fun j k => F (j * 8 + k)) v))) (fun s11 _ => 8 - (intOf s11).toNat)
  case atStart => exact ⟨0, by omega, rfl, hb1, ⟨r4_1, rfl⟩, ⟨r6_1, rfl⟩, ⟨r7_1, c7_1.trans (app_start p _ v)⟩⟩
  case round =>
    obtain ⟨i, hle2, rfl, hb2, ⟨r4_2, c4_2⟩, ⟨r6_2, c6_2⟩, ⟨r7_2, c7_2⟩⟩ := hrel
    obtain ⟨W2, rfl⟩ : ∃ W2 : World, W2 = wr := ⟨_, rfl⟩
    have q2 := hb2.size
    have E4_2 := Lib.hid c4_1; replace c4_2 := c4_2.trans c4_1
    have z4_2 := isRow_lt r4_2
    have E6_2 := Lib.hid c6_1; replace c6_2 := c6_2.trans c6_1
    have z6_2 := isRow_lt r6_2
    have z7_2 := isRow_lt r7_2
    clear r4_1 c4_1 z4_1 r6_1 c6_1 z6_1 r7_1 c7_1 z7_1 hb1
    by_cases hlt2 : i < 8
    · skip
      have i0_2 : (0 : Int) ≤ (i : Int) := by omega
      have i8_2 : (i : Int) < 8 := by omega
      have k8_2 : i < 8 := by omega
      have m8_2 : i * 8 + 8 ≤ 64 := by omega
      have m64_2 : i * 64 + 64 ≤ 512 := by omega
      have l1_2 : 10 + i * 64 + 64 ≤ 522 := by omega
      have b1 := (Hv.out i (by omega)).1; have b2 := (Hv.out i (by omega)).2
      go_wp2
      refine wp_quiet_tail 6 (Below W2.heap.size W2) (by kernel_rfl) (by kernel_rfl) (Below.refl _ _).drew ?_
      simp only [List.take_succ_cons, List.take_zero, List.drop_succ_cons, List.drop_zero]
      iterate 6 (refine q_plain rfl ?_; apply Exists.intro; refine ⟨fun W hW => ?_, ?_⟩; (focus (obtain ⟨x4, y4⟩ := keepB hW z4_2 r4_2 c4_2; obtain ⟨x6, y6⟩ := keepB hW z6_2 r6_2 c6_2; obtain ⟨x7, y7⟩ := keepB hW z7_2 r7_2 c7_2; go_simp; first | done | rfl)); simp only [Act.put, List.setIfInBounds_toArray, List.set_cons_zero, List.set_cons_succ])
      refine wpQuiet_nil ?_
      intro W3 hw3
      obtain ⟨r4_3, c4_3⟩ := keepB hw3 z4_2 r4_2 c4_2
      have z4_3 := isRow_lt r4_3
      obtain ⟨r6_3, c6_3⟩ := keepB hw3 z6_2 r6_2 c6_2
      have z6_3 := isRow_lt r6_3
      obtain ⟨r7_3, c7_3⟩ := keepB hw3 z7_2 r7_2 c7_2
      have z7_3 := isRow_lt r7_3
      have hb3 := hb2.trans (hw3.mono hb2.size)
      have q3 := hb3.size
      clear hw3 r4_2 c4_2 z4_2 r6_2 c6_2 z6_2 r7_2 c7_2 z7_2 hb2
      go_wp2_with fail
      refine (addMultiple_any p _ _ 0 8 8 8 8 _ (i * 8) (appF p i (fun j k => F (j * 8 + k)) v) (fun k => F (i * 8 + k)) _ hp hp' b1 b2 r7_3 c7_3 (by omega) (by omega) (fun t _ _ => app_range p hp i _ v t) (byte_at (N := 64) c4_3 (by omega) (fun _ _ => rfl) (fun t ht => HF.out _ (by omega))) (by omega)).mono ?_; rintro _ _ ⟨rfl, rfl⟩
      go_wp2
      go_roundw
      case rel => exact ⟨i + 1, by omega, by go_num, (by (repeat (first | exact hb3 | exact Below.refl _ _ | refine Below.alloc ?_ (by first | omega | (simp; try omega)) _ | refine below_setRow ?_ (by omega) _ | refine Below.drew ?_))), ⟨by simp [go_sem, r4_3, c4_3, r6_3, c6_3, r7_3, c7_3], (by rw [E4_2.out]; first | exact c4_3 | (simp [go_sem, r4_3, c4_3, r6_3, c6_3, r7_3, c7_3]; done))⟩, ⟨by simp [go_sem, r4_3, c4_3, r6_3, c6_3, r7_3, c7_3], (by rw [E6_2.out]; first | exact c6_3 | (simp [go_sem, r4_3, c4_3, r6_3, c6_3, r7_3, c7_3]; done))⟩, ⟨by simp [go_sem, r4_3, c4_3, r6_3, c6_3, r7_3, c7_3], (by first | (rw [blk_setRow _ _ _ _ r7_3, if_pos rfl]; exact addm_row fun t _ => app_step p i (fun j k => F (j * 8 + k)) v t) | exact (c7_3).trans (addm_row fun t _ => app_step p i (fun j k => F (j * 8 + k)) v t) | (simp [go_sem, r4_3, c4_3, r6_3, c6_3, r7_3, c7_3]; exact addm_row fun t _ => app_step p i (fun j k => F (j * 8 + k)) v t))⟩⟩
      case measure => simp [intOf]; omega
    · skip
      obtain rfl : i = 8 := by omega
      go_wp2_with fail
      refine bodyPost_ret (result_cell rfl aggVec _ _ (row 8 (appF p 8 (fun j k => F (j * 8 + k)) v)) _ rfl ?_ ?_) rfl ⟨rfl, ?_⟩
      · simp [go_sem, r4_2, c4_2, r6_2, c6_2, r7_2, c7_2]
      · simp [go_sem, r4_2, c4_2, r6_2, c6_2, r7_2, c7_2]
      · repeat (first | exact hb2 | exact Below.refl _ _ | refine Below.alloc ?_ (by first | omega | (simp; try omega)) _ | refine below_setRow ?_ (by omega) _ | refine Below.drew ?_)

theorem alg_el (p n : Int) (f : Nat → Int) (i j t : Nat) (hi : i < 8) (hj : j < 8) (ht : t < 8) (h : 10 + i * 64 + j * 8 + t < (alg p n f).size) : (alg p n f)[10 + i * 64 + j * 8 + t] = .int .u8 (mtab f i j t) := by
  have := alg_at p n f i j t hi hj ht
  rw [Array.getElem?_eq_getElem h] at this
  exact Option.some.inj this
theorem alg_cu (p n : Int) (f : Nat → Int) (i : Nat) (hi : i < 8) (h : 2 + i < (alg p n f).size) : (alg p n f)[2 + i] = .int .u8 (f i) := by
  have := alg_get p n f (2 + i) (by omega) (by omega)
  rw [Array.getElem?_eq_getElem h, Nat.add_sub_cancel_left] at this
  exact Option.some.inj this
/-! ### coproducts -/
/-- the coproduct of the first m entries of v: at j, k -/
def copF (p : Int) (f v : Nat → Int) (m : Nat) : Nat → Int := fun t => sumTo (fun i => v i * mtab f i (t / 8) (t % 8)) m % p
/-- i entries of v are done, and the first j images for entry i -/
def copK (p : Int) (f v : Nat → Int) (i j : Nat) : Nat → Int := fun t => if t / 8 < j then copF p f v (i + 1) t else copF p f v i t
theorem cop_start (p : Int) (f v : Nat → Int) : row 64 zf = row 64 (copK p f v 0 0) := row_congr fun t _ => by unfold copK copF; rw [if_neg (by omega)]; simp [sumTo, zf]
theorem cop_range (p : Int) (hp : 0 < p) (f v : Nat → Int) (i j t : Nat) : 0 ≤ copK p f v i j t ∧ copK p f v i j t < p := by
  unfold copK copF
  split
  · exact mod_range _ p hp
  · exact mod_range _ p hp
theorem cop_step (p : Int) (f v : Nat → Int) (i j : Nat) (hj : j < 8) : row 64 (addm p (j * 8) 8 (v i) (copK p f v i j) (mtab f i j)) = row 64 (copK p f v i (j + 1)) := row_congr fun t ht => by
  unfold addm copK copF
  by_cases h : j * 8 ≤ t ∧ t < j * 8 + 8
  · rw [if_pos h, if_neg (by omega), if_pos (by omega), Int.emod_add_emod, sumTo, show t / 8 = j by omega, show t - j * 8 = t % 8 by omega]
  · rw [if_neg h]
    by_cases h2 : t / 8 < j
    · rw [if_pos h2, if_pos (by omega)]
    · rw [if_neg h2, if_neg (by omega)]
theorem cop_row (p : Int) (f v : Nat → Int) (i : Nat) : row 64 (copK p f v i 8) = row 64 (copK p f v (i + 1) 0) := row_congr fun t ht => by
  unfold copK; rw [if_pos (by omega), if_neg (by omega)]
theorem cop_end (p : Int) (f v : Nat → Int) (m : Nat) : row 64 (copK p f v m 0) = row 64 (copF p f v m) := row_congr fun t _ => by
  unfold copK; rw [if_neg (by omega)]

set_option maxRecDepth 100000 in
set_option maxHeartbeats 1000000 in
theorem coproduct_any (p n : Int) (f v : Nat → Int) (w : World) (hp : 0 < p) (hp' : p ≤ 255) (hF : Bytes 520 f) (hv : Bytes 8 v) :
    Calls Try.prog 48 #[.agg (alg p n f), .agg (row 8 v)] w fun e w' => e = .returned (.agg (row 64 (copF p f v 8))) ∧ Below w.heap.size w w' := by
  have HF := Lib.hid hF; clear hF
  have Hv := Lib.hid hv; clear hv
  go_enter Try.func48, Try.ntmps48
  go_wp2
  refine atomW fun W1 e1 => ?_
  have hb1 : Below w.heap.size w W1 := by rw [e1]; (repeat (first | exact Below.refl _ _ | refine Below.alloc ?_ (by first | omega | (simp; try omega)) _ | refine below_setRow ?_ (by omega) _ | refine Below.drew ?_))
  have q1 := hb1.size
  have r2_1 : IsRow W1 (w.heap.size) := by rw [e1]; simp [go_sem]
  have c2_1 := congrArg (fun x => blk x (w.heap.size)) e1; simp [go_sem] at c2_1
  have z2_1 := isRow_lt r2_1
  have r4_1 : IsRow W1 (w.heap.size + 2) := by rw [e1]; simp [go_sem]
  have c4_1 := congrArg (fun x => blk x (w.heap.size + 2)) e1; simp [go_sem] at c4_1
  have z4_1 := isRow_lt r4_1
  have r5_1 : IsRow W1 (w.heap.size + 3) := by rw [e1]; simp [go_sem]
  have c5_1 := congrArg (fun x => blk x (w.heap.size + 3)) e1; simp [go_sem] at c5_1
  have z5_1 := isRow_lt r5_1
  clear e1
  go_loopw [11] (fun s11 wr => ∃ i : Nat, i ≤ 8 ∧ s11 = .int .i64 i ∧ Below w.heap.size w wr ∧ (IsRow wr (w.heap.size) ∧ blk wr (w.heap.size) = blk W1 (w.heap.size)) ∧ (IsRow wr (w.heap.size + 2) ∧ blk wr (w.heap.size + 2) = blk W1 (w.heap.size + 2)) ∧ (IsRow wr (w.heap.size + 3) ∧ blk wr (w.heap.size + 3) = row 64 (copK p f v i 0))) (fun s11 _ => 8 - (intOf s11).toNat)
  case atStart => exact ⟨0, by omega, rfl, hb1, ⟨r2_1, rfl⟩, ⟨r4_1, rfl⟩, ⟨r5_1, c5_1.trans (cop_start p f v)⟩⟩
  case round =>
    obtain ⟨i, hle2, rfl, hb2, ⟨r2_2, c2_2⟩, ⟨r4_2, c4_2⟩, ⟨r5_2, c5_2⟩⟩ := hrel
    obtain ⟨W2, rfl⟩ : ∃ W2 : World, W2 = wr := ⟨_, rfl⟩
    have q2 := hb2.size
    have E2_2 := Lib.hid c2_1; replace c2_2 := c2_2.trans c2_1
    have z2_2 := isRow_lt r2_2
    have E4_2 := Lib.hid c4_1; replace c4_2 := c4_2.trans c4_1
    have z4_2 := isRow_lt r4_2
    have z5_2 := isRow_lt r5_2
    clear r2_1 c2_1 z2_1 r4_1 c4_1 z4_1 r5_1 c5_1 z5_1 hb1
    by_cases hlt2 : i < 8
    · skip
      have i0_2 : (0 : Int) ≤ (i : Int) := by omega
      have i8_2 : (i : Int) < 8 := by omega
      have k8_2 : i < 8 := by omega
      have m8_2 : i * 8 + 8 ≤ 64 := by omega
      have m64_2 : i * 64 + 64 ≤ 512 := by omega
      have l1_2 : 10 + i * 64 + 64 ≤ 522 := by omega
      have b1 := (Hv.out i (by omega)).1; have b2 := (Hv.out i (by omega)).2
      go_wp2
      go_loopw [19] (fun s19 wr => ∃ j : Nat, j ≤ 8 ∧ s19 = .int .i64 j ∧ Below w.heap.size w wr ∧ (IsRow wr (w.heap.size) ∧ blk wr (w.heap.size) = blk W2 (w.heap.size)) ∧ (IsRow wr (w.heap.size + 2) ∧ blk wr (w.heap.size + 2) = blk W2 (w.heap.size + 2)) ∧ (IsRow wr (w.heap.size + 3) ∧ blk wr (w.heap.size + 3) = row 64 (copK p f v i j))) (fun s19 _ => 8 - (intOf s19).toNat)
      case atStart => exact ⟨0, by omega, rfl, hb2, ⟨r2_2, rfl⟩, ⟨r4_2, rfl⟩, ⟨r5_2, c5_2⟩⟩
      case round =>
        obtain ⟨j, hle3, rfl, hb3, ⟨r2_3, c2_3⟩, ⟨r4_3, c4_3⟩, ⟨r5_3, c5_3⟩⟩ := hrel
        obtain ⟨W3, rfl⟩ : ∃ W3 : World, W3 = wr := ⟨_, rfl⟩
        have q3 := hb3.size
        have E2_3 := Lib.hid c2_2; replace c2_3 := c2_3.trans c2_2
        have z2_3 := isRow_lt r2_3
        have E4_3 := Lib.hid c4_2; replace c4_3 := c4_3.trans c4_2
        have z4_3 := isRow_lt r4_3
        have z5_3 := isRow_lt r5_3
        clear r2_2 c2_2 z2_2 r4_2 c4_2 z4_2 r5_2 c5_2 z5_2 hb2
        by_cases hlt3 : j < 8
        · skip
          have i0_3 : (0 : Int) ≤ (j : Int) := by omega
          have i8_3 : (j : Int) < 8 := by omega
          have k8_3 : j < 8 := by omega
          have m8_3 : j * 8 + 8 ≤ 64 := by omega
          have m64_3 : j * 64 + 64 ≤ 512 := by omega
          have l1_3 : 10 + j * 64 + 64 ≤ 522 := by omega
          have l2_3i : 10 + i * 64 + j * 8 + 8 ≤ 522 := by omega
          have l3_3i : 10 + j * 64 + i * 8 + 8 ≤ 522 := by omega
          have l4_3i : i * 64 + j * 8 + 8 ≤ 512 := by omega
          have l5_3i : j * 64 + i * 8 + 8 ≤ 512 := by omega
          have l6_3i : i * 8 + j < 64 := by omega
          have l7_3i : j * 8 + i < 64 := by omega
          go_wp2
          have nw2_W3_0 : (w.heap.size) ≠ W3.heap.size := by omega
          have nw4_W3_0 : (w.heap.size + 2) ≠ W3.heap.size := by omega
          have nw5_W3_0 : (w.heap.size + 3) ≠ W3.heap.size := by omega
          refine atomW fun W4 e4 => ?_
          have hb4 : Below w.heap.size w W4 := by rw [e4]; (repeat (first | exact hb3 | exact Below.refl _ _ | refine Below.alloc ?_ (by first | omega | (simp; try omega)) _ | refine below_setRow ?_ (by omega) _ | refine Below.drew ?_))
          have q4 := hb4.size
          have r2_4 : IsRow W4 (w.heap.size) := by rw [e4]; simp [go_sem, r2_3, c2_3, r4_3, c4_3, r5_3, c5_3, nw2_W3_0, nw4_W3_0, nw5_W3_0]
          have c2_4 := congrArg (fun x => blk x (w.heap.size)) e4; simp [go_sem, r2_3, c2_3, r4_3, c4_3, r5_3, c5_3, nw2_W3_0, nw4_W3_0, nw5_W3_0] at c2_4
          have z2_4 := isRow_lt r2_4
          have r4_4 : IsRow W4 (w.heap.size + 2) := by rw [e4]; simp [go_sem, r2_3, c2_3, r4_3, c4_3, r5_3, c5_3, nw2_W3_0, nw4_W3_0, nw5_W3_0]
          have c4_4 := congrArg (fun x => blk x (w.heap.size + 2)) e4; simp [go_sem, r2_3, c2_3, r4_3, c4_3, r5_3, c5_3, nw2_W3_0, nw4_W3_0, nw5_W3_0] at c4_4
          have z4_4 := isRow_lt r4_4
          have r5_4 : IsRow W4 (w.heap.size + 3) := by rw [e4]; simp [go_sem, r2_3, c2_3, r4_3, c4_3, r5_3, c5_3, nw2_W3_0, nw4_W3_0, nw5_W3_0]
          have c5_4 := congrArg (fun x => blk x (w.heap.size + 3)) e4; simp [go_sem, r2_3, c2_3, r4_3, c4_3, r5_3, c5_3, nw2_W3_0, nw4_W3_0, nw5_W3_0] at c5_4
          have z5_4 := isRow_lt r5_4
          have r9_4 : IsRow W4 (W3.heap.size) := by rw [e4]; simp [go_sem, r2_3, c2_3, r4_3, c4_3, r5_3, c5_3, nw2_W3_0, nw4_W3_0, nw5_W3_0]
          have c9_4 := congrArg (fun x => blk x (W3.heap.size)) e4; simp [go_sem, r2_3, c2_3, r4_3, c4_3, r5_3, c5_3, nw2_W3_0, nw4_W3_0, nw5_W3_0] at c9_4
          have z9_4 := isRow_lt r9_4
          have n2_9 : (w.heap.size) ≠ (W3.heap.size) := by omega
          have n4_9 : (w.heap.size + 2) ≠ (W3.heap.size) := by omega
          have n5_9 : (w.heap.size + 3) ≠ (W3.heap.size) := by omega
          have n9_2 : (W3.heap.size) ≠ (w.heap.size) := by omega
          have n9_4 : (W3.heap.size) ≠ (w.heap.size + 2) := by omega
          have n9_5 : (W3.heap.size) ≠ (w.heap.size + 3) := by omega
          clear e4 nw2_W3_0 nw4_W3_0 nw5_W3_0 r2_3 c2_3 z2_3 r4_3 c4_3 z4_3 r5_3 c5_3 z5_3 hb3
          refine wp_quiet_tail 7 (Below W4.heap.size W4) (by kernel_rfl) (by kernel_rfl) (Below.refl _ _).drew ?_
          simp only [List.take_succ_cons, List.take_zero, List.drop_succ_cons, List.drop_zero]
          iterate 7 (refine q_plain rfl ?_; apply Exists.intro; refine ⟨fun W hW => ?_, ?_⟩; (focus (obtain ⟨x2, y2⟩ := keepB hW z2_4 r2_4 c2_4; obtain ⟨x4, y4⟩ := keepB hW z4_4 r4_4 c4_4; obtain ⟨x5, y5⟩ := keepB hW z5_4 r5_4 c5_4; obtain ⟨x9, y9⟩ := keepB hW z9_4 r9_4 c9_4; go_simp; first | done | rfl)); simp only [Act.put, List.setIfInBounds_toArray, List.set_cons_zero, List.set_cons_succ])
          refine wpQuiet_nil ?_
          intro W5 hw5
          obtain ⟨r2_5, c2_5⟩ := keepB hw5 z2_4 r2_4 c2_4
          have z2_5 := isRow_lt r2_5
          obtain ⟨r4_5, c4_5⟩ := keepB hw5 z4_4 r4_4 c4_4
          have z4_5 := isRow_lt r4_5
          obtain ⟨r5_5, c5_5⟩ := keepB hw5 z5_4 r5_4 c5_4
          have z5_5 := isRow_lt r5_5
          obtain ⟨r9_5, c9_5⟩ := keepB hw5 z9_4 r9_4 c9_4
          have z9_5 := isRow_lt r9_5
          have hb5 := hb4.trans (hw5.mono hb4.size)
          have q5 := hb5.size
          clear hw5 r2_4 c2_4 z2_4 r4_4 c4_4 z4_4 r5_4 c5_4 z5_4 r9_4 c9_4 z9_4 hb4
          go_wp2_with fail
          refine (addMultiple_any p _ _ (j * 8) 64 8 _ _ _ 0 (copK p f v i j) (mtab f i j) _ hp hp' b1 b2 r5_5 c5_5 (by omega) (by omega) (fun t _ _ => cop_range p hp f v i j t) (byte_at (N := 8) (off' := 0) c9_5 (by omega) (fun t _ => by rw [Nat.zero_add]; rfl) (fun t ht => tab_bytes HF.out _ (by omega))) (by omega)).mono ?_; rintro _ _ ⟨rfl, rfl⟩
          go_wp2
          go_roundw
          case rel => exact ⟨j + 1, by omega, by go_num, (by (repeat (first | exact hb5 | exact Below.refl _ _ | refine Below.alloc ?_ (by first | omega | (simp; try omega)) _ | refine below_setRow ?_ (by omega) _ | refine Below.drew ?_))), ⟨by simp [go_sem, r2_5, c2_5, n2_9, r4_5, c4_5, n4_9, r5_5, c5_5, n5_9, r9_5, c9_5, n9_2, n9_4, n9_5], (by rw [E2_3.out]; first | exact c2_5 | (simp [go_sem, r2_5, c2_5, n2_9, r4_5, c4_5, n4_9, r5_5, c5_5, n5_9, r9_5, c9_5, n9_2, n9_4, n9_5]; done))⟩, ⟨by simp [go_sem, r2_5, c2_5, n2_9, r4_5, c4_5, n4_9, r5_5, c5_5, n5_9, r9_5, c9_5, n9_2, n9_4, n9_5], (by rw [E4_3.out]; first | exact c4_5 | (simp [go_sem, r2_5, c2_5, n2_9, r4_5, c4_5, n4_9, r5_5, c5_5, n5_9, r9_5, c9_5, n9_2, n9_4, n9_5]; done))⟩, ⟨by simp [go_sem, r2_5, c2_5, n2_9, r4_5, c4_5, n4_9, r5_5, c5_5, n5_9, r9_5, c9_5, n9_2, n9_4, n9_5], (by first | (rw [blk_setRow _ _ _ _ r5_5, if_pos rfl]; exact cop_step p f v i j (by omega)) | exact (c5_5).trans (cop_step p f v i j (by omega)) | (simp [go_sem, r2_5, c2_5, n2_9, r4_5, c4_5, n4_9, r5_5, c5_5, n5_9, r9_5, c9_5, n9_2, n9_4, n9_5]; exact cop_step p f v i j (by omega)))⟩⟩
          case measure => simp [intOf]; omega
        · skip
          obtain rfl : j = 8 := by omega
          go_wp2
          go_roundw
          case rel => exact ⟨i + 1, by omega, by go_num, (by (repeat (first | exact hb3 | exact Below.refl _ _ | refine Below.alloc ?_ (by first | omega | (simp; try omega)) _ | refine below_setRow ?_ (by omega) _ | refine Below.drew ?_))), ⟨by simp [go_sem, r2_3, c2_3, r4_3, c4_3, r5_3, c5_3], (by rw [E2_2.out]; first | exact c2_3 | (simp [go_sem, r2_3, c2_3, r4_3, c4_3, r5_3, c5_3]; done))⟩, ⟨by simp [go_sem, r2_3, c2_3, r4_3, c4_3, r5_3, c5_3], (by rw [E4_2.out]; first | exact c4_3 | (simp [go_sem, r2_3, c2_3, r4_3, c4_3, r5_3, c5_3]; done))⟩, ⟨by simp [go_sem, r2_3, c2_3, r4_3, c4_3, r5_3, c5_3], (by first | exact (c5_3).trans (cop_row p f v i) | (simp [go_sem, r2_3, c2_3, r4_3, c4_3, r5_3, c5_3]; exact cop_row p f v i))⟩⟩
          case measure => simp [intOf]; omega
    · skip
      obtain rfl : i = 8 := by omega
      rw [cop_end p f v 8] at c5_2
      go_wp2_with fail
      refine bodyPost_ret (result_cell rfl aggLin _ _ (row 64 (copF p f v 8)) _ rfl ?_ ?_) rfl ⟨rfl, ?_⟩
      · simp [go_sem, r2_2, c2_2, r4_2, c4_2, r5_2, c5_2]
      · simp [go_sem, r2_2, c2_2, r4_2, c4_2, r5_2, c5_2]
      · repeat (first | exact hb2 | exact Below.refl _ _ | refine Below.alloc ?_ (by first | omega | (simp; try omega)) _ | refine below_setRow ?_ (by omega) _ | refine Below.drew ?_)

/-- the coproduct by images before n alone -/
def copS (p : Int) (f v : Nat → Int) (n i j : Nat) : Nat → Int := fun t => if t / 8 < n then copK p f v i j t else 0
theorem copS_start (p : Int) (f v : Nat → Int) (n : Nat) : row 64 zf = row 64 (copS p f v n 0 0) := row_congr fun t _ => by
  unfold copS copK copF
  rw [if_neg (show ¬ t / 8 < 0 by omega)]
  split <;> simp [sumTo, zf]
theorem copS_bytes {p : Int} (hp : 0 < p) (hp' : p ≤ 255) (f v : Nat → Int) (n i j : Nat) (t : Nat) : 0 ≤ copS p f v n i j t ∧ copS p f v n i j t ≤ 255 := by
  unfold copS
  split
  · have := cop_range p hp f v i j t; omega
  · omega
theorem copS_step (p : Int) (f v : Nat → Int) (n i j : Nat) (hj : j < n) (hn : n ≤ 8) : lay (row 64 (copS p f v n i j)) (j * 8) (row 8 (addm p 0 8 (v i) (fun t => copS p f v n i j (j * 8 + t)) (mtab f i j))) = row 64 (copS p f v n i (j + 1)) := by
  rw [lay_row _ _ _ _ _ (by omega)]
  refine row_congr fun t ht => ?_
  by_cases h : j * 8 ≤ t ∧ t < j * 8 + 8
  · rw [if_pos h]
    unfold addm
    rw [if_pos (by omega)]
    dsimp only
    rw [Nat.sub_zero, show j * 8 + (t - j * 8) = t by omega, show t - j * 8 = t % 8 by omega]
    unfold copS copK copF
    rw [if_pos (show t / 8 < n by omega), if_pos (show t / 8 < n by omega), if_neg (show ¬ t / 8 < j by omega), if_pos (show t / 8 < j + 1 by omega), Int.emod_add_emod, sumTo, show t / 8 = j by omega]
  · rw [if_neg h]
    unfold copS copK
    by_cases h1 : t / 8 < n
    · rw [if_pos h1, if_pos h1]
      by_cases h2 : t / 8 < j
      · rw [if_pos h2, if_pos (by omega)]
      · rw [if_neg h2, if_neg (by omega)]
    · rw [if_neg h1, if_neg h1]
theorem copS_row (p : Int) (f v : Nat → Int) (n i : Nat) : row 64 (copS p f v n i n) = row 64 (copS p f v n (i + 1) 0) := row_congr fun t ht => by
  unfold copS copK
  by_cases h1 : t / 8 < n
  · rw [if_pos h1, if_pos h1, if_pos h1, if_neg (by omega)]
  · rw [if_neg h1, if_neg h1]

/-! ### Counits -/
theorem dot_range {v u : Nat → Int} (n : Nat) (hv : Bytes n v) (hu : Bytes n u) : ∀ k, k ≤ n → 0 ≤ dotF k v u ∧ dotF k v u ≤ 65025 * k
  | 0, _ => by simp [dotF, sumTo]
  | k + 1, h => by
    have := dot_range n hv hu k (by omega)
    have := prod_le (v k) (u k) 255 255 (hv k (by omega)).1 (hu k (by omega)).1 (hv k (by omega)).2 (hu k (by omega)).2
    unfold dotF at *
    rw [sumTo]
    omega
theorem dot_succ (v u : Nat → Int) (k : Nat) : dotF k v u + v k * u k = dotF (k + 1) v u := rfl
theorem ret_mod {a b p : Int} (hp : 0 < p) (h : a = b) : Ending.returned (.int .i64 (a % p)) = .returned (.int .i64 (b % p)) := by rw [h]

set_option maxRecDepth 100000 in
set_option maxHeartbeats 1000000 in
theorem formValue_any (p : Int) (v u : Nat → Int) (w : World) (hp : 0 < p) (hp' : p ≤ 255) (hv : Bytes 8 v) (hu : Bytes 8 u) :
    Calls Try.prog 50 #[.int .i64 p, .agg (row 8 v), .agg (row 8 u)] w fun e w' => e = .returned (.int .i64 (dotF 8 v u % p)) ∧ Below w.heap.size w w' := by
  have Hv := Lib.hid hv; clear hv
  have Hu := Lib.hid hu; clear hu
  go_enter Try.func50, Try.ntmps50
  go_wp2
  refine atomW fun W1 e1 => ?_
  have hb1 : Below w.heap.size w W1 := by rw [e1]; (repeat (first | exact Below.refl _ _ | refine Below.alloc ?_ (by first | omega | (simp; try omega)) _ | refine below_setRow ?_ (by omega) _ | refine Below.drew ?_))
  have q1 := hb1.size
  have r4_1 : IsRow W1 (w.heap.size) := by rw [e1]; simp [go_sem]
  have c4_1 := congrArg (fun x => blk x (w.heap.size)) e1; simp [go_sem] at c4_1
  have z4_1 := isRow_lt r4_1
  clear e1
  go_loopw [7, 11] (fun s7 s11 wr => ∃ i : Nat, i ≤ 8 ∧ s7 = .int .i64 (dotF i v u) ∧ s11 = .int .i64 i ∧ Below w.heap.size w wr ∧ (IsRow wr (w.heap.size) ∧ blk wr (w.heap.size) = blk W1 (w.heap.size))) (fun _ s11 _ => 8 - (intOf s11).toNat)
  case atStart => exact ⟨0, by omega, (by first | rfl | (simp; done) | go_num), rfl, hb1, ⟨r4_1, rfl⟩⟩
  case round =>
    obtain ⟨i, hle2, rfl, rfl, hb2, ⟨r4_2, c4_2⟩⟩ := hrel
    obtain ⟨W2, rfl⟩ : ∃ W2 : World, W2 = wr := ⟨_, rfl⟩
    have q2 := hb2.size
    have E4_2 := Lib.hid c4_1; replace c4_2 := c4_2.trans c4_1
    have z4_2 := isRow_lt r4_2
    clear r4_1 c4_1 z4_1 hb1
    have d1 := (dot_range 8 Hv.out Hu.out i (by omega)).1; have d2 := (dot_range 8 Hv.out Hu.out i (by omega)).2
    by_cases hlt2 : i < 8
    · skip
      have i0_2 : (0 : Int) ≤ (i : Int) := by omega
      have i8_2 : (i : Int) < 8 := by omega
      have k8_2 : i < 8 := by omega
      have m8_2 : i * 8 + 8 ≤ 64 := by omega
      have m64_2 : i * 64 + 64 ≤ 512 := by omega
      have l1_2 : 10 + i * 64 + 64 ≤ 522 := by omega
      have b1 := (Hv.out i (by omega)).1; have b2 := (Hv.out i (by omega)).2; have b3 := (Hu.out i (by omega)).1; have b4 := (Hu.out i (by omega)).2; have b5 := (prod_le (v i) (u i) 255 255 b1 b3 b2 b4).1; have b6 := (prod_le (v i) (u i) 255 255 b1 b3 b2 b4).2
      go_wp2
      go_roundw
      case rel => exact ⟨i + 1, by omega, (by first | rfl | go_num | (simp; done)), by go_num, (by (repeat (first | exact hb2 | exact Below.refl _ _ | refine Below.alloc ?_ (by first | omega | (simp; try omega)) _ | refine below_setRow ?_ (by omega) _ | refine Below.drew ?_))), ⟨by simp [go_sem, r4_2, c4_2], (by rw [E4_2.out]; first | exact c4_2 | (simp [go_sem, r4_2, c4_2]; done))⟩⟩
      case measure => simp [intOf]; omega
    · skip
      obtain rfl : i = 8 := by omega
      go_wp2_with fail
      go_ret
      exact ⟨rfl, (by (repeat (first | exact hb2 | exact Below.refl _ _ | refine Below.alloc ?_ (by first | omega | (simp; try omega)) _ | refine below_setRow ?_ (by omega) _ | refine Below.drew ?_)))⟩

end Go.Proofs.Ytnjjcimpcnennaa
