/- Sums of coassociativity, and the counit, of the program and of the reference model. -/
import Derived.Test.YtnjjcimpcnennaaQ2
namespace Go.Proofs.Ytnjjcimpcnennaa
open Go.RowKit
set_option linter.unusedSimpArgs false
set_option linter.unusedVariables false
attribute [local irreducible] wpQuiet wpQE

theorem result_cell2 {fn : Func} {p q : Tmp} {T m U k : Nat} {P : Program} (h : fn.results = #[.cell p T, .cell q U]) (hT : AggT P T m) (hU : AggT P U k) (tmps : Array Value) (b d : Nat) (cs ds : Array Value) (w : World) (hp : tmps.getD p undef = .pointer (some ⟨b, 0, none⟩)) (hq : tmps.getD q undef = .pointer (some ⟨d, 0, none⟩)) (hB : Has w b (0 + m)) (hc : (blk w b).extract 0 (0 + m) = cs) (hD : Has w d (0 + k)) (hd : (blk w d).extract 0 (0 + k) = ds) :
    (results fn tmps).run P w = .ok (.tuple #[.agg cs, .agg ds]) w := by
  have h1 := run_loadVar_blk hT w b 0 hB
  rw [hc] at h1
  have h2 := run_loadVar_blk hU w d 0 hD
  rw [hd] at h2
  simp only [Array.getD_eq_getD_getElem?] at hp hq
  simp [results, h, hp, hq, asAddr, h1, h2]

theorem sum_range {g : Nat → Int} {c : Int} (hc : 0 ≤ c) (n : Nat) (h : ∀ i, i < n → 0 ≤ g i ∧ g i ≤ c) : ∀ k, k ≤ n → 0 ≤ sumTo g k ∧ sumTo g k ≤ c * k
  | 0, _ => by simp [sumTo]
  | k + 1, hk => by
    have h1 := sum_range hc n h k (by omega)
    have h2 := h k (by omega)
    rw [sumTo, Int.natCast_add, Int.mul_add]
    omega
/-- the two sums of coassociativity over the first m elements, entry l -/
def coL (p : Int) (f : Nat → Int) (i j k m l : Nat) : Int := sumTo (fun a => mtab f a j k * mtab f i a l) m % p
def coR (p : Int) (f : Nat → Int) (i j k m l : Nat) : Int := sumTo (fun a => mtab f i j a * mtab f a k l) m % p
theorem coL_zero (p : Int) (f : Nat → Int) (i j k : Nat) : row 8 zf = row 8 (coL p f i j k 0) := row_congr fun t _ => by simp [coL, sumTo, zf]
theorem coR_zero (p : Int) (f : Nat → Int) (i j k : Nat) : row 8 zf = row 8 (coR p f i j k 0) := row_congr fun t _ => by simp [coR, sumTo, zf]
theorem coL_step (p : Int) (f : Nat → Int) (i j k m : Nat) : row 8 (addm p 0 8 (mtab f m j k) (coL p f i j k m) (mtab f i m)) = row 8 (coL p f i j k (m + 1)) := addm_row fun t _ => by unfold coL; rw [Int.emod_add_emod, sumTo]
theorem coR_step (p : Int) (f : Nat → Int) (i j k m : Nat) : row 8 (addm p 0 8 (mtab f i j m) (coR p f i j k m) (mtab f m k)) = row 8 (coR p f i j k (m + 1)) := addm_row fun t _ => by unfold coR; rw [Int.emod_add_emod, sumTo]
theorem mtab_range {f : Nat → Int} (h : Bytes 520 f) (i j k : Nat) (hi : i < 8) (hj : j < 8) (hk : k < 8) : 0 ≤ mtab f i j k ∧ mtab f i j k ≤ 255 := mtab_bytes h i j hi hj k hk

set_option maxRecDepth 100000 in
set_option maxHeartbeats 1000000 in
theorem coassociativitySums_any (p : Int) (n : Nat) (f : Nat → Int) (i j k : Nat) (w : World) (hp : 0 < p) (hp' : p ≤ 255) (hn : n ≤ 8) (hi : i < 8) (hj : j < 8) (hk : k < 8) (hF : Bytes 520 f) :
    Calls Try.prog 111 #[.agg (alg p n f), .int .i64 i, .int .i64 j, .int .i64 k] w fun e w' => e = .returned (.tuple #[.agg (row 8 (coL p f i j k n)), .agg (row 8 (coR p f i j k n))]) ∧ Below w.heap.size w w' := by
  have HF := Lib.hid hF; clear hF
  have xi : (i : Int) < 8 := by omega
  have xj : (j : Int) < 8 := by omega
  have xk : (k : Int) < 8 := by omega
  go_enter Try.func111, Try.ntmps111
  go_wp2
  refine atomW fun W1 e1 => ?_
  have hb1 : Below w.heap.size w W1 := by rw [e1]; (repeat (first | exact Below.refl _ _ | refine Below.alloc ?_ (by first | omega | (simp; try omega)) _ | refine below_setRow ?_ (by omega) _ | refine Below.drew ?_))
  have q1 := hb1.size
  have r4_1 : IsRow W1 (w.heap.size) := by rw [e1]; simp [go_sem]
  have c4_1 := congrArg (fun x => blk x (w.heap.size)) e1; simp [go_sem] at c4_1
  have z4_1 := isRow_lt r4_1
  have r8_1 : IsRow W1 (w.heap.size + 1) := by rw [e1]; simp [go_sem]
  have c8_1 := congrArg (fun x => blk x (w.heap.size + 1)) e1; simp [go_sem] at c8_1
  have z8_1 := isRow_lt r8_1
  have r9_1 : IsRow W1 (w.heap.size + 2) := by rw [e1]; simp [go_sem]
  have c9_1 := congrArg (fun x => blk x (w.heap.size + 2)) e1; simp [go_sem] at c9_1
  have z9_1 := isRow_lt r9_1
  have r10_1 : IsRow W1 (w.heap.size + 3) := by rw [e1]; simp [go_sem]
  have c10_1 := congrArg (fun x => blk x (w.heap.size + 3)) e1; simp [go_sem] at c10_1
  have z10_1 := isRow_lt r10_1
  have r11_1 : IsRow W1 (w.heap.size + 4) := by rw [e1]; simp [go_sem]
  have c11_1 := congrArg (fun x => blk x (w.heap.size + 4)) e1; simp [go_sem] at c11_1
  have z11_1 := isRow_lt r11_1
  clear e1
  go_loopw [15] (fun s15 wr => ∃ a : Nat, a ≤ n ∧ s15 = .int .i64 a ∧ Below w.heap.size w wr ∧ (IsRow wr (w.heap.size) ∧ blk wr (w.heap.size) = blk W1 (w.heap.size)) ∧ (IsRow wr (w.heap.size + 1) ∧ blk wr (w.heap.size + 1) = blk W1 (w.heap.size + 1)) ∧ (IsRow wr (w.heap.size + 2) ∧ blk wr (w.heap.size + 2) = blk W1 (w.heap.size + 2)) ∧ (IsRow wr (w.heap.size + 3) ∧ blk wr (w.heap.size + 3) = row 8 (coL p f i j k a)) ∧ (IsRow wr (w.heap.size + 4) ∧ blk wr (w.heap.size + 4) = row 8 (coR p f i j k a))) (fun s15 _ => n - (intOf s15).toNat)
  case atStart => exact ⟨0, by omega, rfl, hb1, ⟨r4_1, rfl⟩, ⟨r8_1, rfl⟩, ⟨r9_1, rfl⟩, ⟨r10_1, c10_1.trans (coL_zero p f i j k)⟩, ⟨r11_1, c11_1.trans (coR_zero p f i j k)⟩⟩
  case round =>
    obtain ⟨a, hle2, rfl, hb2, ⟨r4_2, c4_2⟩, ⟨r8_2, c8_2⟩, ⟨r9_2, c9_2⟩, ⟨r10_2, c10_2⟩, ⟨r11_2, c11_2⟩⟩ := hrel
    obtain ⟨W2, rfl⟩ : ∃ W2 : World, W2 = wr := ⟨_, rfl⟩
    have q2 := hb2.size
    have E4_2 := Lib.hid c4_1; replace c4_2 := c4_2.trans c4_1
    have z4_2 := isRow_lt r4_2
    have E8_2 := Lib.hid c8_1; replace c8_2 := c8_2.trans c8_1
    have z8_2 := isRow_lt r8_2
    have E9_2 := Lib.hid c9_1; replace c9_2 := c9_2.trans c9_1
    have z9_2 := isRow_lt r9_2
    have z10_2 := isRow_lt r10_2
    have z11_2 := isRow_lt r11_2
    clear r4_1 c4_1 z4_1 r8_1 c8_1 z8_1 r9_1 c9_1 z9_1 r10_1 c10_1 z10_1 r11_1 c11_1 z11_1 hb1
    by_cases hlt2 : a < n
    · skip
      have i0_2 : (0 : Int) ≤ (a : Int) := by omega
      have i8_2 : (a : Int) < 8 := by omega
      have k8_2 : a < 8 := by omega
      have m8_2 : a * 8 + 8 ≤ 64 := by omega
      have m64_2 : a * 64 + 64 ≤ 512 := by omega
      have l1_2 : 10 + a * 64 + 64 ≤ 522 := by omega
      have e1 := alg_el p n f a j k (by omega) hj hk
      have e2 := alg_el p n f i j a hi hj (by omega)
      have b1 := (mtab_range HF.out a j k (by omega) hj hk).1; have b2 := (mtab_range HF.out a j k (by omega) hj hk).2; have b3 := (mtab_range HF.out i j a hi hj (by omega)).1; have b4 := (mtab_range HF.out i j a hi hj (by omega)).2
      have g1 : 10 + i * 64 + a * 8 + 8 ≤ 522 := by omega
      have g2 : 10 + a * 64 + k * 8 + 8 ≤ 522 := by omega
      have g3 : 10 + a * 64 + j * 8 + k < 522 := by omega
      have g4 : 10 + i * 64 + j * 8 + a < 522 := by omega
      go_wp2
      refine wp_quiet_tail 17 (Below W2.heap.size W2) (by kernel_rfl) (by kernel_rfl) (Below.refl _ _).drew ?_
      simp only [List.take_succ_cons, List.take_zero, List.drop_succ_cons, List.drop_zero]
      iterate 17 (refine q_plain rfl ?_; apply Exists.intro; refine ⟨fun W hW => ?_, ?_⟩; (focus (obtain ⟨x4, y4⟩ := keepB hW z4_2 r4_2 c4_2; obtain ⟨x8, y8⟩ := keepB hW z8_2 r8_2 c8_2; obtain ⟨x9, y9⟩ := keepB hW z9_2 r9_2 c9_2; obtain ⟨x10, y10⟩ := keepB hW z10_2 r10_2 c10_2; obtain ⟨x11, y11⟩ := keepB hW z11_2 r11_2 c11_2; go_simp; first | done | rfl)); simp only [Act.put, List.setIfInBounds_toArray, List.set_cons_zero, List.set_cons_succ])
      refine wpQuiet_nil ?_
      intro W3 hw3
      obtain ⟨r4_3, c4_3⟩ := keepB hw3 z4_2 r4_2 c4_2
      have z4_3 := isRow_lt r4_3
      obtain ⟨r8_3, c8_3⟩ := keepB hw3 z8_2 r8_2 c8_2
      have z8_3 := isRow_lt r8_3
      obtain ⟨r9_3, c9_3⟩ := keepB hw3 z9_2 r9_2 c9_2
      have z9_3 := isRow_lt r9_3
      obtain ⟨r10_3, c10_3⟩ := keepB hw3 z10_2 r10_2 c10_2
      have z10_3 := isRow_lt r10_3
      obtain ⟨r11_3, c11_3⟩ := keepB hw3 z11_2 r11_2 c11_2
      have z11_3 := isRow_lt r11_3
      have hb3 := hb2.trans (hw3.mono hb2.size)
      have q3 := hb3.size
      clear hw3 r4_2 c4_2 z4_2 r8_2 c8_2 z8_2 r9_2 c9_2 z9_2 r10_2 c10_2 z10_2 r11_2 c11_2 z11_2 hb2
      go_wp2_with fail
      refine (addMultiple_any p _ _ 0 8 8 8 8 _ (10 + i * 64 + a * 8) (coL p f i j k a) (mtab f i a) _ hp hp' b1 b2 r10_3 c10_3 (by omega) (by omega) (fun t _ _ => mod_range _ p hp) (byte_alg i a c4_3 hi (by omega) HF.out) (by omega)).mono ?_; rintro _ _ ⟨rfl, rfl⟩
      go_wp2
      refine atomW fun W4 e4 => ?_
      have hb4 : Below w.heap.size w W4 := by rw [e4]; (repeat (first | exact hb3 | exact Below.refl _ _ | refine Below.alloc ?_ (by first | omega | (simp; try omega)) _ | refine below_setRow ?_ (by omega) _ | refine Below.drew ?_))
      have q4 := hb4.size
      have r4_4 : IsRow W4 (w.heap.size) := by rw [e4]; simp [go_sem, r4_3, c4_3, r8_3, c8_3, r9_3, c9_3, r10_3, c10_3, r11_3, c11_3]
      have c4_4 := congrArg (fun x => blk x (w.heap.size)) e4; simp [go_sem, r4_3, c4_3, r8_3, c8_3, r9_3, c9_3, r10_3, c10_3, r11_3, c11_3] at c4_4
      have z4_4 := isRow_lt r4_4
      have r8_4 : IsRow W4 (w.heap.size + 1) := by rw [e4]; simp [go_sem, r4_3, c4_3, r8_3, c8_3, r9_3, c9_3, r10_3, c10_3, r11_3, c11_3]
      have c8_4 := congrArg (fun x => blk x (w.heap.size + 1)) e4; simp [go_sem, r4_3, c4_3, r8_3, c8_3, r9_3, c9_3, r10_3, c10_3, r11_3, c11_3] at c8_4
      have z8_4 := isRow_lt r8_4
      have r9_4 : IsRow W4 (w.heap.size + 2) := by rw [e4]; simp [go_sem, r4_3, c4_3, r8_3, c8_3, r9_3, c9_3, r10_3, c10_3, r11_3, c11_3]
      have c9_4 := congrArg (fun x => blk x (w.heap.size + 2)) e4; simp [go_sem, r4_3, c4_3, r8_3, c8_3, r9_3, c9_3, r10_3, c10_3, r11_3, c11_3] at c9_4
      have z9_4 := isRow_lt r9_4
      have r10_4 : IsRow W4 (w.heap.size + 3) := by rw [e4]; simp [go_sem, r4_3, c4_3, r8_3, c8_3, r9_3, c9_3, r10_3, c10_3, r11_3, c11_3]
      have c10_4 := congrArg (fun x => blk x (w.heap.size + 3)) e4; simp [go_sem, r4_3, c4_3, r8_3, c8_3, r9_3, c9_3, r10_3, c10_3, r11_3, c11_3] at c10_4
      have z10_4 := isRow_lt r10_4
      have r11_4 : IsRow W4 (w.heap.size + 4) := by rw [e4]; simp [go_sem, r4_3, c4_3, r8_3, c8_3, r9_3, c9_3, r10_3, c10_3, r11_3, c11_3]
      have c11_4 := congrArg (fun x => blk x (w.heap.size + 4)) e4; simp [go_sem, r4_3, c4_3, r8_3, c8_3, r9_3, c9_3, r10_3, c10_3, r11_3, c11_3] at c11_4
      have z11_4 := isRow_lt r11_4
      clear e4 r4_3 c4_3 z4_3 r8_3 c8_3 z8_3 r9_3 c9_3 z9_3 r10_3 c10_3 z10_3 r11_3 c11_3 z11_3 hb3
      refine wp_quiet_tail 17 (Below W4.heap.size W4) (by kernel_rfl) (by kernel_rfl) (Below.refl _ _).drew ?_
      simp only [List.take_succ_cons, List.take_zero, List.drop_succ_cons, List.drop_zero]
      iterate 17 (refine q_plain rfl ?_; apply Exists.intro; refine ⟨fun W hW => ?_, ?_⟩; (focus (obtain ⟨x4, y4⟩ := keepB hW z4_4 r4_4 c4_4; obtain ⟨x8, y8⟩ := keepB hW z8_4 r8_4 c8_4; obtain ⟨x9, y9⟩ := keepB hW z9_4 r9_4 c9_4; obtain ⟨x10, y10⟩ := keepB hW z10_4 r10_4 c10_4; obtain ⟨x11, y11⟩ := keepB hW z11_4 r11_4 c11_4; go_simp; first | done | rfl)); simp only [Act.put, List.setIfInBounds_toArray, List.set_cons_zero, List.set_cons_succ])
      refine wpQuiet_nil ?_
      intro W5 hw5
      obtain ⟨r4_5, c4_5⟩ := keepB hw5 z4_4 r4_4 c4_4
      have z4_5 := isRow_lt r4_5
      obtain ⟨r8_5, c8_5⟩ := keepB hw5 z8_4 r8_4 c8_4
      have z8_5 := isRow_lt r8_5
      obtain ⟨r9_5, c9_5⟩ := keepB hw5 z9_4 r9_4 c9_4
      have z9_5 := isRow_lt r9_5
      obtain ⟨r10_5, c10_5⟩ := keepB hw5 z10_4 r10_4 c10_4
      have z10_5 := isRow_lt r10_5
      obtain ⟨r11_5, c11_5⟩ := keepB hw5 z11_4 r11_4 c11_4
      have z11_5 := isRow_lt r11_5
      have hb5 := hb4.trans (hw5.mono hb4.size)
      have q5 := hb5.size
      clear hw5 r4_4 c4_4 z4_4 r8_4 c8_4 z8_4 r9_4 c9_4 z9_4 r10_4 c10_4 z10_4 r11_4 c11_4 z11_4 hb4
      go_wp2_with fail
      refine (addMultiple_any p _ _ 0 8 8 8 8 _ (10 + a * 64 + k * 8) (coR p f i j k a) (mtab f a k) _ hp hp' b3 b4 r11_5 c11_5 (by omega) (by omega) (fun t _ _ => mod_range _ p hp) (byte_alg a k c4_5 (by omega) hk HF.out) (by omega)).mono ?_; rintro _ _ ⟨rfl, rfl⟩
      go_wp2
      go_roundw
      case rel => exact ⟨a + 1, by omega, by go_num, (by (repeat (first | exact hb5 | exact Below.refl _ _ | refine Below.alloc ?_ (by first | omega | (simp; try omega)) _ | refine below_setRow ?_ (by omega) _ | refine Below.drew ?_))), ⟨by simp [go_sem, r4_5, c4_5, r8_5, c8_5, r9_5, c9_5, r10_5, c10_5, r11_5, c11_5], (by rw [E4_2.out]; first | exact c4_5 | (simp [go_sem, r4_5, c4_5, r8_5, c8_5, r9_5, c9_5, r10_5, c10_5, r11_5, c11_5]; done))⟩, ⟨by simp [go_sem, r4_5, c4_5, r8_5, c8_5, r9_5, c9_5, r10_5, c10_5, r11_5, c11_5], (by rw [E8_2.out]; first | exact c8_5 | (simp [go_sem, r4_5, c4_5, r8_5, c8_5, r9_5, c9_5, r10_5, c10_5, r11_5, c11_5]; done))⟩, ⟨by simp [go_sem, r4_5, c4_5, r8_5, c8_5, r9_5, c9_5, r10_5, c10_5, r11_5, c11_5], (by rw [E9_2.out]; first | exact c9_5 | (simp [go_sem, r4_5, c4_5, r8_5, c8_5, r9_5, c9_5, r10_5, c10_5, r11_5, c11_5]; done))⟩, ⟨by simp [go_sem, r4_5, c4_5, r8_5, c8_5, r9_5, c9_5, r10_5, c10_5, r11_5, c11_5], (by first | (rw [blk_setRow _ _ _ _ r10_5, if_pos rfl]; exact coL_step p f i j k a) | exact (c10_5).trans (coL_step p f i j k a) | (simp [go_sem, r4_5, c4_5, r8_5, c8_5, r9_5, c9_5, r10_5, c10_5, r11_5, c11_5]; exact coL_step p f i j k a))⟩, ⟨by simp [go_sem, r4_5, c4_5, r8_5, c8_5, r9_5, c9_5, r10_5, c10_5, r11_5, c11_5], (by first | (rw [blk_setRow _ _ _ _ r11_5, if_pos rfl]; exact coR_step p f i j k a) | exact (c11_5).trans (coR_step p f i j k a) | (simp [go_sem, r4_5, c4_5, r8_5, c8_5, r9_5, c9_5, r10_5, c10_5, r11_5, c11_5]; exact coR_step p f i j k a))⟩⟩
      case measure => simp [intOf]; omega
    · skip
      obtain rfl : n = a := by omega
      go_wp2
      go_region
      go_wp2_with fail
      refine bodyPost_ret (result_cell2 rfl aggVec aggVec _ _ _ (row 8 (coL p f i j k n)) (row 8 (coR p f i j k n)) _ rfl rfl ?_ ?_ ?_ ?_) rfl ⟨rfl, ?_⟩
      · simp [go_sem, r8_2, c8_2, r9_2, c9_2, r10_2, c10_2, r11_2, c11_2]
      · simp [go_sem, r8_2, c8_2, r9_2, c9_2, r10_2, c10_2, r11_2, c11_2]
      · simp [go_sem, r8_2, c8_2, r9_2, c9_2, r10_2, c10_2, r11_2, c11_2]
      · simp [go_sem, r8_2, c8_2, r9_2, c9_2, r10_2, c10_2, r11_2, c11_2]
      · repeat (first | exact hb2 | exact Below.refl _ _ | refine Below.alloc ?_ (by first | omega | (simp; try omega)) _ | refine below_setRow ?_ (by omega) _ | refine Below.drew ?_)

def soL (f : Nat → Int) (i j k l m : Nat) : Int := sumTo (fun a => mtab f i a l * mtab f a j k) m
def soR (f : Nat → Int) (i j k l m : Nat) : Int := sumTo (fun a => mtab f i j a * mtab f a k l) m
theorem prod_range {x y : Int} (hx : 0 ≤ x ∧ x ≤ 255) (hy : 0 ≤ y ∧ y ≤ 255) : 0 ≤ x * y ∧ x * y ≤ 65025 := prod_le x y 255 255 hx.1 hy.1 hx.2 hy.2
theorem soL_range {f : Nat → Int} (h : Bytes 520 f) (i j k l : Nat) (hi : i < 8) (hj : j < 8) (hk : k < 8) (hl : l < 8) (m : Nat) (hm : m ≤ 8) : 0 ≤ soL f i j k l m ∧ soL f i j k l m ≤ 65025 * m :=
  sum_range (by omega) 8 (fun a ha => prod_range (mtab_range h i a l hi ha hl) (mtab_range h a j k ha hj hk)) m hm
theorem soR_range {f : Nat → Int} (h : Bytes 520 f) (i j k l : Nat) (hi : i < 8) (hj : j < 8) (hk : k < 8) (hl : l < 8) (m : Nat) (hm : m ≤ 8) : 0 ≤ soR f i j k l m ∧ soR f i j k l m ≤ 65025 * m :=
  sum_range (by omega) 8 (fun a ha => prod_range (mtab_range h i j a hi hj ha) (mtab_range h a k l ha hk hl)) m hm
theorem soL_mod (p : Int) (f : Nat → Int) (i j k l n : Nat) : soL f i j k l n % p = coL p f i j k n l := by
  unfold soL coL; congr 1; exact sumTo_congr n fun a _ => Int.mul_comm _ _
theorem soR_mod (p : Int) (f : Nat → Int) (i j k l n : Nat) : soR f i j k l n % p = coR p f i j k n l := rfl
theorem ret_pair8 {a b c d : Int} (h : a = c) (h' : b = d) : Ending.returned (.tuple #[.int .u8 a, .int .u8 b]) = .returned (.tuple #[.int .u8 c, .int .u8 d]) := by rw [h, h']

set_option maxRecDepth 100000 in
set_option maxHeartbeats 1000000 in
theorem l02Sums_any (p : Int) (n : Nat) (f : Nat → Int) (i j k l : Nat) (w : World) (hp : 0 < p) (hp' : p ≤ 255) (hn : n ≤ 8) (hi : i < 8) (hj : j < 8) (hk : k < 8) (hl : l < 8) (hF : Bytes 520 f) :
    Calls Try.prog 112 #[.agg (alg p n f), .int .i64 i, .int .i64 j, .int .i64 k, .int .i64 l] w fun e w' => e = .returned (.tuple #[.int .u8 (coL p f i j k n l), .int .u8 (coR p f i j k n l)]) ∧ Below w.heap.size w w' := by
  have HF := Lib.hid hF; clear hF
  have xi : (i : Int) < 8 := by omega
  have xj : (j : Int) < 8 := by omega
  have xk : (k : Int) < 8 := by omega
  have xl : (l : Int) < 8 := by omega
  go_enter Try.func112, Try.ntmps112
  go_wp2
  refine atomW fun W1 e1 => ?_
  have hb1 : Below w.heap.size w W1 := by rw [e1]; (repeat (first | exact Below.refl _ _ | refine Below.alloc ?_ (by first | omega | (simp; try omega)) _ | refine below_setRow ?_ (by omega) _ | refine Below.drew ?_))
  have q1 := hb1.size
  have r5_1 : IsRow W1 (w.heap.size) := by rw [e1]; simp [go_sem]
  have c5_1 := congrArg (fun x => blk x (w.heap.size)) e1; simp [go_sem] at c5_1
  have z5_1 := isRow_lt r5_1
  clear e1
  go_loopw [12, 13, 14] (fun s12 s13 s14 wr => ∃ a : Nat, a ≤ n ∧ s12 = .int .i64 (soL f i j k l a) ∧ s13 = .int .i64 (soR f i j k l a) ∧ s14 = .int .i64 a ∧ Below w.heap.size w wr ∧ (IsRow wr (w.heap.size) ∧ blk wr (w.heap.size) = blk W1 (w.heap.size))) (fun _ _ s14 _ => n - (intOf s14).toNat)
  case atStart => exact ⟨0, by omega, (by first | rfl | (simp; done) | go_num), (by first | rfl | (simp; done) | go_num), rfl, hb1, ⟨r5_1, rfl⟩⟩
  case round =>
    obtain ⟨a, hle2, rfl, rfl, rfl, hb2, ⟨r5_2, c5_2⟩⟩ := hrel
    obtain ⟨W2, rfl⟩ : ∃ W2 : World, W2 = wr := ⟨_, rfl⟩
    have q2 := hb2.size
    have E5_2 := Lib.hid c5_1; replace c5_2 := c5_2.trans c5_1
    have z5_2 := isRow_lt r5_2
    clear r5_1 c5_1 z5_1 hb1
    have d1 := (soL_range HF.out i j k l hi hj hk hl a (by omega)).1; have d2 := (soL_range HF.out i j k l hi hj hk hl a (by omega)).2; have d3 := (soR_range HF.out i j k l hi hj hk hl a (by omega)).1; have d4 := (soR_range HF.out i j k l hi hj hk hl a (by omega)).2
    by_cases hlt2 : a < n
    · skip
      have i0_2 : (0 : Int) ≤ (a : Int) := by omega
      have i8_2 : (a : Int) < 8 := by omega
      have k8_2 : a < 8 := by omega
      have m8_2 : a * 8 + 8 ≤ 64 := by omega
      have m64_2 : a * 64 + 64 ≤ 512 := by omega
      have l1_2 : 10 + a * 64 + 64 ≤ 522 := by omega
      have e1 := alg_at p n f i a l hi (by omega) hl; have e2 := alg_at p n f a j k (by omega) hj hk; have e3 := alg_at p n f i j a hi hj (by omega); have e4 := alg_at p n f a k l (by omega) hk hl
      have b1 := mtab_range HF.out i a l hi (by omega) hl; have b2 := mtab_range HF.out a j k (by omega) hj hk; have b3 := mtab_range HF.out i j a hi hj (by omega); have b4 := mtab_range HF.out a k l (by omega) hk hl
      have b5 := prod_range b1 b2; have b6 := prod_range b3 b4
      have q1 : IntKind.i64.wrap (mtab f i a l) = mtab f i a l := IntWalk.i64_in _ (by omega)
      have q2 : IntKind.i64.wrap (mtab f a j k) = mtab f a j k := IntWalk.i64_in _ (by omega)
      have q3 : IntKind.i64.wrap (mtab f i j a) = mtab f i j a := IntWalk.i64_in _ (by omega)
      have q4 : IntKind.i64.wrap (mtab f a k l) = mtab f a k l := IntWalk.i64_in _ (by omega)
      have q5 : IntKind.i64.wrap (mtab f i a l * mtab f a j k) = mtab f i a l * mtab f a j k := IntWalk.i64_in _ (by omega)
      have q6 : IntKind.i64.wrap (mtab f i j a * mtab f a k l) = mtab f i j a * mtab f a k l := IntWalk.i64_in _ (by omega)
      have q7 : IntKind.i64.wrap (soL f i j k l a + mtab f i a l * mtab f a j k) = soL f i j k l a + mtab f i a l * mtab f a j k := IntWalk.i64_in _ (by omega)
      have q8 : IntKind.i64.wrap (soR f i j k l a + mtab f i j a * mtab f a k l) = soR f i j k l a + mtab f i j a * mtab f a k l := IntWalk.i64_in _ (by omega)
      go_wp2
      refine wp_quiet_all (Below W2.heap.size W2) (by kernel_rfl) (by kernel_rfl) (Below.refl _ _).drew ?_
      iterate 22 (refine q_plain rfl ?_; apply Exists.intro; refine ⟨fun W hW => ?_, ?_⟩; (focus (obtain ⟨x5, y5⟩ := keepB hW z5_2 r5_2 c5_2; go_simp; first | done | rfl)); simp only [Act.put, List.setIfInBounds_toArray, List.set_cons_zero, List.set_cons_succ])
      refine wpQuiet_nil ?_
      intro W3 hw3
      obtain ⟨r5_3, c5_3⟩ := keepB hw3 z5_2 r5_2 c5_2
      have z5_3 := isRow_lt r5_3
      have hb3 := hb2.trans (hw3.mono hb2.size)
      have q3 := hb3.size
      clear hw3 r5_2 c5_2 z5_2 hb2
      go_wp2
      refine wp_quiet_all (Below W3.heap.size W3) (by kernel_rfl) (by kernel_rfl) (Below.refl _ _).drew ?_
      iterate 22 (refine q_plain rfl ?_; apply Exists.intro; refine ⟨fun W hW => ?_, ?_⟩; (focus (obtain ⟨x5, y5⟩ := keepB hW z5_3 r5_3 c5_3; go_simp; first | done | rfl)); simp only [Act.put, List.setIfInBounds_toArray, List.set_cons_zero, List.set_cons_succ])
      refine wpQuiet_nil ?_
      intro W4 hw4
      obtain ⟨r5_4, c5_4⟩ := keepB hw4 z5_3 r5_3 c5_3
      have z5_4 := isRow_lt r5_4
      have hb4 := hb3.trans (hw4.mono hb3.size)
      have q4 := hb4.size
      clear hw4 r5_3 c5_3 z5_3 hb3
      go_wp2
      go_roundw
      case rel => exact ⟨a + 1, by omega, (by first | rfl | go_num | (simp; done)), (by first | rfl | go_num | (simp; done)), by go_num, (by (repeat (first | exact hb4 | exact Below.refl _ _ | refine Below.alloc ?_ (by first | omega | (simp; try omega)) _ | refine below_setRow ?_ (by omega) _ | refine Below.drew ?_))), ⟨by simp [go_sem, r5_4, c5_4], (by rw [E5_2.out]; first | exact c5_4 | (simp [go_sem, r5_4, c5_4]; done))⟩⟩
      case measure => simp [intOf]; omega
    · skip
      obtain rfl : n = a := by omega
      go_wp2
      refine wp_quiet_all (Below W2.heap.size W2) (by kernel_rfl) (by kernel_rfl) (Below.refl _ _).drew ?_
      iterate 3 (refine q_plain rfl ?_; apply Exists.intro; refine ⟨fun W hW => ?_, ?_⟩; (focus (obtain ⟨x5, y5⟩ := keepB hW z5_2 r5_2 c5_2; go_simp; first | done | rfl)); simp only [Act.put, List.setIfInBounds_toArray, List.set_cons_zero, List.set_cons_succ])
      (refine q_plain rfl ?_; apply Exists.intro; refine ⟨fun W hW => ?_, ?_⟩; (focus (obtain ⟨x5, y5⟩ := keepB hW z5_2 r5_2 c5_2; go_simp; (go_at_call 94; exact (l01Mod_any _ _ _ hp hp' (by omega) (by omega)).mono fun e w2 ⟨he, hw2⟩ => ⟨he, hw2 ▸ hW⟩))); simp only [Act.put, List.setIfInBounds_toArray, List.set_cons_zero, List.set_cons_succ])
      iterate 3 (refine q_plain rfl ?_; apply Exists.intro; refine ⟨fun W hW => ?_, ?_⟩; (focus (obtain ⟨x5, y5⟩ := keepB hW z5_2 r5_2 c5_2; go_simp; first | done | rfl)); simp only [Act.put, List.setIfInBounds_toArray, List.set_cons_zero, List.set_cons_succ])
      (refine q_plain rfl ?_; apply Exists.intro; refine ⟨fun W hW => ?_, ?_⟩; (focus (obtain ⟨x5, y5⟩ := keepB hW z5_2 r5_2 c5_2; go_simp; (go_at_call 94; exact (l01Mod_any _ _ _ hp hp' (by omega) (by omega)).mono fun e w2 ⟨he, hw2⟩ => ⟨he, hw2 ▸ hW⟩))); simp only [Act.put, List.setIfInBounds_toArray, List.set_cons_zero, List.set_cons_succ])
      iterate 2 (refine q_plain rfl ?_; apply Exists.intro; refine ⟨fun W hW => ?_, ?_⟩; (focus (obtain ⟨x5, y5⟩ := keepB hW z5_2 r5_2 c5_2; go_simp; first | done | rfl)); simp only [Act.put, List.setIfInBounds_toArray, List.set_cons_zero, List.set_cons_succ])
      refine wpQuiet_nil ?_
      intro W5 hw5
      obtain ⟨r5_5, c5_5⟩ := keepB hw5 z5_2 r5_2 c5_2
      have z5_5 := isRow_lt r5_5
      have hb5 := hb2.trans (hw5.mono hb2.size)
      have q5 := hb5.size
      clear hw5 r5_2 c5_2 z5_2 hb2
      go_wp2_with fail
      go_ret2
      exact ⟨ret_pair8 (soL_mod p f i j k l n) (soR_mod p f i j k l n), (by (repeat (first | exact hb5 | exact Below.refl _ _ | refine Below.alloc ?_ (by first | omega | (simp; try omega)) _ | refine below_setRow ?_ (by omega) _ | refine Below.drew ?_)))⟩

/-! ### the counit -/
/-- what the Counit makes of the coproduct of e(i), on the left and on the right, over n elements -/
def cuL (p : Int) (f : Nat → Int) (i n : Nat) : Nat → Int := appF p n (mtab f i) f
def cuR (p : Int) (f : Nat → Int) (i n : Nat) : Nat → Int := appF p n (fun a b => mtab f i b a) f
def cuAt (p : Int) (f : Nat → Int) (i : Nat) : Bool := segEq 0 8 (cuL p f i 8) (ebas i) && segEq 0 8 (cuR p f i 8) (ebas i)
def cuB (p : Int) (n : Nat) (f : Nat → Int) : Bool := (List.range n).all (cuAt p f)
theorem segEq_congr {m : Nat} {f f' g : Nat → Int} (h : ∀ i, i < m → f i = f' i) : segEq 0 m f g = segEq 0 m f' g := by
  rw [Bool.eq_iff_iff, segEq_iff, segEq_iff]
  constructor <;> intro k i hi <;> have := k i hi <;> rw [Nat.zero_add] at * <;> rw [← this] <;> first | exact (h i hi).symm | exact h i hi
theorem com_bytes {f : Nat → Int} (h : Bytes 520 f) (i : Nat) (hi : i < 8) : Bytes 64 (fun t => tab f (i * 64 + t)) := fun t ht => tab_bytes h _ (by omega)
theorem flip_bytes {F : Nat → Int} (h : Bytes 64 F) : Bytes 64 (flipF F) := fun t ht => h _ (by omega)
theorem app_congr {p : Int} {n : Nat} {g h : Nat → Nat → Int} {v : Nat → Int} (e : ∀ j, j < n → ∀ k, k < 8 → g j k = h j k) : row 8 (appF p n g v) = row 8 (appF p n h v) := row_congr fun k hk => by
  unfold appF; congr 1; exact sumTo_congr n fun j hj => by rw [e j hj k hk]
theorem applyLeft_any (p : Int) (f : Nat → Int) (i : Nat) (w : World) (hp : 0 < p) (hp' : p ≤ 255) (hi : i < 8) (hF : Bytes 520 f) :
    Calls Try.prog 52 #[.int .i64 p, .agg (row 64 fun t => tab f (i * 64 + t)), .agg (row 8 f)] w fun e w' => e = .returned (.agg (row 8 (cuL p f i 8))) ∧ Below w.heap.size w w' :=
  applyLinear_any p _ f w hp hp' (com_bytes hF i hi) (unit_bytes hF)
theorem applyRight_any (p : Int) (f : Nat → Int) (i : Nat) (w : World) (hp : 0 < p) (hp' : p ≤ 255) (hi : i < 8) (hF : Bytes 520 f) :
    Calls Try.prog 52 #[.int .i64 p, .agg (row 64 (flipF fun t => tab f (i * 64 + t))), .agg (row 8 f)] w fun e w' => e = .returned (.agg (row 8 (cuR p f i 8))) ∧ Below w.heap.size w w' := by
  have h := applyLinear_any p _ f w hp hp' (flip_bytes (com_bytes hF i hi)) (unit_bytes hF)
  have e : row 8 (appF p 8 (fun j k => flipF (fun t => tab f (i * 64 + t)) (j * 8 + k)) f) = row 8 (cuR p f i 8) := app_congr fun j hj k hk => by
    unfold flipF mtab
    congr 1; omega
  rw [e] at h
  exact h

set_option maxRecDepth 100000 in
set_option maxHeartbeats 1000000 in
theorem hasCounit_any (p : Int) (n : Nat) (f : Nat → Int) (w : World) (hp : 0 < p) (hp' : p ≤ 255) (hn : n ≤ 8) (hF : Bytes 520 f) :
    Calls Try.prog 98 #[.agg (alg p n f)] w fun e w' => e = .returned (.bool (cuB p n f)) ∧ Below w.heap.size w w' := by
  have HF := Lib.hid hF; clear hF
  go_enter Try.func98, Try.ntmps98
  go_wp2
  refine atomW fun W1 e1 => ?_
  have hb1 : Below w.heap.size w W1 := by rw [e1]; (repeat (first | exact Below.refl _ _ | refine Below.alloc ?_ (by first | omega | (simp; try omega)) _ | refine below_setRow ?_ (by omega) _ | refine Below.drew ?_))
  have q1 := hb1.size
  have r1_1 : IsRow W1 (w.heap.size) := by rw [e1]; simp [go_sem]
  have c1_1 := congrArg (fun x => blk x (w.heap.size)) e1; simp [go_sem] at c1_1
  have z1_1 := isRow_lt r1_1
  clear e1
  go_loopw [9] (fun s9 wr => ∃ i : Nat, i ≤ n ∧ s9 = .int .i64 i ∧ Below w.heap.size w wr ∧ (IsRow wr (w.heap.size) ∧ blk wr (w.heap.size) = blk W1 (w.heap.size)) ∧ ∀ a, a < i → cuAt p f a = true) (fun s9 _ => n - (intOf s9).toNat)
  case atStart => exact ⟨0, by omega, rfl, hb1, ⟨r1_1, rfl⟩, fun a ha => by omega⟩
  case round =>
    obtain ⟨i, hle2, rfl, hb2, ⟨r1_2, c1_2⟩, hx2⟩ := hrel
    obtain ⟨W2, rfl⟩ : ∃ W2 : World, W2 = wr := ⟨_, rfl⟩
    have q2 := hb2.size
    have HX2 := Lib.hid hx2; clear hx2
    have E1_2 := Lib.hid c1_1; replace c1_2 := c1_2.trans c1_1
    have z1_2 := isRow_lt r1_2
    clear r1_1 c1_1 z1_1 hb1
    by_cases hlt2 : i < n
    · skip
      have i0_2 : (0 : Int) ≤ (i : Int) := by omega
      have i8_2 : (i : Int) < 8 := by omega
      have k8_2 : i < 8 := by omega
      have m8_2 : i * 8 + 8 ≤ 64 := by omega
      have m64_2 : i * 64 + 64 ≤ 512 := by omega
      have l1_2 : 10 + i * 64 + 64 ≤ 522 := by omega
      cases hu1 : segEq 0 8 (cuL p f i 8) (ebas i)
      · skip
        have H : Hid (cuB p n f = false) := Lib.hid (all_no (q := cuAt p f) i n (by omega) (by unfold cuAt; rw [hu1]; rfl))
        go_wp2
        refine wp_quiet_alloc 9 _ (.cells (row 8 zf) 28) (Below W2.heap.size W2) (Made W2 (row 8 zf)) (by kernel_rfl) rfl rfl (by kernel_rfl) (fun a W => (xallocVec _ _ _ _ _ _ _).trans (allocVec W)) (closed_below W2) (closed_made W2 _) (fun b W h => h.1) (fun W h => made_new W2 _ _ W h) (Below.refl _ _).drew ?_
        simp only [List.take_succ_cons, List.take_zero, List.drop_succ_cons, List.drop_zero]
        iterate 8 (refine e_plain rfl ?_; apply Exists.intro; refine ⟨fun D hD hK W hW => ?_, ?_⟩; (focus (obtain ⟨x1, y1⟩ := keepB (hD W hW) z1_2 r1_2 c1_2; unfold Oper.quietAt; go_simp; first | done | rfl)); simp only [Act.put, List.setIfInBounds_toArray, List.set_cons_zero, List.set_cons_succ])
        (refine e_plain rfl ?_; apply Exists.intro; refine ⟨fun D hD hK W hW => ?_, ?_⟩; (focus (obtain ⟨x1, y1⟩ := keepB (hD W hW) z1_2 r1_2 c1_2; unfold Oper.quietAt; go_simp; (go_at_call 52; exact (applyLeft_any p f i _ hp hp' (by omega) HF.out).mono fun e w2 ⟨he, hw2⟩ => ⟨he, hK _ _ hW hw2⟩))); simp only [Act.put, List.setIfInBounds_toArray, List.set_cons_zero, List.set_cons_succ])
        refine e_nil ?_
        intro a3 W3 hW3
        obtain ⟨hw3, hl3, m1_3, m2_3⟩ := hW3
        have n1_4 : (w.heap.size) ≠ (a3) := by have := z1_2; omega
        have n4_1 : (a3) ≠ (w.heap.size) := by have := z1_2; omega
        obtain ⟨r1_3, c1_3⟩ := keepB hw3 z1_2 r1_2 c1_2
        have z1_3 := isRow_lt r1_3
        have hb3 := hb2.trans (hw3.mono hb2.size)
        have q3 := hb3.size
        clear hw3 r1_2 c1_2 z1_2 hb2
        have z4_3 := isRow_lt m1_3
        simp only [Act.put, List.setIfInBounds_toArray, List.set_cons_zero, List.set_cons_succ]
        go_wp2
        refine atomW fun W4 e4 => ?_
        have hb4 : Below w.heap.size w W4 := by rw [e4]; (repeat (first | exact hb3 | exact Below.refl _ _ | refine Below.alloc ?_ (by first | omega | (simp; try omega)) _ | refine below_setRow ?_ (by omega) _ | refine Below.drew ?_))
        have q4 := hb4.size
        have r1_4 : IsRow W4 (w.heap.size) := by rw [e4]; simp [go_sem, r1_3, c1_3, n1_4, m1_3, m2_3, n4_1]
        have c1_4 := congrArg (fun x => blk x (w.heap.size)) e4; simp [go_sem, r1_3, c1_3, n1_4, m1_3, m2_3, n4_1] at c1_4
        have z1_4 := isRow_lt r1_4
        have r4_4 : IsRow W4 (a3) := by rw [e4]; simp [go_sem, r1_3, c1_3, n1_4, m1_3, m2_3, n4_1]
        have c4_4 := congrArg (fun x => blk x (a3)) e4; simp [go_sem, r1_3, c1_3, n1_4, m1_3, m2_3, n4_1] at c4_4
        have z4_4 := isRow_lt r4_4
        clear e4 r1_3 c1_3 z1_3 m1_3 m2_3 z4_3 hb3
        refine wp_quiet_alloc 10 _ (.cells (row 8 zf) 28) (Below W4.heap.size W4) (Made W4 (row 8 zf)) (by kernel_rfl) rfl rfl (by kernel_rfl) (fun a W => (xallocVec _ _ _ _ _ _ _).trans (allocVec W)) (closed_below W4) (closed_made W4 _) (fun b W h => h.1) (fun W h => made_new W4 _ _ W h) (Below.refl _ _).drew ?_
        simp only [List.take_succ_cons, List.take_zero, List.drop_succ_cons, List.drop_zero]
        iterate 6 (refine e_plain rfl ?_; apply Exists.intro; refine ⟨fun D hD hK W hW => ?_, ?_⟩; (focus (obtain ⟨x1, y1⟩ := keepB (hD W hW) z1_4 r1_4 c1_4; obtain ⟨x4, y4⟩ := keepB (hD W hW) z4_4 r4_4 c4_4; unfold Oper.quietAt; go_simp; first | done | rfl)); simp only [Act.put, List.setIfInBounds_toArray, List.set_cons_zero, List.set_cons_succ])
        (refine e_plain rfl ?_; apply Exists.intro; refine ⟨fun D hD hK W hW => ?_, ?_⟩; (focus (obtain ⟨x1, y1⟩ := keepB (hD W hW) z1_4 r1_4 c1_4; obtain ⟨x4, y4⟩ := keepB (hD W hW) z4_4 r4_4 c4_4; unfold Oper.quietAt; go_simp; (go_at_call 110; exact (flipLinear_any _ _ (com_bytes HF.out i (by omega))).mono fun e w2 ⟨he, hw2⟩ => ⟨he, hK _ _ hW hw2⟩))); simp only [Act.put, List.setIfInBounds_toArray, List.set_cons_zero, List.set_cons_succ])
        iterate 2 (refine e_plain rfl ?_; apply Exists.intro; refine ⟨fun D hD hK W hW => ?_, ?_⟩; (focus (obtain ⟨x1, y1⟩ := keepB (hD W hW) z1_4 r1_4 c1_4; obtain ⟨x4, y4⟩ := keepB (hD W hW) z4_4 r4_4 c4_4; unfold Oper.quietAt; go_simp; first | done | rfl)); simp only [Act.put, List.setIfInBounds_toArray, List.set_cons_zero, List.set_cons_succ])
        (refine e_plain rfl ?_; apply Exists.intro; refine ⟨fun D hD hK W hW => ?_, ?_⟩; (focus (obtain ⟨x1, y1⟩ := keepB (hD W hW) z1_4 r1_4 c1_4; obtain ⟨x4, y4⟩ := keepB (hD W hW) z4_4 r4_4 c4_4; unfold Oper.quietAt; go_simp; (go_at_call 52; exact (applyRight_any p f i _ hp hp' (by omega) HF.out).mono fun e w2 ⟨he, hw2⟩ => ⟨he, hK _ _ hW hw2⟩))); simp only [Act.put, List.setIfInBounds_toArray, List.set_cons_zero, List.set_cons_succ])
        refine e_nil ?_
        intro a5 W5 hW5
        obtain ⟨hw5, hl5, m1_5, m2_5⟩ := hW5
        have n1_5 : (w.heap.size) ≠ (a5) := by have := z1_4; omega
        have n5_1 : (a5) ≠ (w.heap.size) := by have := z1_4; omega
        have n4_5 : (a3) ≠ (a5) := by have := z4_4; omega
        have n5_4 : (a5) ≠ (a3) := by have := z4_4; omega
        obtain ⟨r1_5, c1_5⟩ := keepB hw5 z1_4 r1_4 c1_4
        have z1_5 := isRow_lt r1_5
        obtain ⟨r4_5, c4_5⟩ := keepB hw5 z4_4 r4_4 c4_4
        have z4_5 := isRow_lt r4_5
        have hb5 := hb4.trans (hw5.mono hb4.size)
        have q5 := hb5.size
        clear hw5 r1_4 c1_4 z1_4 r4_4 c4_4 z4_4 hb4
        have z5_5 := isRow_lt m1_5
        simp only [Act.put, List.setIfInBounds_toArray, List.set_cons_zero, List.set_cons_succ]
        go_wp2_with fail
        refine atomC fun W6 e6 => ?_
        have hb6 : Below w.heap.size w W6 := by rw [e6]; (repeat (first | exact hb5 | exact Below.refl _ _ | refine Below.alloc ?_ (by first | omega | (simp; try omega)) _ | refine below_setRow ?_ (by omega) _ | refine Below.drew ?_))
        have q6 := hb6.size
        have r1_6 : IsRow W6 (w.heap.size) := by rw [e6]; simp [go_sem, r1_5, c1_5, n1_4, n1_5, r4_5, c4_5, n4_1, n4_5, m1_5, m2_5, n5_1, n5_4]
        have c1_6 := congrArg (fun x => blk x (w.heap.size)) e6; simp [go_sem, r1_5, c1_5, n1_4, n1_5, r4_5, c4_5, n4_1, n4_5, m1_5, m2_5, n5_1, n5_4] at c1_6
        have z1_6 := isRow_lt r1_6
        have r4_6 : IsRow W6 (a3) := by rw [e6]; simp [go_sem, r1_5, c1_5, n1_4, n1_5, r4_5, c4_5, n4_1, n4_5, m1_5, m2_5, n5_1, n5_4]
        have c4_6 := congrArg (fun x => blk x (a3)) e6; simp [go_sem, r1_5, c1_5, n1_4, n1_5, r4_5, c4_5, n4_1, n4_5, m1_5, m2_5, n5_1, n5_4] at c4_6
        have z4_6 := isRow_lt r4_6
        have r5_6 : IsRow W6 (a5) := by rw [e6]; simp [go_sem, r1_5, c1_5, n1_4, n1_5, r4_5, c4_5, n4_1, n4_5, m1_5, m2_5, n5_1, n5_4]
        have c5_6 := congrArg (fun x => blk x (a5)) e6; simp [go_sem, r1_5, c1_5, n1_4, n1_5, r4_5, c4_5, n4_1, n4_5, m1_5, m2_5, n5_1, n5_4] at c5_6
        have z5_6 := isRow_lt r5_6
        clear e6 r1_5 c1_5 z1_5 r4_5 c4_5 z4_5 m1_5 m2_5 z5_5 hb5
        refine (basisAt i (by omega) _).mono ?_; rintro _ W7 ⟨rfl, hw7⟩
        obtain ⟨r1_7, c1_7⟩ := keepB hw7 z1_6 r1_6 c1_6
        have z1_7 := isRow_lt r1_7
        obtain ⟨r4_7, c4_7⟩ := keepB hw7 z4_6 r4_6 c4_6
        have z4_7 := isRow_lt r4_7
        obtain ⟨r5_7, c5_7⟩ := keepB hw7 z5_6 r5_6 c5_6
        have z5_7 := isRow_lt r5_7
        have hb7 := hb6.trans (hw7.mono hb6.size)
        have q7 := hb7.size
        clear hw7 r1_6 c1_6 z1_6 r4_6 c4_6 z4_6 r5_6 c5_6 z5_6 hb6
        have nw1_W7_0 : (w.heap.size) ≠ W7.heap.size := by omega
        have nw4_W7_0 : (a3) ≠ W7.heap.size := by omega
        have nw5_W7_0 : (a5) ≠ W7.heap.size := by omega
        go_wp2_with fail
        go_ret
        exact ⟨ret_bool (by rw [H.out] <;> rfl), (by (repeat (first | exact hb7 | exact Below.refl _ _ | refine Below.alloc ?_ (by first | omega | (simp; try omega)) _ | refine below_setRow ?_ (by omega) _ | refine Below.drew ?_)))⟩
      · skip
        cases hu2 : segEq 0 8 (cuR p f i 8) (ebas i)
        · skip
          have H : Hid (cuB p n f = false) := Lib.hid (all_no (q := cuAt p f) i n (by omega) (by unfold cuAt; rw [hu1, hu2]; rfl))
          go_wp2
          refine wp_quiet_alloc 9 _ (.cells (row 8 zf) 28) (Below W2.heap.size W2) (Made W2 (row 8 zf)) (by kernel_rfl) rfl rfl (by kernel_rfl) (fun a W => (xallocVec _ _ _ _ _ _ _).trans (allocVec W)) (closed_below W2) (closed_made W2 _) (fun b W h => h.1) (fun W h => made_new W2 _ _ W h) (Below.refl _ _).drew ?_
          simp only [List.take_succ_cons, List.take_zero, List.drop_succ_cons, List.drop_zero]
          iterate 8 (refine e_plain rfl ?_; apply Exists.intro; refine ⟨fun D hD hK W hW => ?_, ?_⟩; (focus (obtain ⟨x1, y1⟩ := keepB (hD W hW) z1_2 r1_2 c1_2; unfold Oper.quietAt; go_simp; first | done | rfl)); simp only [Act.put, List.setIfInBounds_toArray, List.set_cons_zero, List.set_cons_succ])
          (refine e_plain rfl ?_; apply Exists.intro; refine ⟨fun D hD hK W hW => ?_, ?_⟩; (focus (obtain ⟨x1, y1⟩ := keepB (hD W hW) z1_2 r1_2 c1_2; unfold Oper.quietAt; go_simp; (go_at_call 52; exact (applyLeft_any p f i _ hp hp' (by omega) HF.out).mono fun e w2 ⟨he, hw2⟩ => ⟨he, hK _ _ hW hw2⟩))); simp only [Act.put, List.setIfInBounds_toArray, List.set_cons_zero, List.set_cons_succ])
          refine e_nil ?_
          intro a8 W8 hW8
          obtain ⟨hw8, hl8, m1_8, m2_8⟩ := hW8
          have n1_4 : (w.heap.size) ≠ (a8) := by have := z1_2; omega
          have n4_1 : (a8) ≠ (w.heap.size) := by have := z1_2; omega
          obtain ⟨r1_8, c1_8⟩ := keepB hw8 z1_2 r1_2 c1_2
          have z1_8 := isRow_lt r1_8
          have hb8 := hb2.trans (hw8.mono hb2.size)
          have q8 := hb8.size
          clear hw8 r1_2 c1_2 z1_2 hb2
          have z4_8 := isRow_lt m1_8
          simp only [Act.put, List.setIfInBounds_toArray, List.set_cons_zero, List.set_cons_succ]
          go_wp2
          refine atomW fun W9 e9 => ?_
          have hb9 : Below w.heap.size w W9 := by rw [e9]; (repeat (first | exact hb8 | exact Below.refl _ _ | refine Below.alloc ?_ (by first | omega | (simp; try omega)) _ | refine below_setRow ?_ (by omega) _ | refine Below.drew ?_))
          have q9 := hb9.size
          have r1_9 : IsRow W9 (w.heap.size) := by rw [e9]; simp [go_sem, r1_8, c1_8, n1_4, m1_8, m2_8, n4_1]
          have c1_9 := congrArg (fun x => blk x (w.heap.size)) e9; simp [go_sem, r1_8, c1_8, n1_4, m1_8, m2_8, n4_1] at c1_9
          have z1_9 := isRow_lt r1_9
          have r4_9 : IsRow W9 (a8) := by rw [e9]; simp [go_sem, r1_8, c1_8, n1_4, m1_8, m2_8, n4_1]
          have c4_9 := congrArg (fun x => blk x (a8)) e9; simp [go_sem, r1_8, c1_8, n1_4, m1_8, m2_8, n4_1] at c4_9
          have z4_9 := isRow_lt r4_9
          clear e9 r1_8 c1_8 z1_8 m1_8 m2_8 z4_8 hb8
          refine wp_quiet_alloc 10 _ (.cells (row 8 zf) 28) (Below W9.heap.size W9) (Made W9 (row 8 zf)) (by kernel_rfl) rfl rfl (by kernel_rfl) (fun a W => (xallocVec _ _ _ _ _ _ _).trans (allocVec W)) (closed_below W9) (closed_made W9 _) (fun b W h => h.1) (fun W h => made_new W9 _ _ W h) (Below.refl _ _).drew ?_
          simp only [List.take_succ_cons, List.take_zero, List.drop_succ_cons, List.drop_zero]
          iterate 6 (refine e_plain rfl ?_; apply Exists.intro; refine ⟨fun D hD hK W hW => ?_, ?_⟩; (focus (obtain ⟨x1, y1⟩ := keepB (hD W hW) z1_9 r1_9 c1_9; obtain ⟨x4, y4⟩ := keepB (hD W hW) z4_9 r4_9 c4_9; unfold Oper.quietAt; go_simp; first | done | rfl)); simp only [Act.put, List.setIfInBounds_toArray, List.set_cons_zero, List.set_cons_succ])
          (refine e_plain rfl ?_; apply Exists.intro; refine ⟨fun D hD hK W hW => ?_, ?_⟩; (focus (obtain ⟨x1, y1⟩ := keepB (hD W hW) z1_9 r1_9 c1_9; obtain ⟨x4, y4⟩ := keepB (hD W hW) z4_9 r4_9 c4_9; unfold Oper.quietAt; go_simp; (go_at_call 110; exact (flipLinear_any _ _ (com_bytes HF.out i (by omega))).mono fun e w2 ⟨he, hw2⟩ => ⟨he, hK _ _ hW hw2⟩))); simp only [Act.put, List.setIfInBounds_toArray, List.set_cons_zero, List.set_cons_succ])
          iterate 2 (refine e_plain rfl ?_; apply Exists.intro; refine ⟨fun D hD hK W hW => ?_, ?_⟩; (focus (obtain ⟨x1, y1⟩ := keepB (hD W hW) z1_9 r1_9 c1_9; obtain ⟨x4, y4⟩ := keepB (hD W hW) z4_9 r4_9 c4_9; unfold Oper.quietAt; go_simp; first | done | rfl)); simp only [Act.put, List.setIfInBounds_toArray, List.set_cons_zero, List.set_cons_succ])
          (refine e_plain rfl ?_; apply Exists.intro; refine ⟨fun D hD hK W hW => ?_, ?_⟩; (focus (obtain ⟨x1, y1⟩ := keepB (hD W hW) z1_9 r1_9 c1_9; obtain ⟨x4, y4⟩ := keepB (hD W hW) z4_9 r4_9 c4_9; unfold Oper.quietAt; go_simp; (go_at_call 52; exact (applyRight_any p f i _ hp hp' (by omega) HF.out).mono fun e w2 ⟨he, hw2⟩ => ⟨he, hK _ _ hW hw2⟩))); simp only [Act.put, List.setIfInBounds_toArray, List.set_cons_zero, List.set_cons_succ])
          refine e_nil ?_
          intro a10 W10 hW10
          obtain ⟨hw10, hl10, m1_10, m2_10⟩ := hW10
          have n1_5 : (w.heap.size) ≠ (a10) := by have := z1_9; omega
          have n5_1 : (a10) ≠ (w.heap.size) := by have := z1_9; omega
          have n4_5 : (a8) ≠ (a10) := by have := z4_9; omega
          have n5_4 : (a10) ≠ (a8) := by have := z4_9; omega
          obtain ⟨r1_10, c1_10⟩ := keepB hw10 z1_9 r1_9 c1_9
          have z1_10 := isRow_lt r1_10
          obtain ⟨r4_10, c4_10⟩ := keepB hw10 z4_9 r4_9 c4_9
          have z4_10 := isRow_lt r4_10
          have hb10 := hb9.trans (hw10.mono hb9.size)
          have q10 := hb10.size
          clear hw10 r1_9 c1_9 z1_9 r4_9 c4_9 z4_9 hb9
          have z5_10 := isRow_lt m1_10
          simp only [Act.put, List.setIfInBounds_toArray, List.set_cons_zero, List.set_cons_succ]
          go_wp2_with fail
          refine atomC fun W11 e11 => ?_
          have hb11 : Below w.heap.size w W11 := by rw [e11]; (repeat (first | exact hb10 | exact Below.refl _ _ | refine Below.alloc ?_ (by first | omega | (simp; try omega)) _ | refine below_setRow ?_ (by omega) _ | refine Below.drew ?_))
          have q11 := hb11.size
          have r1_11 : IsRow W11 (w.heap.size) := by rw [e11]; simp [go_sem, r1_10, c1_10, n1_4, n1_5, r4_10, c4_10, n4_1, n4_5, m1_10, m2_10, n5_1, n5_4]
          have c1_11 := congrArg (fun x => blk x (w.heap.size)) e11; simp [go_sem, r1_10, c1_10, n1_4, n1_5, r4_10, c4_10, n4_1, n4_5, m1_10, m2_10, n5_1, n5_4] at c1_11
          have z1_11 := isRow_lt r1_11
          have r4_11 : IsRow W11 (a8) := by rw [e11]; simp [go_sem, r1_10, c1_10, n1_4, n1_5, r4_10, c4_10, n4_1, n4_5, m1_10, m2_10, n5_1, n5_4]
          have c4_11 := congrArg (fun x => blk x (a8)) e11; simp [go_sem, r1_10, c1_10, n1_4, n1_5, r4_10, c4_10, n4_1, n4_5, m1_10, m2_10, n5_1, n5_4] at c4_11
          have z4_11 := isRow_lt r4_11
          have r5_11 : IsRow W11 (a10) := by rw [e11]; simp [go_sem, r1_10, c1_10, n1_4, n1_5, r4_10, c4_10, n4_1, n4_5, m1_10, m2_10, n5_1, n5_4]
          have c5_11 := congrArg (fun x => blk x (a10)) e11; simp [go_sem, r1_10, c1_10, n1_4, n1_5, r4_10, c4_10, n4_1, n4_5, m1_10, m2_10, n5_1, n5_4] at c5_11
          have z5_11 := isRow_lt r5_11
          clear e11 r1_10 c1_10 z1_10 r4_10 c4_10 z4_10 m1_10 m2_10 z5_10 hb10
          refine (basisAt i (by omega) _).mono ?_; rintro _ W12 ⟨rfl, hw12⟩
          obtain ⟨r1_12, c1_12⟩ := keepB hw12 z1_11 r1_11 c1_11
          have z1_12 := isRow_lt r1_12
          obtain ⟨r4_12, c4_12⟩ := keepB hw12 z4_11 r4_11 c4_11
          have z4_12 := isRow_lt r4_12
          obtain ⟨r5_12, c5_12⟩ := keepB hw12 z5_11 r5_11 c5_11
          have z5_12 := isRow_lt r5_12
          have hb12 := hb11.trans (hw12.mono hb11.size)
          have q12 := hb12.size
          clear hw12 r1_11 c1_11 z1_11 r4_11 c4_11 z4_11 r5_11 c5_11 z5_11 hb11
          have nw1_W12_0 : (w.heap.size) ≠ W12.heap.size := by omega
          have nw4_W12_0 : (a8) ≠ W12.heap.size := by omega
          have nw5_W12_0 : (a10) ≠ W12.heap.size := by omega
          go_wp2_with fail
          go_ret
          exact ⟨ret_bool (by rw [H.out] <;> rfl), (by (repeat (first | exact hb12 | exact Below.refl _ _ | refine Below.alloc ?_ (by first | omega | (simp; try omega)) _ | refine below_setRow ?_ (by omega) _ | refine Below.drew ?_)))⟩
        · skip
          have H := Lib.hid (upto_more (q := cuAt p f) HX2.out (by unfold cuAt; rw [hu1, hu2]; rfl))
          go_wp2
          refine wp_quiet_alloc 9 _ (.cells (row 8 zf) 28) (Below W2.heap.size W2) (Made W2 (row 8 zf)) (by kernel_rfl) rfl rfl (by kernel_rfl) (fun a W => (xallocVec _ _ _ _ _ _ _).trans (allocVec W)) (closed_below W2) (closed_made W2 _) (fun b W h => h.1) (fun W h => made_new W2 _ _ W h) (Below.refl _ _).drew ?_
          simp only [List.take_succ_cons, List.take_zero, List.drop_succ_cons, List.drop_zero]
          iterate 8 (refine e_plain rfl ?_; apply Exists.intro; refine ⟨fun D hD hK W hW => ?_, ?_⟩; (focus (obtain ⟨x1, y1⟩ := keepB (hD W hW) z1_2 r1_2 c1_2; unfold Oper.quietAt; go_simp; first | done | rfl)); simp only [Act.put, List.setIfInBounds_toArray, List.set_cons_zero, List.set_cons_succ])
          (refine e_plain rfl ?_; apply Exists.intro; refine ⟨fun D hD hK W hW => ?_, ?_⟩; (focus (obtain ⟨x1, y1⟩ := keepB (hD W hW) z1_2 r1_2 c1_2; unfold Oper.quietAt; go_simp; (go_at_call 52; exact (applyLeft_any p f i _ hp hp' (by omega) HF.out).mono fun e w2 ⟨he, hw2⟩ => ⟨he, hK _ _ hW hw2⟩))); simp only [Act.put, List.setIfInBounds_toArray, List.set_cons_zero, List.set_cons_succ])
          refine e_nil ?_
          intro a13 W13 hW13
          obtain ⟨hw13, hl13, m1_13, m2_13⟩ := hW13
          have n1_4 : (w.heap.size) ≠ (a13) := by have := z1_2; omega
          have n4_1 : (a13) ≠ (w.heap.size) := by have := z1_2; omega
          obtain ⟨r1_13, c1_13⟩ := keepB hw13 z1_2 r1_2 c1_2
          have z1_13 := isRow_lt r1_13
          have hb13 := hb2.trans (hw13.mono hb2.size)
          have q13 := hb13.size
          clear hw13 r1_2 c1_2 z1_2 hb2
          have z4_13 := isRow_lt m1_13
          simp only [Act.put, List.setIfInBounds_toArray, List.set_cons_zero, List.set_cons_succ]
          go_wp2
          refine atomW fun W14 e14 => ?_
          have hb14 : Below w.heap.size w W14 := by rw [e14]; (repeat (first | exact hb13 | exact Below.refl _ _ | refine Below.alloc ?_ (by first | omega | (simp; try omega)) _ | refine below_setRow ?_ (by omega) _ | refine Below.drew ?_))
          have q14 := hb14.size
          have r1_14 : IsRow W14 (w.heap.size) := by rw [e14]; simp [go_sem, r1_13, c1_13, n1_4, m1_13, m2_13, n4_1]
          have c1_14 := congrArg (fun x => blk x (w.heap.size)) e14; simp [go_sem, r1_13, c1_13, n1_4, m1_13, m2_13, n4_1] at c1_14
          have z1_14 := isRow_lt r1_14
          have r4_14 : IsRow W14 (a13) := by rw [e14]; simp [go_sem, r1_13, c1_13, n1_4, m1_13, m2_13, n4_1]
          have c4_14 := congrArg (fun x => blk x (a13)) e14; simp [go_sem, r1_13, c1_13, n1_4, m1_13, m2_13, n4_1] at c4_14
          have z4_14 := isRow_lt r4_14
          clear e14 r1_13 c1_13 z1_13 m1_13 m2_13 z4_13 hb13
          refine wp_quiet_alloc 10 _ (.cells (row 8 zf) 28) (Below W14.heap.size W14) (Made W14 (row 8 zf)) (by kernel_rfl) rfl rfl (by kernel_rfl) (fun a W => (xallocVec _ _ _ _ _ _ _).trans (allocVec W)) (closed_below W14) (closed_made W14 _) (fun b W h => h.1) (fun W h => made_new W14 _ _ W h) (Below.refl _ _).drew ?_
          simp only [List.take_succ_cons, List.take_zero, List.drop_succ_cons, List.drop_zero]
          iterate 6 (refine e_plain rfl ?_; apply Exists.intro; refine ⟨fun D hD hK W hW => ?_, ?_⟩; (focus (obtain ⟨x1, y1⟩ := keepB (hD W hW) z1_14 r1_14 c1_14; obtain ⟨x4, y4⟩ := keepB (hD W hW) z4_14 r4_14 c4_14; unfold Oper.quietAt; go_simp; first | done | rfl)); simp only [Act.put, List.setIfInBounds_toArray, List.set_cons_zero, List.set_cons_succ])
          (refine e_plain rfl ?_; apply Exists.intro; refine ⟨fun D hD hK W hW => ?_, ?_⟩; (focus (obtain ⟨x1, y1⟩ := keepB (hD W hW) z1_14 r1_14 c1_14; obtain ⟨x4, y4⟩ := keepB (hD W hW) z4_14 r4_14 c4_14; unfold Oper.quietAt; go_simp; (go_at_call 110; exact (flipLinear_any _ _ (com_bytes HF.out i (by omega))).mono fun e w2 ⟨he, hw2⟩ => ⟨he, hK _ _ hW hw2⟩))); simp only [Act.put, List.setIfInBounds_toArray, List.set_cons_zero, List.set_cons_succ])
          iterate 2 (refine e_plain rfl ?_; apply Exists.intro; refine ⟨fun D hD hK W hW => ?_, ?_⟩; (focus (obtain ⟨x1, y1⟩ := keepB (hD W hW) z1_14 r1_14 c1_14; obtain ⟨x4, y4⟩ := keepB (hD W hW) z4_14 r4_14 c4_14; unfold Oper.quietAt; go_simp; first | done | rfl)); simp only [Act.put, List.setIfInBounds_toArray, List.set_cons_zero, List.set_cons_succ])
          (refine e_plain rfl ?_; apply Exists.intro; refine ⟨fun D hD hK W hW => ?_, ?_⟩; (focus (obtain ⟨x1, y1⟩ := keepB (hD W hW) z1_14 r1_14 c1_14; obtain ⟨x4, y4⟩ := keepB (hD W hW) z4_14 r4_14 c4_14; unfold Oper.quietAt; go_simp; (go_at_call 52; exact (applyRight_any p f i _ hp hp' (by omega) HF.out).mono fun e w2 ⟨he, hw2⟩ => ⟨he, hK _ _ hW hw2⟩))); simp only [Act.put, List.setIfInBounds_toArray, List.set_cons_zero, List.set_cons_succ])
          refine e_nil ?_
          intro a15 W15 hW15
          obtain ⟨hw15, hl15, m1_15, m2_15⟩ := hW15
          have n1_5 : (w.heap.size) ≠ (a15) := by have := z1_14; omega
          have n5_1 : (a15) ≠ (w.heap.size) := by have := z1_14; omega
          have n4_5 : (a13) ≠ (a15) := by have := z4_14; omega
          have n5_4 : (a15) ≠ (a13) := by have := z4_14; omega
          obtain ⟨r1_15, c1_15⟩ := keepB hw15 z1_14 r1_14 c1_14
          have z1_15 := isRow_lt r1_15
          obtain ⟨r4_15, c4_15⟩ := keepB hw15 z4_14 r4_14 c4_14
          have z4_15 := isRow_lt r4_15
          have hb15 := hb14.trans (hw15.mono hb14.size)
          have q15 := hb15.size
          clear hw15 r1_14 c1_14 z1_14 r4_14 c4_14 z4_14 hb14
          have z5_15 := isRow_lt m1_15
          simp only [Act.put, List.setIfInBounds_toArray, List.set_cons_zero, List.set_cons_succ]
          go_wp2_with fail
          refine atomC fun W16 e16 => ?_
          have hb16 : Below w.heap.size w W16 := by rw [e16]; (repeat (first | exact hb15 | exact Below.refl _ _ | refine Below.alloc ?_ (by first | omega | (simp; try omega)) _ | refine below_setRow ?_ (by omega) _ | refine Below.drew ?_))
          have q16 := hb16.size
          have r1_16 : IsRow W16 (w.heap.size) := by rw [e16]; simp [go_sem, r1_15, c1_15, n1_4, n1_5, r4_15, c4_15, n4_1, n4_5, m1_15, m2_15, n5_1, n5_4]
          have c1_16 := congrArg (fun x => blk x (w.heap.size)) e16; simp [go_sem, r1_15, c1_15, n1_4, n1_5, r4_15, c4_15, n4_1, n4_5, m1_15, m2_15, n5_1, n5_4] at c1_16
          have z1_16 := isRow_lt r1_16
          have r4_16 : IsRow W16 (a13) := by rw [e16]; simp [go_sem, r1_15, c1_15, n1_4, n1_5, r4_15, c4_15, n4_1, n4_5, m1_15, m2_15, n5_1, n5_4]
          have c4_16 := congrArg (fun x => blk x (a13)) e16; simp [go_sem, r1_15, c1_15, n1_4, n1_5, r4_15, c4_15, n4_1, n4_5, m1_15, m2_15, n5_1, n5_4] at c4_16
          have z4_16 := isRow_lt r4_16
          have r5_16 : IsRow W16 (a15) := by rw [e16]; simp [go_sem, r1_15, c1_15, n1_4, n1_5, r4_15, c4_15, n4_1, n4_5, m1_15, m2_15, n5_1, n5_4]
          have c5_16 := congrArg (fun x => blk x (a15)) e16; simp [go_sem, r1_15, c1_15, n1_4, n1_5, r4_15, c4_15, n4_1, n4_5, m1_15, m2_15, n5_1, n5_4] at c5_16
          have z5_16 := isRow_lt r5_16
          clear e16 r1_15 c1_15 z1_15 r4_15 c4_15 z4_15 m1_15 m2_15 z5_15 hb15
          refine (basisAt i (by omega) _).mono ?_; rintro _ W17 ⟨rfl, hw17⟩
          obtain ⟨r1_17, c1_17⟩ := keepB hw17 z1_16 r1_16 c1_16
          have z1_17 := isRow_lt r1_17
          obtain ⟨r4_17, c4_17⟩ := keepB hw17 z4_16 r4_16 c4_16
          have z4_17 := isRow_lt r4_17
          obtain ⟨r5_17, c5_17⟩ := keepB hw17 z5_16 r5_16 c5_16
          have z5_17 := isRow_lt r5_17
          have hb17 := hb16.trans (hw17.mono hb16.size)
          have q17 := hb17.size
          clear hw17 r1_16 c1_16 z1_16 r4_16 c4_16 z4_16 r5_16 c5_16 z5_16 hb16
          have nw1_W17_0 : (w.heap.size) ≠ W17.heap.size := by omega
          have nw4_W17_0 : (a13) ≠ W17.heap.size := by omega
          have nw5_W17_0 : (a15) ≠ W17.heap.size := by omega
          go_wp2
          go_roundw
          case rel => exact ⟨i + 1, by omega, by go_num, (by (repeat (first | exact hb17 | exact Below.refl _ _ | refine Below.alloc ?_ (by first | omega | (simp; try omega)) _ | refine below_setRow ?_ (by omega) _ | refine Below.drew ?_))), ⟨by simp [go_sem, r1_17, c1_17, n1_4, n1_5, r4_17, c4_17, n4_1, n4_5, r5_17, c5_17, n5_1, n5_4, nw1_W17_0, nw4_W17_0, nw5_W17_0], (by rw [E1_2.out]; first | exact c1_17 | (simp [go_sem, r1_17, c1_17, n1_4, n1_5, r4_17, c4_17, n4_1, n4_5, r5_17, c5_17, n5_1, n5_4, nw1_W17_0, nw4_W17_0, nw5_W17_0]; done))⟩, H.out⟩
          case measure => simp [intOf]; omega
    · skip
      obtain rfl : n = i := by omega
      have H : Hid (cuB p n f = true) := Lib.hid (all_yes (q := cuAt p f) n fun a ha => HX2.out a ha)
      go_wp2_with fail
      go_ret
      exact ⟨ret_bool (by rw [H.out] <;> rfl), (by (repeat (first | exact hb2 | exact Below.refl _ _ | refine Below.alloc ?_ (by first | omega | (simp; try omega)) _ | refine below_setRow ?_ (by omega) _ | refine Below.drew ?_)))⟩

end Go.Proofs.Ytnjjcimpcnennaa
