/- Tables turned, pairs of vectors, sums of coassociativity, counits, of the program and of the reference model. -/
import Derived.Test.YtnjjcimpcnennaaQ1
namespace Go.Proofs.Ytnjjcimpcnennaa
open Go.RowKit
set_option linter.unusedSimpArgs false
set_option linter.unusedVariables false
attribute [local irreducible] wpQuiet wpQE

/-! ### tables turned -/
/-- at i, j, k the entry j, k, i -/
def turnF (T : Nat → Int) : Nat → Int := fun u => T (u / 8 % 8 * 64 + u % 8 * 8 + u / 64)
/-- at j, k, i the entry i, j, k -/
def backF (T : Nat → Int) : Nat → Int := fun u => T (u % 8 * 64 + u / 64 * 8 + u / 8 % 8)
def turnK (T : Nat → Int) (a b c : Nat) : Nat → Int := fun u => if u / 8 % 8 < a ∨ (u / 8 % 8 = a ∧ (u % 8 < b ∨ (u % 8 = b ∧ u / 64 < c))) then turnF T u else 0
def backK (T : Nat → Int) (a b c : Nat) : Nat → Int := fun u => if u % 8 < a ∨ (u % 8 = a ∧ (u / 64 < b ∨ (u / 64 = b ∧ u / 8 % 8 < c))) then backF T u else 0
theorem turn_zero (T : Nat → Int) : row 512 zf = row 512 (turnK T 0 0 0) := row_congr fun u _ => by unfold turnK zf; rw [if_neg (by omega)]
theorem back_zero (T : Nat → Int) : row 512 zf = row 512 (backK T 0 0 0) := row_congr fun u _ => by unfold backK zf; rw [if_neg (by omega)]
theorem turn_step (T : Nat → Int) (j k i : Nat) {y : Int} (hj : j < 8) (hk : k < 8) (hi : i < 8) (hy : y = T (j * 64 + k * 8 + i)) : row 512 (upd (turnK T j k i) (i * 64 + j * 8 + k) y) = row 512 (turnK T j k (i + 1)) := row_congr fun u hu => by
  unfold upd turnK turnF
  by_cases e : u = i * 64 + j * 8 + k
  · subst e
    rw [if_pos rfl, if_pos (by omega), hy]
    congr 1; omega
  · rw [if_neg e]
    by_cases h : u / 8 % 8 < j ∨ (u / 8 % 8 = j ∧ (u % 8 < k ∨ (u % 8 = k ∧ u / 64 < i)))
    · rw [if_pos h, if_pos (by omega)]
    · rw [if_neg h, if_neg (by omega)]
theorem back_step (T : Nat → Int) (i j k : Nat) {y : Int} (hi : i < 8) (hj : j < 8) (hk : k < 8) (hy : y = T (i * 64 + j * 8 + k)) : row 512 (upd (backK T i j k) (j * 64 + k * 8 + i) y) = row 512 (backK T i j (k + 1)) := row_congr fun u hu => by
  unfold upd backK backF
  by_cases e : u = j * 64 + k * 8 + i
  · subst e
    rw [if_pos rfl, if_pos (by omega), hy]
    congr 1; omega
  · rw [if_neg e]
    by_cases h : u % 8 < i ∨ (u % 8 = i ∧ (u / 64 < j ∨ (u / 64 = j ∧ u / 8 % 8 < k)))
    · rw [if_pos h, if_pos (by omega)]
    · rw [if_neg h, if_neg (by omega)]
theorem turn_col (T : Nat → Int) (j k : Nat) : row 512 (turnK T j k 8) = row 512 (turnK T j (k + 1) 0) := row_congr fun u hu => by
  unfold turnK
  by_cases h : u / 8 % 8 < j ∨ (u / 8 % 8 = j ∧ (u % 8 < k ∨ (u % 8 = k ∧ u / 64 < 8)))
  · rw [if_pos h, if_pos (by omega)]
  · rw [if_neg h, if_neg (by omega)]
theorem turn_row (T : Nat → Int) (j : Nat) : row 512 (turnK T j 8 0) = row 512 (turnK T (j + 1) 0 0) := row_congr fun u hu => by
  unfold turnK
  by_cases h : u / 8 % 8 < j ∨ (u / 8 % 8 = j ∧ (u % 8 < 8 ∨ (u % 8 = 8 ∧ u / 64 < 0)))
  · rw [if_pos h, if_pos (by omega)]
  · rw [if_neg h, if_neg (by omega)]
theorem turn_end (T : Nat → Int) : row 512 (turnK T 8 0 0) = row 512 (turnF T) := row_congr fun u hu => by unfold turnK; rw [if_pos (by omega)]
theorem back_col (T : Nat → Int) (i j : Nat) : row 512 (backK T i j 8) = row 512 (backK T i (j + 1) 0) := row_congr fun u hu => by
  unfold backK
  by_cases h : u % 8 < i ∨ (u % 8 = i ∧ (u / 64 < j ∨ (u / 64 = j ∧ u / 8 % 8 < 8)))
  · rw [if_pos h, if_pos (by omega)]
  · rw [if_neg h, if_neg (by omega)]
theorem back_row (T : Nat → Int) (i : Nat) : row 512 (backK T i 8 0) = row 512 (backK T (i + 1) 0 0) := row_congr fun u hu => by
  unfold backK
  by_cases h : u % 8 < i ∨ (u % 8 = i ∧ (u / 64 < 8 ∨ (u / 64 = 8 ∧ u / 8 % 8 < 0)))
  · rw [if_pos h, if_pos (by omega)]
  · rw [if_neg h, if_neg (by omega)]
theorem back_end (T : Nat → Int) : row 512 (backK T 8 0 0) = row 512 (backF T) := row_congr fun u hu => by unfold backK; rw [if_pos (by omega)]
theorem digits3 (a b c : Nat) (ha : a < 8) (hb : b < 8) (hc : c < 8) : (a * 64 + b * 8 + c) / 64 = a ∧ (a * 64 + b * 8 + c) / 8 % 8 = b ∧ (a * 64 + b * 8 + c) % 8 = c := ⟨by omega, by omega, by omega⟩
/-- turned twice the other way it is turned once -/
theorem back_back (T : Nat → Int) : row 512 (backF (backF T)) = row 512 (turnF T) := row_congr fun u hu => by
  obtain ⟨h1, h2, h3⟩ := digits3 (u % 8) (u / 64) (u / 8 % 8) (by omega) (by omega) (by omega)
  show T (_ % 8 * 64 + _ / 64 * 8 + _ / 8 % 8) = T _
  rw [h1, h2, h3]
theorem turn_turn (T : Nat → Int) : row 512 (turnF (turnF T)) = row 512 (backF T) := row_congr fun u hu => by
  obtain ⟨h1, h2, h3⟩ := digits3 (u / 8 % 8) (u % 8) (u / 64) (by omega) (by omega) (by omega)
  show T (_ / 8 % 8 * 64 + _ % 8 * 8 + _ / 64) = T _
  rw [h1, h2, h3]
theorem turn_bytes {T : Nat → Int} (h : Bytes 512 T) : Bytes 512 (turnF T) := fun u hu => h _ (by omega)
theorem back_bytes {T : Nat → Int} (h : Bytes 512 T) : Bytes 512 (backF T) := fun u hu => h _ (by omega)

/-! ### pairs of vectors -/
/-- c times v (x) u added, in the first k rows -/
def pairK (p : Int) (F : Nat → Int) (c : Int) (v u : Nat → Int) (k : Nat) : Nat → Int := fun t => if t / 8 < k then (F t + c * v (t / 8) % p * u (t % 8)) % p else F t
theorem pair_zero (p : Int) (F : Nat → Int) (c : Int) (v u : Nat → Int) : row 64 F = row 64 (pairK p F c v u 0) := row_congr fun t _ => by unfold pairK; rw [if_neg (by omega)]
theorem pair_step (p : Int) (F : Nat → Int) (c : Int) (v u : Nat → Int) (k : Nat) (hk : k < 8) : row 64 (addm p (k * 8) 8 (c * v k % p) (pairK p F c v u k) u) = row 64 (pairK p F c v u (k + 1)) := row_congr fun t _ => by
  unfold addm pairK
  by_cases h : k * 8 ≤ t ∧ t < k * 8 + 8
  · rw [if_pos h, if_neg (by omega), if_pos (by omega), show t / 8 = k by omega, show t - k * 8 = t % 8 by omega]
  · rw [if_neg h]
    by_cases h2 : t / 8 < k
    · rw [if_pos h2, if_pos (by omega)]
    · rw [if_neg h2, if_neg (by omega)]
theorem pair_range {p : Int} (hp : 0 < p) {F : Nat → Int} (c : Int) (v u : Nat → Int) (k : Nat) (hF : ∀ t, t < 64 → 0 ≤ F t ∧ F t < p) (t : Nat) (ht : t < 64) : 0 ≤ pairK p F c v u k t ∧ pairK p F c v u k t < p := by
  unfold pairK
  split
  · exact mod_range _ p hp
  · exact hF t ht

set_option maxRecDepth 100000 in
set_option maxHeartbeats 1000000 in
theorem addPair_any (p c : Int) (b : Nat) (F v u : Nat → Int) (w : World) (hp : 0 < p) (hp' : p ≤ 255) (hc : 0 ≤ c) (hc' : c ≤ 255) (hF : ∀ t, t < 64 → 0 ≤ F t ∧ F t < p) (hv : Bytes 8 v) (hu : Bytes 8 u) (hr : IsRow w b) (hcm : blk w b = row 64 F) :
    Calls Try.prog 100 #[.int .i64 p, .pointer (some ⟨b, 0, none⟩), .int .u8 c, .agg (row 8 v), .agg (row 8 u)] w fun e w' => e = .returned (.tuple #[]) ∧ Aside w.heap.size b w w' ∧ IsRow w' b ∧ blk w' b = row 64 (pairK p F c v u 8) := by
  have HF := Lib.hid hF; clear hF
  have Hv := Lib.hid hv; clear hv
  have Hu := Lib.hid hu; clear hu
  have hbw := isRow_lt hr
  go_enter Try.func100, Try.ntmps100
  go_wp2
  have nwm_w_0 : (b) ≠ w.heap.size := by omega
  have nwm_w_1 : (b) ≠ w.heap.size + 1 := by omega
  refine atomW fun W1 e1 => ?_
  have hb1 : Aside w.heap.size b w W1 := by rw [e1]; (repeat (first | exact Aside.refl _ _ _ | refine Aside.alloc ?_ (by first | omega | (simp; try omega)) _ | refine Aside.self ?_ _ | refine Aside.setRow ?_ (by omega) _))
  have q1 := hb1.size
  have rm_1 : IsRow W1 (b) := by rw [e1]; simp [go_sem, hr, hcm, nwm_w_0, nwm_w_1]
  have cm_1 := congrArg (fun x => blk x (b)) e1; simp [go_sem, hr, hcm, nwm_w_0, nwm_w_1] at cm_1
  have zm_1 := isRow_lt rm_1
  have r9_1 : IsRow W1 (w.heap.size + 1) := by rw [e1]; simp [go_sem, hr, hcm, nwm_w_0, nwm_w_1]
  have c9_1 := congrArg (fun x => blk x (w.heap.size + 1)) e1; simp [go_sem, hr, hcm, nwm_w_0, nwm_w_1] at c9_1
  have z9_1 := isRow_lt r9_1
  have nm_9 : (b) ≠ (w.heap.size + 1) := by omega
  have n9_m : (w.heap.size + 1) ≠ (b) := by omega
  clear e1 nwm_w_0 nwm_w_1 hr hcm
  go_loopw [13] (fun s13 wr => ∃ i : Nat, i ≤ 8 ∧ s13 = .int .i64 i ∧ Aside w.heap.size b w wr ∧ (IsRow wr (b) ∧ blk wr (b) = row 64 (pairK p F c v u i)) ∧ (IsRow wr (w.heap.size + 1) ∧ blk wr (w.heap.size + 1) = blk W1 (w.heap.size + 1))) (fun s13 _ => 8 - (intOf s13).toNat)
  case atStart => exact ⟨0, by omega, rfl, hb1, ⟨rm_1, cm_1.trans (pair_zero p F c v u)⟩, ⟨r9_1, rfl⟩⟩
  case round =>
    obtain ⟨i, hle2, rfl, hb2, ⟨rm_2, cm_2⟩, ⟨r9_2, c9_2⟩⟩ := hrel
    obtain ⟨W2, rfl⟩ : ∃ W2 : World, W2 = wr := ⟨_, rfl⟩
    have q2 := hb2.size
    have zm_2 := isRow_lt rm_2
    have E9_2 := Lib.hid c9_1; replace c9_2 := c9_2.trans c9_1
    have z9_2 := isRow_lt r9_2
    clear rm_1 cm_1 zm_1 r9_1 c9_1 z9_1 hb1
    by_cases hlt2 : i < 8
    · skip
      have i0_2 : (0 : Int) ≤ (i : Int) := by omega
      have i8_2 : (i : Int) < 8 := by omega
      have k8_2 : i < 8 := by omega
      have m8_2 : i * 8 + 8 ≤ 64 := by omega
      have m64_2 : i * 64 + 64 ≤ 512 := by omega
      have l1_2 : 10 + i * 64 + 64 ≤ 522 := by omega
      have b1 := (Hv.out i (by omega)).1; have b2 := (Hv.out i (by omega)).2; have b3 := (mod_range (c * v i) p hp).1; have b4 := (mod_range (c * v i) p hp).2
      go_wp2
      refine wp_quiet_tail 11 (Below W2.heap.size W2) (by kernel_rfl) (by kernel_rfl) (Below.refl _ _).drew ?_
      simp only [List.take_succ_cons, List.take_zero, List.drop_succ_cons, List.drop_zero]
      iterate 9 (refine q_plain rfl ?_; apply Exists.intro; refine ⟨fun W hW => ?_, ?_⟩; (focus (obtain ⟨xm, ym⟩ := keepB hW zm_2 rm_2 cm_2; obtain ⟨x9, y9⟩ := keepB hW z9_2 r9_2 c9_2; go_simp; first | done | rfl)); simp only [Act.put, List.setIfInBounds_toArray, List.set_cons_zero, List.set_cons_succ])
      (refine q_plain rfl ?_; apply Exists.intro; refine ⟨fun W hW => ?_, ?_⟩; (focus (obtain ⟨xm, ym⟩ := keepB hW zm_2 rm_2 cm_2; obtain ⟨x9, y9⟩ := keepB hW z9_2 r9_2 c9_2; go_simp; (go_at_call 86; exact (timesNumber_any _ _ _ _ hp hp' hc hc' b1 b2).mono fun e w2 ⟨he, hw2⟩ => ⟨he, hw2 ▸ hW⟩))); simp only [Act.put, List.setIfInBounds_toArray, List.set_cons_zero, List.set_cons_succ])
      iterate 1 (refine q_plain rfl ?_; apply Exists.intro; refine ⟨fun W hW => ?_, ?_⟩; (focus (obtain ⟨xm, ym⟩ := keepB hW zm_2 rm_2 cm_2; obtain ⟨x9, y9⟩ := keepB hW z9_2 r9_2 c9_2; go_simp; first | done | rfl)); simp only [Act.put, List.setIfInBounds_toArray, List.set_cons_zero, List.set_cons_succ])
      refine wpQuiet_nil ?_
      intro W3 hw3
      obtain ⟨rm_3, cm_3⟩ := keepB hw3 zm_2 rm_2 cm_2
      have zm_3 := isRow_lt rm_3
      obtain ⟨r9_3, c9_3⟩ := keepB hw3 z9_2 r9_2 c9_2
      have z9_3 := isRow_lt r9_3
      have hb3 := hb2.tail (hw3.mono hb2.size)
      have q3 := hb3.size
      clear hw3 rm_2 cm_2 zm_2 r9_2 c9_2 z9_2 hb2
      go_wp2_with fail
      refine (addMultiple_any p _ _ (i * 8) 64 8 _ _ _ 0 (pairK p F c v u i) u _ hp hp' b3 (by omega) rm_3 cm_3 (by omega) (by omega) (fun t _ _ => pair_range hp c v u i HF.out t (by omega)) (byte_at (N := 8) (off' := 0) c9_3 (by omega) (fun t _ => by rw [Nat.zero_add]) Hu.out) (by omega)).mono ?_; rintro _ _ ⟨rfl, rfl⟩
      go_wp2
      go_roundw
      case rel => exact ⟨i + 1, by omega, by go_num, (by (repeat (first | exact hb3 | exact Aside.refl _ _ _ | refine Aside.alloc ?_ (by first | omega | (simp; try omega)) _ | refine Aside.self ?_ _ | refine Aside.setRow ?_ (by omega) _))), ⟨by simp [go_sem, rm_3, cm_3, nm_9, r9_3, c9_3, n9_m], (by first | (rw [blk_setRow _ _ _ _ rm_3, if_pos rfl]; exact pair_step p F c v u i (by omega)) | exact (cm_3).trans (pair_step p F c v u i (by omega)) | (simp [go_sem, rm_3, cm_3, nm_9, r9_3, c9_3, n9_m]; exact pair_step p F c v u i (by omega)))⟩, ⟨by simp [go_sem, rm_3, cm_3, nm_9, r9_3, c9_3, n9_m], (by rw [E9_2.out]; first | exact c9_3 | (simp [go_sem, rm_3, cm_3, nm_9, r9_3, c9_3, n9_m]; done))⟩⟩
      case measure => simp [intOf]; omega
    · skip
      obtain rfl : i = 8 := by omega
      go_wp2_with fail
      (try simp only [Exit.inBlock, Exit.then]); first | (refine bodyPost_end (results_none rfl _ _ _) rfl ⟨rfl, (by (repeat (first | exact hb2 | exact Aside.refl _ _ _ | refine Aside.alloc ?_ (by first | omega | (simp; try omega)) _ | refine Aside.self ?_ _ | refine Aside.setRow ?_ (by omega) _))), ?_, ?_⟩) | (refine bodyPost_ret (results_none rfl _ _ _) rfl ⟨rfl, (by (repeat (first | exact hb2 | exact Aside.refl _ _ _ | refine Aside.alloc ?_ (by first | omega | (simp; try omega)) _ | refine Aside.self ?_ _ | refine Aside.setRow ?_ (by omega) _))), ?_, ?_⟩)
      · simp [go_sem, rm_2, cm_2, nm_9, r9_2, c9_2, n9_m]
      · first | exact cm_2 | simp [go_sem, rm_2, cm_2, nm_9, r9_2, c9_2, n9_m]

/-- v (x) u -/
def outF (p : Int) (v u : Nat → Int) (k : Nat) : Nat → Int := fun t => if t / 8 < k then v (t / 8) * u (t % 8) % p else 0
theorem otr_zero (p : Int) (v u : Nat → Int) : row 64 zf = row 64 (outF p v u 0) := row_congr fun t _ => by unfold outF zf; rw [if_neg (by omega)]
theorem out_stepL (p : Int) (v u : Nat → Int) (k : Nat) (hk : k < 8) : lay (row 64 (outF p v u k)) (k * 8) (row 8 (addm p 0 8 (v k) zf u)) = row 64 (outF p v u (k + 1)) := by
  rw [lay_row _ _ _ _ _ (by omega)]
  refine row_congr fun t _ => ?_
  by_cases h : k * 8 ≤ t ∧ t < k * 8 + 8
  · rw [if_pos h]
    unfold addm outF zf
    rw [if_pos (by omega), if_pos (by omega), Int.zero_add, Nat.sub_zero, show t / 8 = k by omega, show t - k * 8 = t % 8 by omega]
  · rw [if_neg h]
    unfold outF
    by_cases h2 : t / 8 < k
    · rw [if_pos h2, if_pos (by omega)]
    · rw [if_neg h2, if_neg (by omega)]
theorem pair_out (p : Int) (hp : 0 < p) (v u : Nat → Int) : row 64 (pairK p zf 1 v u 8) = row 64 (outF p v u 8) := row_congr fun t _ => by
  unfold pairK outF zf
  rw [if_pos (by omega), if_pos (by omega), Int.one_mul, Int.zero_add, Int.mul_emod, Int.emod_emod, ← Int.mul_emod]

end Go.Proofs.Ytnjjcimpcnennaa
