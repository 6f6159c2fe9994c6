/- Group-like vectors of a coalgebra: both programs, and the law. -/
import Derived.Test.YtfdejhhgkpdfdaaQ10
import Derived.Test.YtfdejhhgkpdfdaaL1
namespace Go.Proofs.Ytfdejhhgkpdfdaa
open Go.RowKit
set_option linter.unusedSimpArgs false
set_option linter.unusedVariables false
attribute [local irreducible] wpQuiet wpQE

/-! ### the vector at a place -/
def digV (p : Int) (n x i : Nat) : Int := (x : Int) / p ^ (n - 1 - i) % p
/-- the last j entries are laid -/
def dgF (p : Int) (n x j : Nat) : Nat → Int := fun i => if n - j ≤ i ∧ i < n then digV p n x i else 0
def restI (p : Int) (x j : Nat) : Int := (x : Int) / p ^ j
theorem dg_zero (p : Int) (n x : Nat) : row 8 zf = row 8 (dgF p n x 0) := row_congr fun i _ => by unfold dgF zf; rw [if_neg (by omega)]
theorem dg_step (p : Int) (n x j : Nat) (hj : j < n) (q : Int) (hq : q = restI p x j % p) : row 8 (upd (dgF p n x j) (n - 1 - j) q) = row 8 (dgF p n x (j + 1)) := row_congr fun i _ => by
  unfold upd dgF
  by_cases h : i = n - 1 - j
  · rw [if_pos h, if_pos (by omega), hq]
    unfold digV restI
    rw [show n - 1 - i = j by omega]
  · rw [if_neg h]
    by_cases h2 : n - j ≤ i ∧ i < n
    · rw [if_pos h2, if_pos (by omega)]
    · rw [if_neg h2, if_neg (by omega)]
theorem rest_zero (p : Int) (x : Nat) : (x : Int) = restI p x 0 := by unfold restI; simp
theorem rest_step {p : Int} (hp : 0 < p) (x j : Nat) : restI p x j / p = restI p x (j + 1) := by
  unfold restI
  rw [Int.ediv_ediv_of_nonneg (Int.le_of_lt (Int.pow_pos hp)), Int.pow_succ]
theorem rest_range {p : Int} (hp : 0 < p) (x j : Nat) : 0 ≤ restI p x j ∧ restI p x j ≤ x := by
  unfold restI
  exact ⟨Int.ediv_nonneg (by omega) (Int.le_of_lt (Int.pow_pos hp)), Int.ediv_le_self _ (by omega)⟩
theorem dg_bytes {p : Int} (hp : 0 < p) (hp' : p ≤ 255) (n x j : Nat) : Bytes 8 (dgF p n x j) := fun i _ => by
  unfold dgF
  split
  · have h1 := Int.emod_nonneg ((x : Int) / p ^ (n - 1 - i)) (show p ≠ 0 by omega)
    have h2 := Int.emod_lt_of_pos ((x : Int) / p ^ (n - 1 - i)) hp
    unfold digV
    omega
  · omega
/-! ### the number of all vectors -/
theorem pow_range {p : Int} (h2 : 2 ≤ p) (h : p ≤ 31) : ∀ i, i ≤ 8 → 1 ≤ p ^ i ∧ p ^ i ≤ 31 ^ i
  | 0, _ => by simp
  | i + 1, hi => by
    have h1 := pow_range h2 h i (by omega)
    rw [Int.pow_succ, Int.pow_succ]
    exact ⟨by have := Int.mul_le_mul h1.1 (show (1 : Int) ≤ p by omega) (by omega) (by omega); simpa using this, Int.mul_le_mul h1.2 h (by omega) (by omega)⟩
theorem pow31 (i : Nat) (h : i ≤ 7) : (31 : Int) ^ i ≤ 27512614111 := by
  match i, h with
  | 0, _ => decide
  | 1, _ => decide
  | 2, _ => decide
  | 3, _ => decide
  | 4, _ => decide
  | 5, _ => decide
  | 6, _ => decide
  | 7, _ => decide
theorem pow_bound {p : Int} (h2 : 2 ≤ p) (h : p ≤ 31) (i : Nat) (hi : i ≤ 7) : 1 ≤ p ^ i ∧ p ^ i ≤ 27512614111 ∧ 0 ≤ p ^ i * p ∧ p ^ i * p ≤ 27512614111 * 31 := by
  have h1 := pow_range h2 h i (by omega)
  have h3 := pow31 i hi
  have h4 : p ^ i ≤ 27512614111 := by omega
  exact ⟨h1.1, h4, Int.mul_nonneg (by omega) (by omega), Int.mul_le_mul h4 h (by omega) (by omega)⟩
theorem pow_mono {p : Int} (h2 : 2 ≤ p) {i n : Nat} (h : i ≤ n) : p ^ i ≤ p ^ n := by
  induction n with
  | zero => obtain rfl : i = 0 := by omega
            exact Int.le_refl _
  | succ n ih =>
    by_cases hi : i = n + 1
    · subst hi; exact Int.le_refl _
    · have h3 := ih (by omega)
      have h4 : 0 < p ^ n := Int.pow_pos (by omega)
      rw [Int.pow_succ]
      have := Int.mul_le_mul_of_nonneg_left (show (1 : Int) ≤ p by omega) (Int.le_of_lt h4)
      omega
/-- the count, or one more than the limit -/
def cntS (p : Int) (n : Nat) : Int := if p ^ n ≤ 5000 then p ^ n else 5001

set_option maxRecDepth 100000 in
set_option maxHeartbeats 1000000 in
theorem countVectors_any (p : Int) (n : Nat) (w : World) (hp2 : 2 ≤ p) (hp31 : p ≤ 31) (hn : n ≤ 8) :
    Calls Try.prog 100 #[.int .i64 p, .int .i64 n] w fun e w' => e = .returned (.int .i64 (p ^ n)) ∧ Below w.heap.size w w' := by
  go_enter Try.func100, Try.ntmps100
  go_wp2
  refine atomW fun W1 e1 => ?_
  have hb1 : Below w.heap.size w W1 := by rw [e1]; (repeat (first | exact Below.refl _ _ | refine Below.alloc ?_ (by first | omega | (simp; try omega)) _ | refine below_setRow ?_ (by omega) _ | refine Below.drew ?_))
  have q1 := hb1.size
  clear e1
  go_loopw [5, 7] (fun s5 s7 wr => ∃ i : Nat, i ≤ n ∧ s5 = .int .i64 (p ^ i) ∧ s7 = .int .i64 i ∧ Below w.heap.size w wr) (fun _ s7 _ => n - (intOf s7).toNat)
  case atStart => exact ⟨0, by omega, (by first | rfl | (simp; done) | go_num), rfl, hb1⟩
  case round =>
    obtain ⟨i, hle2, rfl, rfl, hb2⟩ := hrel
    obtain ⟨W2, rfl⟩ : ∃ W2 : World, W2 = wr := ⟨_, rfl⟩
    have q2 := hb2.size
    clear hb1
    by_cases hlt2 : i < n
    · skip
      have i0_2 : (0 : Int) ≤ (i : Int) := by omega
      have i8_2 : (i : Int) < 8 := by omega
      have k8_2 : i < 8 := by omega
      have m8_2 : i * 8 + 8 ≤ 64 := by omega
      have m64_2 : i * 64 + 64 ≤ 512 := by omega
      have l1_2 : 10 + i * 64 + 64 ≤ 522 := by omega
      obtain ⟨b1, b2, b3, b4⟩ := pow_bound hp2 hp31 i (by omega)
      have e1 : p ^ (i + 1) = p ^ i * p := Int.pow_succ p i
      have q1 : IntKind.i64.wrap (p ^ i * p) = p ^ i * p := IntWalk.i64_in _ (by omega)
      go_wp2
      go_roundw
      case rel => exact ⟨i + 1, by omega, (by first | rfl | go_num | (simp; done)), by go_num, (by (repeat (first | exact hb2 | exact Below.refl _ _ | refine Below.alloc ?_ (by first | omega | (simp; try omega)) _ | refine below_setRow ?_ (by omega) _ | refine Below.drew ?_)))⟩
      case measure => simp [intOf]; try omega
    · skip
      obtain rfl : n = i := by omega
      go_wp2_with fail
      go_ret
      exact ⟨rfl, (by (repeat (first | exact hb2 | exact Below.refl _ _ | refine Below.alloc ?_ (by first | omega | (simp; try omega)) _ | refine below_setRow ?_ (by omega) _ | refine Below.drew ?_)))⟩

theorem cnt_stop {p : Int} {n i : Nat} (h2 : 2 ≤ p) (hi : i ≤ n) (h : ¬ p ^ i ≤ 5000) : 5001 = cntS p n := by
  have := pow_mono h2 hi
  unfold cntS
  rw [if_neg (by omega)]
theorem cnt_end {p : Int} {n : Nat} (h : p ^ n ≤ 5000) : p ^ n = cntS p n := by
  unfold cntS
  rw [if_pos h]

set_option maxRecDepth 100000 in
set_option maxHeartbeats 1000000 in
theorem l02Count_any (p : Int) (n : Nat) (w : World) (hp2 : 2 ≤ p) (hp31 : p ≤ 31) (hn : n ≤ 8) :
    Calls Try.prog 98 #[.int .i64 p, .int .i64 n] w fun e w' => e = .returned (.int .i64 (cntS p n)) ∧ Below w.heap.size w w' := by
  go_enter Try.func98, Try.ntmps98
  go_wp2
  refine atomW fun W1 e1 => ?_
  have hb1 : Below w.heap.size w W1 := by rw [e1]; (repeat (first | exact Below.refl _ _ | refine Below.alloc ?_ (by first | omega | (simp; try omega)) _ | refine below_setRow ?_ (by omega) _ | refine Below.drew ?_))
  have q1 := hb1.size
  clear e1
  go_loopw [1, 5] (fun s1 s5 wr => ∃ i : Nat, i ≤ n ∧ s1 = .int .i64 ((n : Int) - i) ∧ s5 = .int .i64 (p ^ i) ∧ Below w.heap.size w wr) (fun s1 _ _ => n - (n - intOf s1).toNat)
  case atStart => exact ⟨0, by omega, (by first | rfl | (simp; done) | go_num), (by first | rfl | (simp; done) | go_num), hb1⟩
  case round =>
    obtain ⟨i, hle2, rfl, rfl, hb2⟩ := hrel
    obtain ⟨W2, rfl⟩ : ∃ W2 : World, W2 = wr := ⟨_, rfl⟩
    have q2 := hb2.size
    clear hb1
    by_cases hlt2 : i < n
    · skip
      have i0_2 : (0 : Int) ≤ (i : Int) := by omega
      have i8_2 : (i : Int) < 8 := by omega
      have k8_2 : i < 8 := by omega
      have m8_2 : i * 8 + 8 ≤ 64 := by omega
      have m64_2 : i * 64 + 64 ≤ 512 := by omega
      have l1_2 : 10 + i * 64 + 64 ≤ 522 := by omega
      by_cases hs : p ^ i ≤ 5000
      · skip
        obtain ⟨b1, b2, b3, b4⟩ := pow_bound hp2 hp31 i (by omega)
        have e1 : p ^ (i + 1) = p ^ i * p := Int.pow_succ p i
        have q1 : IntKind.i64.wrap (p ^ i * p) = p ^ i * p := IntWalk.i64_in _ (by omega)
        have k1 : (0 : Int) < (n : Int) - i := by omega
        go_wp2
        go_roundw
        case rel => exact ⟨i + 1, by omega, (by first | rfl | go_num | (simp; done)), (by first | rfl | go_num | (simp; done)), (by (repeat (first | exact hb2 | exact Below.refl _ _ | refine Below.alloc ?_ (by first | omega | (simp; try omega)) _ | refine below_setRow ?_ (by omega) _ | refine Below.drew ?_)))⟩
        case measure => simp [intOf]; try omega
      · skip
        by_cases he : p ^ i = 5001
        · skip
          obtain ⟨b1, b2, b3, b4⟩ := pow_bound hp2 hp31 i (by omega)
          have e1 : p ^ (i + 1) = p ^ i * p := Int.pow_succ p i
          have q1 : IntKind.i64.wrap (p ^ i * p) = p ^ i * p := IntWalk.i64_in _ (by omega)
          have k1 : (0 : Int) < (n : Int) - i := by omega
          have HC := Lib.hid (cnt_stop (n := n) hp2 (by omega) hs)
          go_wp2_with fail
          go_ret
          exact ⟨ret_int HC.out, (by (repeat (first | exact hb2 | exact Below.refl _ _ | refine Below.alloc ?_ (by first | omega | (simp; try omega)) _ | refine below_setRow ?_ (by omega) _ | refine Below.drew ?_)))⟩
        · skip
          obtain ⟨b1, b2, b3, b4⟩ := pow_bound hp2 hp31 i (by omega)
          have e1 : p ^ (i + 1) = p ^ i * p := Int.pow_succ p i
          have q1 : IntKind.i64.wrap (p ^ i * p) = p ^ i * p := IntWalk.i64_in _ (by omega)
          have k1 : (0 : Int) < (n : Int) - i := by omega
          have k2 : 5001 < p ^ i := by omega
          have HC := Lib.hid (cnt_stop (n := n) hp2 (by omega) hs)
          go_wp2_with fail
          go_ret
          exact ⟨ret_int HC.out, (by (repeat (first | exact hb2 | exact Below.refl _ _ | refine Below.alloc ?_ (by first | omega | (simp; try omega)) _ | refine below_setRow ?_ (by omega) _ | refine Below.drew ?_)))⟩
    · skip
      obtain rfl : n = i := by omega
      by_cases hs : p ^ n ≤ 5000
      · skip
        have k2 : p ^ n < 5001 := by omega
        have HC := Lib.hid (cnt_end hs)
        go_wp2_with fail
        go_ret
        exact ⟨ret_int HC.out, (by (repeat (first | exact hb2 | exact Below.refl _ _ | refine Below.alloc ?_ (by first | omega | (simp; try omega)) _ | refine below_setRow ?_ (by omega) _ | refine Below.drew ?_)))⟩
      · skip
        by_cases he : p ^ n = 5001
        · skip
          have HC := Lib.hid (cnt_stop (n := n) hp2 (by omega) hs)
          go_wp2_with fail
          go_ret
          exact ⟨ret_int HC.out, (by (repeat (first | exact hb2 | exact Below.refl _ _ | refine Below.alloc ?_ (by first | omega | (simp; try omega)) _ | refine below_setRow ?_ (by omega) _ | refine Below.drew ?_)))⟩
        · skip
          have k2 : 5001 < p ^ n := by omega
          have HC := Lib.hid (cnt_stop (n := n) hp2 (by omega) hs)
          go_wp2_with fail
          go_ret
          exact ⟨ret_int HC.out, (by (repeat (first | exact hb2 | exact Below.refl _ _ | refine Below.alloc ?_ (by first | omega | (simp; try omega)) _ | refine below_setRow ?_ (by omega) _ | refine Below.drew ?_)))⟩

set_option maxRecDepth 100000 in
set_option maxHeartbeats 1000000 in
theorem vectorAt_any (p : Int) (n x : Nat) (w : World) (hp : 0 < p) (hp' : p ≤ 255) (hn : n ≤ 8) (hx : x ≤ 5000) :
    Calls Try.prog 101 #[.int .i64 p, .int .i64 n, .int .i64 x] w fun e w' => e = .returned (.agg (row 8 (dgF p n x n))) ∧ Below w.heap.size w w' := by
  have HR := Lib.hid (rest_zero p x)
  go_enter Try.func101, Try.ntmps101
  go_wp2
  refine atomW fun W1 e1 => ?_
  have hb1 : Below w.heap.size w W1 := by rw [e1]; (repeat (first | exact Below.refl _ _ | refine Below.alloc ?_ (by first | omega | (simp; try omega)) _ | refine below_setRow ?_ (by omega) _ | refine Below.drew ?_))
  have q1 := hb1.size
  have R1 : IsRow W1 (w.heap.size) ∧ IsRow W1 (w.heap.size + 1) := by rw [e1]; simp [go_sem]
  obtain ⟨r6_1, r7_1⟩ := R1
  have C1 := (⟨congrArg (blk · (w.heap.size)) e1, congrArg (blk · (w.heap.size + 1)) e1⟩ : _ ∧ _); simp [go_sem] at C1
  obtain ⟨c6_1, c7_1⟩ := C1
  have z6_1 := isRow_lt r6_1; have z7_1 := isRow_lt r7_1
  clear e1
  go_loopw [2, 8] (fun s2 s8 wr => ∃ j : Nat, j ≤ n ∧ s2 = .int .i64 (restI p x j) ∧ s8 = .int .i64 ((n : Int) - 1 - j) ∧ Below w.heap.size w wr ∧ (IsRow wr (w.heap.size) ∧ blk wr (w.heap.size) = blk W1 (w.heap.size)) ∧ (IsRow wr (w.heap.size + 1) ∧ blk wr (w.heap.size + 1) = row 8 (dgF p n x j))) (fun _ s8 _ => (intOf s8 + 1).toNat)
  case atStart => exact ⟨0, by omega, (by rw [HR.out]), (by first | rfl | (simp; done) | go_num), hb1, ⟨r6_1, rfl⟩, ⟨r7_1, c7_1.trans (dg_zero p n x)⟩⟩
  case round =>
    obtain ⟨j, hle2, rfl, rfl, hb2, ⟨r6_2, c6_2⟩, ⟨r7_2, c7_2⟩⟩ := hrel
    obtain ⟨W2, rfl⟩ : ∃ W2 : World, W2 = wr := ⟨_, rfl⟩
    have q2 := hb2.size
    have E6_2 := Lib.hid c6_1; replace c6_2 := c6_2.trans c6_1
    have z6_2 := isRow_lt r6_2
    have z7_2 := isRow_lt r7_2
    clear r6_1 c6_1 z6_1 r7_1 c7_1 z7_1 hb1
    by_cases hlt2 : j < n
    · skip
      have i0_2 : (0 : Int) ≤ (j : Int) := by omega
      have i8_2 : (j : Int) < 8 := by omega
      have k8_2 : j < 8 := by omega
      have m8_2 : j * 8 + 8 ≤ 64 := by omega
      have m64_2 : j * 64 + 64 ≤ 512 := by omega
      have l1_2 : 10 + j * 64 + 64 ≤ 522 := by omega
      have b1 := (rest_range hp x j).1
      have b2 := (rest_range hp x j).2
      have t1 : (restI p x j).tmod p = restI p x j % p := Int.tmod_eq_emod_of_nonneg b1
      have t2 : (restI p x j).tdiv p = restI p x (j + 1) := (Int.tdiv_eq_ediv_of_nonneg b1).trans (rest_step hp x j)
      have b3 := Int.emod_nonneg (restI p x j) (show p ≠ 0 by omega)
      have b4 := Int.emod_lt_of_pos (restI p x j) hp
      have HD := Lib.hid (dg_step p n x j (by omega) _ rfl)
      have n1 : ((n : Int) - 1 - j).toNat = n - 1 - j := by omega
      have n2 : (0 : Int) ≤ (n : Int) - 1 - j := by omega
      have n3 : (n : Int) - 1 - j < 8 := by omega
      have n4 : n - 1 - j < 8 := by omega
      have p0 : ¬ p = 0 := by omega
      have b5 := (rest_range hp x (j + 1)).1
      have b6 := (rest_range hp x (j + 1)).2
      have w2 : IntKind.i64.wrap (restI p x (j + 1)) = restI p x (j + 1) := IntWalk.i64_in _ (by omega)
      have w1 : IntKind.u8.wrap (restI p x j % p) = restI p x j % p := IntWalk.u8_in _ (by omega)
      go_wp2
      go_roundw
      case rel => exact ⟨j + 1, by omega, (by first | rfl | go_num | (simp; done)), (by first | rfl | go_num | (simp; done)), (by (repeat (first | exact hb2 | exact Below.refl _ _ | refine Below.alloc ?_ (by first | omega | (simp; try omega)) _ | refine below_setRow ?_ (by omega) _ | refine Below.drew ?_))), ⟨by simp [go_sem, r6_2, c6_2, r7_2, c7_2], (by rw [E6_2.out]; first | exact c6_2 | (simp [go_sem, r6_2, c6_2, r7_2, c7_2]; done))⟩, ⟨by simp [go_sem, r6_2, c6_2, r7_2, c7_2], (by first | (rw [blk_setRow _ _ _ _ r7_2, if_pos rfl]; exact HD.out) | exact (c7_2).trans (HD.out) | (simp [go_sem, r6_2, c6_2, r7_2, c7_2]; exact HD.out))⟩⟩
      case measure => simp [intOf]; try omega
    · skip
      obtain rfl : n = j := by omega
      go_wp2_with fail
      refine bodyPost_ret (result_cell rfl aggVec _ _ (row 8 (dgF p n x n)) _ rfl ?_ ?_) rfl ⟨rfl, ?_⟩
      · simp [go_sem, r6_2, c6_2, r7_2, c7_2]
      · simp [go_sem, r6_2, c6_2, r7_2, c7_2]
      · repeat (first | exact hb2 | exact Below.refl _ _ | refine Below.alloc ?_ (by first | omega | (simp; try omega)) _ | refine below_setRow ?_ (by omega) _ | refine Below.drew ?_)

/-! ### the group-like vectors among the first k -/
def grpN (p : Int) (n : Nat) (f : Nat → Int) : Nat → Nat
  | 0 => 0
  | k + 1 => if grpB p f (dgF p n k n) = true then grpN p n f k + 1 else grpN p n f k
def grpG (p : Int) (n : Nat) (f : Nat → Int) : Nat → Nat → Nat → Int
  | 0 => fun _ _ => 0
  | k + 1 => if grpB p f (dgF p n k n) = true then addV (grpG p n f k) (grpN p n f k) (dgF p n k n) else grpG p n f k
theorem grpN_yes {p : Int} {n : Nat} {f : Nat → Int} {k : Nat} (h : grpB p f (dgF p n k n) = true) : grpN p n f (k + 1) = grpN p n f k + 1 := if_pos h
theorem grpN_no {p : Int} {n : Nat} {f : Nat → Int} {k : Nat} (h : grpB p f (dgF p n k n) = false) : grpN p n f (k + 1) = grpN p n f k := if_neg (by rw [h]; simp)
theorem grpG_yes {p : Int} {n : Nat} {f : Nat → Int} {k : Nat} (h : grpB p f (dgF p n k n) = true) : grpG p n f (k + 1) = addV (grpG p n f k) (grpN p n f k) (dgF p n k n) := if_pos h
theorem grpG_no {p : Int} {n : Nat} {f : Nat → Int} {k : Nat} (h : grpB p f (dgF p n k n) = false) : grpG p n f (k + 1) = grpG p n f k := if_neg (by rw [h]; simp)
theorem grpN_le (p : Int) (n : Nat) (f : Nat → Int) : ∀ k, grpN p n f k ≤ k
  | 0 => Nat.le_refl _
  | k + 1 => by
    have := grpN_le p n f k
    rw [grpN]; split <;> omega
def glCode (p n : Int) (f : Nat → Int) : Int := if coB p n f = true then (if p ^ n.toNat ≤ 5000 then 0 else 3) else 1
def glN (p n : Int) (f : Nat → Int) : Nat := if coB p n f = true ∧ p ^ n.toNat ≤ 5000 then grpN p n.toNat f (p ^ n.toNat).toNat else 0
def glG (p n : Int) (f : Nat → Int) : Nat → Nat → Int := grpG p n.toNat f (p ^ n.toNat).toNat
theorem gl_bad {p n : Int} {f : Nat → Int} (h : coB p n f = false) : glCode p n f = 1 ∧ glN p n f = 0 := by unfold glCode glN; rw [h]; simp
theorem gl_big {p : Int} {n : Nat} {f : Nat → Int} (h : coB p n f = true) (h2 : ¬ p ^ n ≤ 5000) : glCode p n f = 3 ∧ glN p n f = 0 := by
  unfold glCode glN
  rw [h, Int.toNat_natCast, if_pos rfl, if_neg h2, if_neg (fun x => h2 x.2)]
  exact ⟨rfl, rfl⟩
theorem gl_ok {p : Int} {n K : Nat} {f : Nat → Int} (h : coB p n f = true) (h2 : p ^ n ≤ 5000) (hK : p ^ n = (K : Int)) : glCode p n f = 0 ∧ glN p n f = grpN p n f K ∧ glG p n f = grpG p n f K := by
  unfold glCode glN glG
  rw [h, Int.toNat_natCast, if_pos rfl, if_pos h2, if_pos ⟨rfl, h2⟩, hK, Int.toNat_natCast]
  exact ⟨rfl, rfl, rfl⟩
theorem gl_le (p n : Int) (f : Nat → Int) : glN p n f ≤ 5000 := by
  unfold glN
  split
  · rename_i h
    have := grpN_le p n.toNat f (p ^ n.toNat).toNat
    omega
  · omega
theorem cnt_small {p : Int} {n : Nat} (h : p ^ n ≤ 5000) : cntS p n = p ^ n := if_pos h
theorem cnt_large {p : Int} {n : Nat} (h : ¬ p ^ n ≤ 5000) : cntS p n = 5001 := if_neg h

set_option maxRecDepth 100000 in
set_option maxHeartbeats 1000000 in
theorem l02Groups_any (p : Int) (n K : Nat) (f : Nat → Int) (w : World) (hp2 : 2 ≤ p) (hp31 : p ≤ 31) (hn : n ≤ 8) (hF : Bytes 520 f) (hs : shapeB p n f = true) (hK : p ^ n = (K : Int)) (hK5 : K ≤ 5000) :
    Calls Try.prog 99 #[.agg (alg p n f)] w fun e w' => ∃ a c, e = .returned (.slice a (grpN p n f K) c) ∧ Below w.heap.size w w' ∧ VL w' w.heap.size w'.heap.size a (grpN p n f K) c (grpG p n f K) := by
  have HF := Lib.hid hF; clear hF
  have Hs := Lib.hid hs; clear hs
  have HK := Lib.hid hK; clear hK
  have hp : 0 < p := by omega
  have hp' : p ≤ 255 := by omega
  have HC := Lib.hid (cnt_small (p := p) (n := n) (by rw [HK.out]; omega))
  have hk1 : cntS p n = (K : Int) := HC.out.trans HK.out
  go_enter Try.func99, Try.ntmps99
  go_wp2_with fail
  refine atomC fun W1 e1 => ?_
  have hb1 : Below w.heap.size w W1 := by rw [e1]; (repeat (first | exact Below.refl _ _ | refine Below.alloc ?_ (by first | omega | (simp; try omega)) _ | refine below_setRow ?_ (by omega) _ | refine Below.drew ?_))
  have q1 := hb1.size
  have R1 : IsRow W1 (w.heap.size) ∧ IsRow W1 (w.heap.size + 1) := by rw [e1]; simp [go_sem]
  obtain ⟨r1_1, r9_1⟩ := R1
  have C1 := (⟨congrArg (blk · (w.heap.size)) e1, congrArg (blk · (w.heap.size + 1)) e1⟩ : _ ∧ _); simp [go_sem] at C1
  obtain ⟨c1_1, c9_1⟩ := C1
  have z1_1 := isRow_lt r1_1; have z9_1 := isRow_lt r9_1
  have hv3_1 := VL.empty (U := W1.heap.size) (Nat.le_refl _) z9_1 r9_1 c9_1 fun _ _ => 0
  have sz3_1 := z9_1
  clear e1
  refine (l02Count_any _ _ _ hp2 hp31 hn).mono ?_; rintro _ W2 ⟨rfl, hw2⟩
  obtain ⟨r1_2, c1_2⟩ := keepB hw2 z1_1 r1_1 c1_1
  have z1_2 := isRow_lt r1_2
  have hb2 := hb1.trans (hw2.mono hb1.size)
  have q2 := hb2.size
  have sz2 := hw2.size
  have hv3_2 := hv3_1.below hw2 (by omega)
  clear hw2 hv3_1 r1_1 c1_1 z1_1 hb1
  go_wp2
  go_loopw [3, 5] (fun s3 s5 wr => ∃ x : Nat, ∃ a3_3 : Option Addr, ∃ c3_3 : Nat, ∃ U3_3 : Nat, x ≤ K ∧ s3 = .slice a3_3 (grpN p n f x) c3_3 ∧ s5 = .int .i64 x ∧ Below w.heap.size w wr ∧ (IsRow wr (w.heap.size) ∧ blk wr (w.heap.size) = blk W2 (w.heap.size)) ∧ VL wr (w.heap.size + 1) (U3_3) (a3_3) (grpN p n f x) (c3_3) (grpG p n f x) ∧ ((w.heap.size + 1) ≤ (U3_3) ∧ (U3_3) ≤ wr.heap.size)) (fun _ s5 _ => K - (intOf s5).toNat)
  case atStart => exact ⟨0, some ⟨w.heap.size + 1, 0, none⟩, 0, W1.heap.size, by omega, (by first | rfl | (simp; done) | go_num), rfl, hb2, ⟨r1_2, rfl⟩, (by exact hv3_2.same rfl (fun i hi => by omega)), (by omega)⟩
  case round =>
    obtain ⟨x, a3_3, c3_3, U3_3, hle3, rfl, rfl, hb3, ⟨r1_3, c1_3⟩, hv3_3, hU3_3⟩ := hrel
    obtain ⟨W3, rfl⟩ : ∃ W3 : World, W3 = wr := ⟨_, rfl⟩
    have q3 := hb3.size
    have E1_3 := Lib.hid c1_2; replace c1_3 := c1_3.trans c1_2
    have z1_3 := isRow_lt r1_3
    clear r1_2 c1_2 z1_2 hb2 hv3_2
    by_cases hlt3 : x < K
    · skip
      have hdb : Hid (Bytes 8 (dgF p n x n)) := Lib.hid (dg_bytes hp hp' n x n)
      have hgl := grpN_le p n f x
      go_wp2
      have nw1_W3_0 : (w.heap.size) ≠ W3.heap.size := by omega
      refine atomW fun W4 e4 => ?_
      have hb4 : Below w.heap.size w W4 := by rw [e4]; (repeat (first | exact hb3 | exact Below.refl _ _ | refine Below.alloc ?_ (by first | omega | (simp; try omega)) _ | refine below_setRow ?_ (by omega) _ | refine Below.drew ?_))
      have q4 := hb4.size
      have R4 : IsRow W4 (w.heap.size) ∧ IsRow W4 (W3.heap.size) := by rw [e4]; simp [go_sem, r1_3, c1_3, nw1_W3_0]
      obtain ⟨r1_4, r6_4⟩ := R4
      have C4 := (⟨congrArg (blk · (w.heap.size)) e4, congrArg (blk · (W3.heap.size)) e4⟩ : _ ∧ _); simp [go_sem, r1_3, c1_3, nw1_W3_0] at C4
      obtain ⟨c1_4, c6_4⟩ := C4
      have z1_4 := isRow_lt r1_4; have z6_4 := isRow_lt r6_4
      have n1_6 : (w.heap.size) ≠ (W3.heap.size) := by omega
      have n6_1 : (W3.heap.size) ≠ (w.heap.size) := by omega
      have hv3_4 : VL W4 (w.heap.size + 1) (U3_3) (a3_3) (grpN p n f x) (c3_3) (grpG p n f x) := by rw [e4]; (repeat (first | exact hv3_3 | refine VL.alloc ?_ _ | refine VL.drew ?_ | refine VL.setRow ?_ (by omega) _))
      clear e4 nw1_W3_0 r1_3 c1_3 z1_3 hv3_3 hb3
      go_loopw [7, 8] (fun s7 s8 wr => ∃ j : Nat, j ≤ n ∧ s7 = .int .i64 (restI p x j) ∧ s8 = .int .i64 ((n : Int) - 1 - j) ∧ Below w.heap.size w wr ∧ (IsRow wr (w.heap.size) ∧ blk wr (w.heap.size) = blk W4 (w.heap.size)) ∧ (IsRow wr (W3.heap.size) ∧ blk wr (W3.heap.size) = row 8 (dgF p n x j)) ∧ VL wr (w.heap.size + 1) (U3_3) (a3_3) (grpN p n f x) (c3_3) (grpG p n f x) ∧ ((w.heap.size + 1) ≤ (U3_3) ∧ (U3_3) ≤ wr.heap.size)) (fun _ s8 _ => (intOf s8 + 1).toNat)
      case atStart => exact ⟨0, by omega, (by rw [← rest_zero]), (by first | rfl | (simp; done) | go_num), hb4, ⟨r1_4, rfl⟩, ⟨r6_4, c6_4.trans (dg_zero p n x)⟩, hv3_4, (by omega)⟩
      case round =>
        obtain ⟨j, hle5, rfl, rfl, hb5, ⟨r1_5, c1_5⟩, ⟨r6_5, c6_5⟩, hv3_5, hU3_5⟩ := hrel
        obtain ⟨W5, rfl⟩ : ∃ W5 : World, W5 = wr := ⟨_, rfl⟩
        have q5 := hb5.size
        have E1_5 := Lib.hid c1_4; replace c1_5 := c1_5.trans c1_4
        have z1_5 := isRow_lt r1_5
        have z6_5 := isRow_lt r6_5
        clear r1_4 c1_4 z1_4 r6_4 c6_4 z6_4 hb4 hv3_4
        by_cases hlt5 : j < n
        · skip
          have i0_5 : (0 : Int) ≤ (j : Int) := by omega
          have i8_5 : (j : Int) < 8 := by omega
          have k8_5 : j < 8 := by omega
          have m8_5 : j * 8 + 8 ≤ 64 := by omega
          have m64_5 : j * 64 + 64 ≤ 512 := by omega
          have l1_5 : 10 + j * 64 + 64 ≤ 522 := by omega
          have b1 := (rest_range hp x j).1
          have b2 := (rest_range hp x j).2
          have t1 : (restI p x j).tmod p = restI p x j % p := Int.tmod_eq_emod_of_nonneg b1
          have t2 : (restI p x j).tdiv p = restI p x (j + 1) := (Int.tdiv_eq_ediv_of_nonneg b1).trans (rest_step hp x j)
          have b3 := Int.emod_nonneg (restI p x j) (show p ≠ 0 by omega)
          have b4 := Int.emod_lt_of_pos (restI p x j) hp
          have HD := Lib.hid (dg_step p n x j (by omega) _ rfl)
          have n1 : ((n : Int) - 1 - j).toNat = n - 1 - j := by omega
          have n2 : (0 : Int) ≤ (n : Int) - 1 - j := by omega
          have n3 : (n : Int) - 1 - j < 8 := by omega
          have n4 : n - 1 - j < 8 := by omega
          have p0 : ¬ p = 0 := by omega
          have b5 := (rest_range hp x (j + 1)).1
          have b6 := (rest_range hp x (j + 1)).2
          have w2 : IntKind.i64.wrap (restI p x (j + 1)) = restI p x (j + 1) := IntWalk.i64_in _ (by omega)
          have w1 : IntKind.u8.wrap (restI p x j % p) = restI p x j % p := IntWalk.u8_in _ (by omega)
          go_wp2
          go_roundw
          case rel => exact ⟨j + 1, by omega, (by first | rfl | go_num | (simp; done)), (by first | rfl | go_num | (simp; done)), (by (repeat (first | exact hb5 | exact Below.refl _ _ | refine Below.alloc ?_ (by first | omega | (simp; try omega)) _ | refine below_setRow ?_ (by omega) _ | refine Below.drew ?_))), ⟨by simp [go_sem, r1_5, c1_5, n1_6, r6_5, c6_5, n6_1], (by rw [E1_5.out]; first | exact c1_5 | (simp [go_sem, r1_5, c1_5, n1_6, r6_5, c6_5, n6_1]; done))⟩, ⟨by simp [go_sem, r1_5, c1_5, n1_6, r6_5, c6_5, n6_1], (by first | (rw [blk_setRow _ _ _ _ r6_5, if_pos rfl]; exact HD.out) | exact (c6_5).trans (HD.out) | (simp [go_sem, r1_5, c1_5, n1_6, r6_5, c6_5, n6_1]; exact HD.out))⟩, (by (repeat (first | exact hv3_5 | refine VL.alloc ?_ _ | refine VL.drew ?_ | refine VL.setRow ?_ (by omega) _))), (by first | omega | (constructor <;> first | omega | (simp; omega)))⟩
          case measure => simp [intOf]; try omega
        · skip
          obtain rfl : n = j := by omega
          by_cases hd : dotF 8 (dgF p n x n) f % p = 1
          · skip
            cases hg : grpB p f (dgF p n x n)
            · skip
              have hd1 : (dotF 8 (dgF p n x n) f % p == 1) = true := by simpa using hd
              go_wp2_with fail
              refine (l02Counit_any _ _ _ _ _ hp hp' HF.out hdb.out).mono ?_; rintro _ W6 ⟨rfl, hw6⟩
              obtain ⟨r1_6, c1_6⟩ := keepB hw6 z1_5 r1_5 c1_5
              have z1_6 := isRow_lt r1_6
              obtain ⟨r6_6, c6_6⟩ := keepB hw6 z6_5 r6_5 c6_5
              have z6_6 := isRow_lt r6_6
              have hb6 := hb5.trans (hw6.mono hb5.size)
              have q6 := hb6.size
              have sz6 := hw6.size
              have hv3_6 := hv3_5.below hw6 (by omega)
              clear hw6 hv3_5 r1_5 c1_5 z1_5 r6_5 c6_5 z6_5 hb5
              go_wp2_with fail
              refine (l02Group_any _ _ _ _ _ hp hp' hn HF.out hdb.out Hs.out).mono ?_; rintro _ W7 ⟨rfl, hw7⟩
              obtain ⟨r1_7, c1_7⟩ := keepB hw7 z1_6 r1_6 c1_6
              have z1_7 := isRow_lt r1_7
              obtain ⟨r6_7, c6_7⟩ := keepB hw7 z6_6 r6_6 c6_6
              have z6_7 := isRow_lt r6_7
              have hb7 := hb6.trans (hw7.mono hb6.size)
              have q7 := hb7.size
              have sz7 := hw7.size
              have hv3_7 := hv3_6.below hw7 (by omega)
              clear hw7 hv3_6 r1_6 c1_6 z1_6 r6_6 c6_6 z6_6 hb6
              go_wp2
              go_roundw
              case rel => exact ⟨x + 1, (a3_3), (c3_3), (U3_3), by omega, (by rw [grpN_no hg]), by go_num, (by (repeat (first | exact hb7 | exact Below.refl _ _ | refine Below.alloc ?_ (by first | omega | (simp; try omega)) _ | refine below_setRow ?_ (by omega) _ | refine Below.drew ?_))), ⟨by simp [go_sem, r1_7, c1_7, n1_6, r6_7, c6_7, n6_1], (by rw [E1_3.out]; first | exact c1_7 | (simp [go_sem, r1_7, c1_7, n1_6, r6_7, c6_7, n6_1]; done))⟩, hv3_7.same (grpN_no hg).symm (fun i _ t _ => by rw [grpG_no hg]), (by first | omega | (constructor <;> first | omega | (simp; omega)))⟩
              case measure => simp [intOf]; try omega
            · skip
              have hd1 : (dotF 8 (dgF p n x n) f % p == 1) = true := by simpa using hd
              go_wp2_with fail
              refine (l02Counit_any _ _ _ _ _ hp hp' HF.out hdb.out).mono ?_; rintro _ W8 ⟨rfl, hw8⟩
              obtain ⟨r1_8, c1_8⟩ := keepB hw8 z1_5 r1_5 c1_5
              have z1_8 := isRow_lt r1_8
              obtain ⟨r6_8, c6_8⟩ := keepB hw8 z6_5 r6_5 c6_5
              have z6_8 := isRow_lt r6_8
              have hb8 := hb5.trans (hw8.mono hb5.size)
              have q8 := hb8.size
              have sz8 := hw8.size
              have hv3_8 := hv3_5.below hw8 (by omega)
              clear hw8 hv3_5 r1_5 c1_5 z1_5 r6_5 c6_5 z6_5 hb5
              go_wp2_with fail
              refine (l02Group_any _ _ _ _ _ hp hp' hn HF.out hdb.out Hs.out).mono ?_; rintro _ W9 ⟨rfl, hw9⟩
              obtain ⟨r1_9, c1_9⟩ := keepB hw9 z1_8 r1_8 c1_8
              have z1_9 := isRow_lt r1_9
              obtain ⟨r6_9, c6_9⟩ := keepB hw9 z6_8 r6_8 c6_8
              have z6_9 := isRow_lt r6_9
              have hb9 := hb8.trans (hw9.mono hb8.size)
              have q9 := hb9.size
              have sz9 := hw9.size
              have hv3_9 := hv3_8.below hw9 (by omega)
              clear hw9 hv3_8 r1_8 c1_8 z1_8 r6_8 c6_8 z6_8 hb8
              go_wp2_with (at_builtin; refine atomL ?_)
              have nw1_W9_0 : (w.heap.size) ≠ W9.heap.size := by omega
              intro W10 e10
              have hb10 : Below w.heap.size w W10 := by rw [e10]; (repeat (first | exact hb9 | exact Below.refl _ _ | refine Below.alloc ?_ (by first | omega | (simp; try omega)) _ | refine below_setRow ?_ (by omega) _ | refine Below.drew ?_))
              have q10 := hb10.size
              have R10 : IsRow W10 (w.heap.size) ∧ IsRow W10 (W9.heap.size) := by rw [e10]; simp [go_sem, r1_9, c1_9, n1_6, nw1_W9_0, r6_9]
              obtain ⟨r1_10, r51_10⟩ := R10
              have C10 := (⟨congrArg (blk · (w.heap.size)) e10, congrArg (blk · (W9.heap.size)) e10⟩ : _ ∧ _); simp [go_sem, r1_9, c1_9, n1_6, nw1_W9_0, r6_9] at C10
              obtain ⟨c1_10, c51_10⟩ := C10
              have z1_10 := isRow_lt r1_10; have z51_10 := isRow_lt r51_10
              have n1_51 : (w.heap.size) ≠ (W9.heap.size) := by omega
              have n51_1 : (W9.heap.size) ≠ (w.heap.size) := by omega
              have hv3_10 : VL W10 (w.heap.size + 1) (U3_3) (a3_3) (grpN p n f x) (c3_3) (grpG p n f x) := by rw [e10]; (repeat (first | exact hv3_9 | refine VL.alloc ?_ _ | refine VL.drew ?_ | refine VL.setRow ?_ (by omega) _))
              clear e10 nw1_W9_0 r1_9 c1_9 z1_9 hv3_9 hb9
              refine appendV _ rfl _ _ rfl hv3_10 (by omega) (by omega) rfl _ _ (dgF p n x n) rfl c51_10 hdb.out ?_
              intro a3_11 c3_11 W11 hg11 ha11 hv3_11
              obtain ⟨r1_11, c1_11⟩ := keepG hg11 (hv3_10.ne (by omega)) r1_10 c1_10
              have z1_11 := isRow_lt r1_11
              have hb11 := below_own hb10 hv3_10 hg11 (by omega) (by omega)
              have q11 := hb11.size
              have sz11 := hg11.size
              clear hg11 ha11 r1_10 c1_10 z1_10 hv3_10 hb10
              go_wp2
              go_roundw
              case rel => exact ⟨x + 1, (a3_11), (c3_11), (W11.heap.size), by omega, (by rw [grpN_yes hg]), by go_num, (by (repeat (first | exact hb11 | exact Below.refl _ _ | refine Below.alloc ?_ (by first | omega | (simp; try omega)) _ | refine below_setRow ?_ (by omega) _ | refine Below.drew ?_))), ⟨by simp [go_sem, r1_11, c1_11], (by rw [E1_3.out]; first | exact c1_11 | (simp [go_sem, r1_11, c1_11]; done))⟩, hv3_11.same (grpN_yes hg).symm (fun i _ t _ => by rw [grpG_yes hg]), (by first | omega | (constructor <;> first | omega | (simp; omega)))⟩
              case measure => simp [intOf]; try omega
          · skip
            have hd1 : (dotF 8 (dgF p n x n) f % p == 1) = false := by simpa using hd
            have hd2 : decide (dotF 8 (dgF p n x n) f % p = 1) = false := by simpa using hd
            have hg := Lib.hid (grp_no (p := p) (f := f) (v := dgF p n x n) (by rw [← dot_comm]; exact hd)); clear hd
            go_wp2_with fail
            refine (l02Counit_any _ _ _ _ _ hp hp' HF.out hdb.out).mono ?_; rintro _ W12 ⟨rfl, hw12⟩
            obtain ⟨r1_12, c1_12⟩ := keepB hw12 z1_5 r1_5 c1_5
            have z1_12 := isRow_lt r1_12
            obtain ⟨r6_12, c6_12⟩ := keepB hw12 z6_5 r6_5 c6_5
            have z6_12 := isRow_lt r6_12
            have hb12 := hb5.trans (hw12.mono hb5.size)
            have q12 := hb12.size
            have sz12 := hw12.size
            have hv3_12 := hv3_5.below hw12 (by omega)
            clear hw12 hv3_5 r1_5 c1_5 z1_5 r6_5 c6_5 z6_5 hb5
            go_wp2
            go_roundw
            case rel => exact ⟨x + 1, (a3_3), (c3_3), (U3_3), by omega, (by rw [grpN_no hg.out]), by go_num, (by (repeat (first | exact hb12 | exact Below.refl _ _ | refine Below.alloc ?_ (by first | omega | (simp; try omega)) _ | refine below_setRow ?_ (by omega) _ | refine Below.drew ?_))), ⟨by simp [go_sem, r1_12, c1_12, n1_6, r6_12, c6_12, n6_1], (by rw [E1_3.out]; first | exact c1_12 | (simp [go_sem, r1_12, c1_12, n1_6, r6_12, c6_12, n6_1]; done))⟩, hv3_12.same (grpN_no hg.out).symm (fun i _ t _ => by rw [grpG_no hg.out]), (by first | omega | (constructor <;> first | omega | (simp; omega)))⟩
            case measure => simp [intOf]; try omega
    · skip
      obtain rfl : K = x := by omega
      go_wp2_with fail
      go_ret
      exact ⟨a3_3, c3_3, rfl, (by (repeat (first | exact hb3 | exact Below.refl _ _ | refine Below.alloc ?_ (by first | omega | (simp; try omega)) _ | refine below_setRow ?_ (by omega) _ | refine Below.drew ?_))), (hv3_3).wider (by omega) (by omega)⟩

set_option maxRecDepth 100000 in
set_option maxHeartbeats 1000000 in
theorem specGroupLikes_any (p n : Int) (f : Nat → Int) (w : World) (hF : Bytes 520 f) :
    Calls Try.prog 48 #[.agg (alg p n f)] w fun e w' => ∃ a c, e = .returned (.tuple #[.slice a (glN p n f) c, .int .i64 (glCode p n f)]) ∧ Below w.heap.size w w' ∧ VL w' w.heap.size w'.heap.size a (glN p n f) c (glG p n f) := by
  have HF := Lib.hid hF; clear hF
  cases hc : coB p n f
  · skip
    have HR := Lib.hid (gl_bad hc)
    go_enter Try.func48, Try.ntmps48
    go_wp2_with fail
    refine atomC fun W1 e1 => ?_
    have hb1 : Below w.heap.size w W1 := by rw [e1]; (repeat (first | exact Below.refl _ _ | refine Below.alloc ?_ (by first | omega | (simp; try omega)) _ | refine below_setRow ?_ (by omega) _ | refine Below.drew ?_))
    have q1 := hb1.size
    have r1_1 : IsRow W1 (w.heap.size) := by rw [e1]; simp [go_sem]
    have c1_1 := congrArg (fun x => blk x (w.heap.size)) e1; simp [go_sem] at c1_1
    have z1_1 := isRow_lt r1_1
    clear e1
    refine (l02Is_any _ _ _ _ HF.out).mono ?_; rintro _ W2 ⟨rfl, hw2⟩
    obtain ⟨r1_2, c1_2⟩ := keepB hw2 z1_1 r1_1 c1_1
    have z1_2 := isRow_lt r1_2
    have hb2 := hb1.trans (hw2.mono hb1.size)
    have q2 := hb2.size
    clear hw2 r1_1 c1_1 z1_1 hb1
    go_wp2_with fail
    go_ret2
    exact ⟨none, 0, by rw [HR.out.1, HR.out.2]; rfl, (by (repeat (first | exact hb2 | exact Below.refl _ _ | refine Below.alloc ?_ (by first | omega | (simp; try omega)) _ | refine below_setRow ?_ (by omega) _ | refine Below.drew ?_))), VL.nilOf (HR.out.2)⟩
  · skip
    by_cases hs : p ^ n.toNat ≤ 5000
    · skip
      obtain ⟨hp2, hp31, hn1, hn8⟩ := sizes_range (co_sizes hc)
      obtain ⟨n, rfl⟩ := Int.eq_ofNat_of_zero_le (show 0 ≤ n by omega)
      have hn : n ≤ 8 := by omega
      have hp : 0 < p := by omega
      have hp' : p ≤ 255 := by omega
      rw [Int.toNat_natCast] at hs
      have hK0 := (pow_range hp2 hp31 n hn).1
      obtain ⟨K, hK⟩ : ∃ K : Nat, p ^ n = (K : Int) := ⟨(p ^ n).toNat, by omega⟩
      have HR := Lib.hid (gl_ok hc hs hK)
      have HC := Lib.hid (cnt_small hs)
      have hK5 : K ≤ 5000 := by omega
      have HK := Lib.hid hK
      have hk : cntS p n = (K : Int) := HC.out.trans hK
      have HS := Lib.hid (co_shape hc)
      clear hK hs
      go_enter Try.func48, Try.ntmps48
      go_wp2_with fail
      refine atomC fun W3 e3 => ?_
      have hb3 : Below w.heap.size w W3 := by rw [e3]; (repeat (first | exact Below.refl _ _ | refine Below.alloc ?_ (by first | omega | (simp; try omega)) _ | refine below_setRow ?_ (by omega) _ | refine Below.drew ?_))
      have q3 := hb3.size
      have r1_3 : IsRow W3 (w.heap.size) := by rw [e3]; simp [go_sem]
      have c1_3 := congrArg (fun x => blk x (w.heap.size)) e3; simp [go_sem] at c1_3
      have z1_3 := isRow_lt r1_3
      clear e3
      refine (l02Is_any _ _ _ _ HF.out).mono ?_; rintro _ W4 ⟨rfl, hw4⟩
      obtain ⟨r1_4, c1_4⟩ := keepB hw4 z1_3 r1_3 c1_3
      have z1_4 := isRow_lt r1_4
      have hb4 := hb3.trans (hw4.mono hb3.size)
      have q4 := hb4.size
      clear hw4 r1_3 c1_3 z1_3 hb3
      go_wp2_with fail
      refine (l02Count_any _ _ _ hp2 hp31 hn).mono ?_; rintro _ W5 ⟨rfl, hw5⟩
      obtain ⟨r1_5, c1_5⟩ := keepB hw5 z1_4 r1_4 c1_4
      have z1_5 := isRow_lt r1_5
      have hb5 := hb4.trans (hw5.mono hb4.size)
      have q5 := hb5.size
      clear hw5 r1_4 c1_4 z1_4 hb4
      go_wp2_with fail
      refine (l02Groups_any _ _ _ _ _ hp2 hp31 hn HF.out HS.out HK.out hK5).mono ?_; rintro _ W6 ⟨a16_6, c16_6, rfl, hw6, hv16_6⟩
      have sz6 := hw6.size
      have hb6 := hb5.trans (hw6.mono hb5.size)
      have q6 := hb6.size
      clear hw6 hb5
      go_wp2_with fail
      go_ret2
      exact ⟨a16_6, c16_6, by rw [HR.out.1, HR.out.2.1]; rfl, (by (repeat (first | exact hb6 | exact Below.refl _ _ | refine Below.alloc ?_ (by first | omega | (simp; try omega)) _ | refine below_setRow ?_ (by omega) _ | refine Below.drew ?_))), ((show VL _ _ _ _ (glN p n f) _ (glG p n f) from by rw [HR.out.2.1, HR.out.2.2]; exact hv16_6)).wider (by omega) (by omega)⟩
    · skip
      obtain ⟨hp2, hp31, hn1, hn8⟩ := sizes_range (co_sizes hc)
      obtain ⟨n, rfl⟩ := Int.eq_ofNat_of_zero_le (show 0 ≤ n by omega)
      have hn : n ≤ 8 := by omega
      have hp : 0 < p := by omega
      have hp' : p ≤ 255 := by omega
      rw [Int.toNat_natCast] at hs
      have HR := Lib.hid (gl_big hc hs)
      have HC := Lib.hid (cnt_large hs)
      have k1 : 5000 < p ^ n := by omega
      have hk := HC.out; clear hs
      go_enter Try.func48, Try.ntmps48
      go_wp2_with fail
      refine atomC fun W7 e7 => ?_
      have hb7 : Below w.heap.size w W7 := by rw [e7]; (repeat (first | exact Below.refl _ _ | refine Below.alloc ?_ (by first | omega | (simp; try omega)) _ | refine below_setRow ?_ (by omega) _ | refine Below.drew ?_))
      have q7 := hb7.size
      have r1_7 : IsRow W7 (w.heap.size) := by rw [e7]; simp [go_sem]
      have c1_7 := congrArg (fun x => blk x (w.heap.size)) e7; simp [go_sem] at c1_7
      have z1_7 := isRow_lt r1_7
      clear e7
      refine (l02Is_any _ _ _ _ HF.out).mono ?_; rintro _ W8 ⟨rfl, hw8⟩
      obtain ⟨r1_8, c1_8⟩ := keepB hw8 z1_7 r1_7 c1_7
      have z1_8 := isRow_lt r1_8
      have hb8 := hb7.trans (hw8.mono hb7.size)
      have q8 := hb8.size
      clear hw8 r1_7 c1_7 z1_7 hb7
      go_wp2_with fail
      refine (l02Count_any _ _ _ hp2 hp31 hn).mono ?_; rintro _ W9 ⟨rfl, hw9⟩
      obtain ⟨r1_9, c1_9⟩ := keepB hw9 z1_8 r1_8 c1_8
      have z1_9 := isRow_lt r1_9
      have hb9 := hb8.trans (hw9.mono hb8.size)
      have q9 := hb9.size
      clear hw9 r1_8 c1_8 z1_8 hb8
      go_wp2_with fail
      go_ret2
      exact ⟨none, 0, by rw [HR.out.1, HR.out.2]; rfl, (by (repeat (first | exact hb9 | exact Below.refl _ _ | refine Below.alloc ?_ (by first | omega | (simp; try omega)) _ | refine below_setRow ?_ (by omega) _ | refine Below.drew ?_))), VL.nilOf (HR.out.2)⟩

set_option maxRecDepth 100000 in
set_option maxHeartbeats 1000000 in
theorem groupLikes_any (p n : Int) (f : Nat → Int) (w : World) (hF : Bytes 520 f) :
    Calls Try.prog 49 #[.agg (alg p n f)] w fun e w' => ∃ a c, e = .returned (.tuple #[.slice a (glN p n f) c, .int .i64 (glCode p n f)]) ∧ Below w.heap.size w w' ∧ VL w' w.heap.size w'.heap.size a (glN p n f) c (glG p n f) := by
  have HF := Lib.hid hF; clear hF
  cases hc : coB p n f
  · skip
    have HR := Lib.hid (gl_bad hc)
    go_enter Try.func49, Try.ntmps49
    go_wp2_with fail
    refine atomC fun W1 e1 => ?_
    have hb1 : Below w.heap.size w W1 := by rw [e1]; (repeat (first | exact Below.refl _ _ | refine Below.alloc ?_ (by first | omega | (simp; try omega)) _ | refine below_setRow ?_ (by omega) _ | refine Below.drew ?_))
    have q1 := hb1.size
    have r1_1 : IsRow W1 (w.heap.size) := by rw [e1]; simp [go_sem]
    have c1_1 := congrArg (fun x => blk x (w.heap.size)) e1; simp [go_sem] at c1_1
    have z1_1 := isRow_lt r1_1
    clear e1
    refine (isCo_any _ _ _ _ HF.out).mono ?_; rintro _ W2 ⟨rfl, hw2⟩
    obtain ⟨r1_2, c1_2⟩ := keepB hw2 z1_1 r1_1 c1_1
    have z1_2 := isRow_lt r1_2
    have hb2 := hb1.trans (hw2.mono hb1.size)
    have q2 := hb2.size
    clear hw2 r1_1 c1_1 z1_1 hb1
    go_wp2_with fail
    go_ret2
    exact ⟨none, 0, by rw [HR.out.1, HR.out.2]; rfl, (by (repeat (first | exact hb2 | exact Below.refl _ _ | refine Below.alloc ?_ (by first | omega | (simp; try omega)) _ | refine below_setRow ?_ (by omega) _ | refine Below.drew ?_))), VL.nilOf (HR.out.2)⟩
  · skip
    by_cases hs : p ^ n.toNat ≤ 5000
    · skip
      obtain ⟨hp2, hp31, hn1, hn8⟩ := sizes_range (co_sizes hc)
      obtain ⟨n, rfl⟩ := Int.eq_ofNat_of_zero_le (show 0 ≤ n by omega)
      have hn : n ≤ 8 := by omega
      have hp : 0 < p := by omega
      have hp' : p ≤ 255 := by omega
      rw [Int.toNat_natCast] at hs
      have hK0 := (pow_range hp2 hp31 n hn).1
      obtain ⟨K, hK⟩ : ∃ K : Nat, p ^ n = (K : Int) := ⟨(p ^ n).toNat, by omega⟩
      have HR := Lib.hid (gl_ok hc hs hK)
      have HC := Lib.hid (cnt_small hs)
      have hK5 : K ≤ 5000 := by omega
      have HK := Lib.hid hK
      clear hs
      go_enter Try.func49, Try.ntmps49
      go_wp2_with fail
      refine atomC fun W3 e3 => ?_
      have hb3 : Below w.heap.size w W3 := by rw [e3]; (repeat (first | exact Below.refl _ _ | refine Below.alloc ?_ (by first | omega | (simp; try omega)) _ | refine below_setRow ?_ (by omega) _ | refine Below.drew ?_))
      have q3 := hb3.size
      have r1_3 : IsRow W3 (w.heap.size) := by rw [e3]; simp [go_sem]
      have c1_3 := congrArg (fun x => blk x (w.heap.size)) e3; simp [go_sem] at c1_3
      have z1_3 := isRow_lt r1_3
      clear e3
      refine (isCo_any _ _ _ _ HF.out).mono ?_; rintro _ W4 ⟨rfl, hw4⟩
      obtain ⟨r1_4, c1_4⟩ := keepB hw4 z1_3 r1_3 c1_3
      have z1_4 := isRow_lt r1_4
      have hb4 := hb3.trans (hw4.mono hb3.size)
      have q4 := hb4.size
      clear hw4 r1_3 c1_3 z1_3 hb3
      go_wp2_with fail
      refine (countVectors_any _ _ _ hp2 hp31 hn).mono ?_; rintro _ W5 ⟨rfl, hw5⟩
      obtain ⟨r1_5, c1_5⟩ := keepB hw5 z1_4 r1_4 c1_4
      have z1_5 := isRow_lt r1_5
      have hb5 := hb4.trans (hw5.mono hb4.size)
      have q5 := hb5.size
      clear hw5 r1_4 c1_4 z1_4 hb4
      go_wp2
      have lt51n6 : (w.heap.size) < W5.heap.size := z1_5
      go_loopw [5, 19] (fun s5 s19 wr => ∃ x : Nat, ∃ a5_6 : Option Addr, ∃ c5_6 : Nat, ∃ U5_6 : Nat, x ≤ K ∧ s5 = .slice a5_6 (grpN p n f x) c5_6 ∧ s19 = .int .i64 x ∧ Below w.heap.size w wr ∧ (IsRow wr (w.heap.size) ∧ blk wr (w.heap.size) = blk W5 (w.heap.size)) ∧ VL wr (W5.heap.size) (U5_6) (a5_6) (grpN p n f x) (c5_6) (grpG p n f x) ∧ ((W5.heap.size) ≤ (U5_6) ∧ (U5_6) ≤ wr.heap.size)) (fun _ s19 _ => K - (intOf s19).toNat)
      case atStart => exact ⟨0, none, 0, W5.heap.size, by omega, (by first | rfl | (simp; done) | go_num), rfl, hb5, ⟨r1_5, rfl⟩, VL.nil _ _ _ _, (by omega)⟩
      case round =>
        obtain ⟨x, a5_6, c5_6, U5_6, hle6, rfl, rfl, hb6, ⟨r1_6, c1_6⟩, hv5_6, hU5_6⟩ := hrel
        obtain ⟨W6, rfl⟩ : ∃ W6 : World, W6 = wr := ⟨_, rfl⟩
        have q6 := hb6.size
        have E1_6 := Lib.hid c1_5; replace c1_6 := c1_6.trans c1_5
        have z1_6 := isRow_lt r1_6
        clear r1_5 c1_5 z1_5 hb5
        by_cases hlt6 : x < K
        · skip
          cases hg : grpB p f (dgF p n x n)
          · skip
            have hdb : Hid (Bytes 8 (dgF p n x n)) := Lib.hid (dg_bytes hp hp' n x n)
            have hgl := grpN_le p n f x
            go_wp2_with fail
            refine (vectorAt_any _ _ _ _ hp hp' hn (by omega)).mono ?_; rintro _ W7 ⟨rfl, hw7⟩
            obtain ⟨r1_7, c1_7⟩ := keepB hw7 z1_6 r1_6 c1_6
            have z1_7 := isRow_lt r1_7
            have hb7 := hb6.trans (hw7.mono hb6.size)
            have q7 := hb7.size
            have sz7 := hw7.size
            have hv5_7 := hv5_6.below hw7 (by omega)
            clear hw7 hv5_6 r1_6 c1_6 z1_6 hb6
            go_wp2_with fail
            have nw1_W7_0 : (w.heap.size) ≠ W7.heap.size := by omega
            refine atomC fun W8 e8 => ?_
            have hb8 : Below w.heap.size w W8 := by rw [e8]; (repeat (first | exact hb7 | exact Below.refl _ _ | refine Below.alloc ?_ (by first | omega | (simp; try omega)) _ | refine below_setRow ?_ (by omega) _ | refine Below.drew ?_))
            have q8 := hb8.size
            have R8 : IsRow W8 (w.heap.size) ∧ IsRow W8 (W7.heap.size) := by rw [e8]; simp [go_sem, r1_7, c1_7, nw1_W7_0]
            obtain ⟨r1_8, r7_8⟩ := R8
            have C8 := (⟨congrArg (blk · (w.heap.size)) e8, congrArg (blk · (W7.heap.size)) e8⟩ : _ ∧ _); simp [go_sem, r1_7, c1_7, nw1_W7_0] at C8
            obtain ⟨c1_8, c7_8⟩ := C8
            have z1_8 := isRow_lt r1_8; have z7_8 := isRow_lt r7_8
            have n1_7 : (w.heap.size) ≠ (W7.heap.size) := by omega
            have n7_1 : (W7.heap.size) ≠ (w.heap.size) := by omega
            have hv5_8 : VL W8 (W5.heap.size) (U5_6) (a5_6) (grpN p n f x) (c5_6) (grpG p n f x) := by rw [e8]; (repeat (first | exact hv5_7 | refine VL.alloc ?_ _ | refine VL.drew ?_ | refine VL.setRow ?_ (by omega) _))
            clear e8 nw1_W7_0 r1_7 c1_7 z1_7 hv5_7 hb7
            refine (isGrp_any _ _ _ _ _ hp hp' HF.out hdb.out).mono ?_; rintro _ W9 ⟨rfl, hw9⟩
            obtain ⟨r1_9, c1_9⟩ := keepB hw9 z1_8 r1_8 c1_8
            have z1_9 := isRow_lt r1_9
            obtain ⟨r7_9, c7_9⟩ := keepB hw9 z7_8 r7_8 c7_8
            have z7_9 := isRow_lt r7_9
            have hb9 := hb8.trans (hw9.mono hb8.size)
            have q9 := hb9.size
            have sz9 := hw9.size
            have hv5_9 := hv5_8.below hw9 (by omega)
            clear hw9 hv5_8 r1_8 c1_8 z1_8 r7_8 c7_8 z7_8 hb8
            go_wp2
            go_roundw
            case rel => exact ⟨x + 1, (a5_6), (c5_6), (U5_6), by omega, (by rw [grpN_no hg]), by go_num, (by (repeat (first | exact hb9 | exact Below.refl _ _ | refine Below.alloc ?_ (by first | omega | (simp; try omega)) _ | refine below_setRow ?_ (by omega) _ | refine Below.drew ?_))), ⟨by simp [go_sem, r1_9, c1_9, n1_7, r7_9, c7_9, n7_1], (by rw [E1_6.out]; first | exact c1_9 | (simp [go_sem, r1_9, c1_9, n1_7, r7_9, c7_9, n7_1]; done))⟩, hv5_9.same (grpN_no hg).symm (fun i _ t _ => by rw [grpG_no hg]), (by first | omega | (constructor <;> first | omega | (simp; omega)))⟩
            case measure => simp [intOf]; try omega
          · skip
            have hdb : Hid (Bytes 8 (dgF p n x n)) := Lib.hid (dg_bytes hp hp' n x n)
            have hgl := grpN_le p n f x
            go_wp2_with fail
            refine (vectorAt_any _ _ _ _ hp hp' hn (by omega)).mono ?_; rintro _ W10 ⟨rfl, hw10⟩
            obtain ⟨r1_10, c1_10⟩ := keepB hw10 z1_6 r1_6 c1_6
            have z1_10 := isRow_lt r1_10
            have hb10 := hb6.trans (hw10.mono hb6.size)
            have q10 := hb10.size
            have sz10 := hw10.size
            have hv5_10 := hv5_6.below hw10 (by omega)
            clear hw10 hv5_6 r1_6 c1_6 z1_6 hb6
            go_wp2_with fail
            have nw1_W10_0 : (w.heap.size) ≠ W10.heap.size := by omega
            refine atomC fun W11 e11 => ?_
            have hb11 : Below w.heap.size w W11 := by rw [e11]; (repeat (first | exact hb10 | exact Below.refl _ _ | refine Below.alloc ?_ (by first | omega | (simp; try omega)) _ | refine below_setRow ?_ (by omega) _ | refine Below.drew ?_))
            have q11 := hb11.size
            have R11 : IsRow W11 (w.heap.size) ∧ IsRow W11 (W10.heap.size) := by rw [e11]; simp [go_sem, r1_10, c1_10, nw1_W10_0]
            obtain ⟨r1_11, r7_11⟩ := R11
            have C11 := (⟨congrArg (blk · (w.heap.size)) e11, congrArg (blk · (W10.heap.size)) e11⟩ : _ ∧ _); simp [go_sem, r1_10, c1_10, nw1_W10_0] at C11
            obtain ⟨c1_11, c7_11⟩ := C11
            have z1_11 := isRow_lt r1_11; have z7_11 := isRow_lt r7_11
            have n1_7 : (w.heap.size) ≠ (W10.heap.size) := by omega
            have n7_1 : (W10.heap.size) ≠ (w.heap.size) := by omega
            have hv5_11 : VL W11 (W5.heap.size) (U5_6) (a5_6) (grpN p n f x) (c5_6) (grpG p n f x) := by rw [e11]; (repeat (first | exact hv5_10 | refine VL.alloc ?_ _ | refine VL.drew ?_ | refine VL.setRow ?_ (by omega) _))
            clear e11 nw1_W10_0 r1_10 c1_10 z1_10 hv5_10 hb10
            refine (isGrp_any _ _ _ _ _ hp hp' HF.out hdb.out).mono ?_; rintro _ W12 ⟨rfl, hw12⟩
            obtain ⟨r1_12, c1_12⟩ := keepB hw12 z1_11 r1_11 c1_11
            have z1_12 := isRow_lt r1_12
            obtain ⟨r7_12, c7_12⟩ := keepB hw12 z7_11 r7_11 c7_11
            have z7_12 := isRow_lt r7_12
            have hb12 := hb11.trans (hw12.mono hb11.size)
            have q12 := hb12.size
            have sz12 := hw12.size
            have hv5_12 := hv5_11.below hw12 (by omega)
            clear hw12 hv5_11 r1_11 c1_11 z1_11 r7_11 c7_11 z7_11 hb11
            go_wp2_with (at_builtin; refine atomL ?_)
            have nw1_W12_0 : (w.heap.size) ≠ W12.heap.size := by omega
            intro W13 e13
            have hb13 : Below w.heap.size w W13 := by rw [e13]; (repeat (first | exact hb12 | exact Below.refl _ _ | refine Below.alloc ?_ (by first | omega | (simp; try omega)) _ | refine below_setRow ?_ (by omega) _ | refine Below.drew ?_))
            have q13 := hb13.size
            have R13 : IsRow W13 (w.heap.size) ∧ IsRow W13 (W12.heap.size) := by rw [e13]; simp [go_sem, r1_12, c1_12, n1_7, nw1_W12_0, r7_12]
            obtain ⟨r1_13, r33_13⟩ := R13
            have C13 := (⟨congrArg (blk · (w.heap.size)) e13, congrArg (blk · (W12.heap.size)) e13⟩ : _ ∧ _); simp [go_sem, r1_12, c1_12, n1_7, nw1_W12_0, r7_12] at C13
            obtain ⟨c1_13, c33_13⟩ := C13
            have z1_13 := isRow_lt r1_13; have z33_13 := isRow_lt r33_13
            have n1_33 : (w.heap.size) ≠ (W12.heap.size) := by omega
            have n33_1 : (W12.heap.size) ≠ (w.heap.size) := by omega
            have hv5_13 : VL W13 (W5.heap.size) (U5_6) (a5_6) (grpN p n f x) (c5_6) (grpG p n f x) := by rw [e13]; (repeat (first | exact hv5_12 | refine VL.alloc ?_ _ | refine VL.drew ?_ | refine VL.setRow ?_ (by omega) _))
            clear e13 nw1_W12_0 r1_12 c1_12 z1_12 hv5_12 hb12
            refine appendV _ rfl _ _ rfl hv5_13 (by omega) (by omega) rfl _ _ (dgF p n x n) rfl c33_13 hdb.out ?_
            intro a5_14 c5_14 W14 hg14 ha14 hv5_14
            obtain ⟨r1_14, c1_14⟩ := keepG hg14 (hv5_13.ne (by omega)) r1_13 c1_13
            have z1_14 := isRow_lt r1_14
            have hb14 := below_own hb13 hv5_13 hg14 (by omega) (by omega)
            have q14 := hb14.size
            have sz14 := hg14.size
            clear hg14 ha14 r1_13 c1_13 z1_13 hv5_13 hb13
            go_wp2
            go_roundw
            case rel => exact ⟨x + 1, (a5_14), (c5_14), (W14.heap.size), by omega, (by rw [grpN_yes hg]), by go_num, (by (repeat (first | exact hb14 | exact Below.refl _ _ | refine Below.alloc ?_ (by first | omega | (simp; try omega)) _ | refine below_setRow ?_ (by omega) _ | refine Below.drew ?_))), ⟨by simp [go_sem, r1_14, c1_14], (by rw [E1_6.out]; first | exact c1_14 | (simp [go_sem, r1_14, c1_14]; done))⟩, hv5_14.same (grpN_yes hg).symm (fun i _ t _ => by rw [grpG_yes hg]), (by first | omega | (constructor <;> first | omega | (simp; omega)))⟩
            case measure => simp [intOf]; try omega
        · skip
          obtain rfl : K = x := by omega
          go_wp2_with fail
          go_ret2
          exact ⟨a5_6, c5_6, by rw [HR.out.1, HR.out.2.1]; rfl, (by (repeat (first | exact hb6 | exact Below.refl _ _ | refine Below.alloc ?_ (by first | omega | (simp; try omega)) _ | refine below_setRow ?_ (by omega) _ | refine Below.drew ?_))), ((show VL _ _ _ _ (glN p n f) _ (glG p n f) from by rw [HR.out.2.1, HR.out.2.2]; exact hv5_6)).wider (by omega) (by omega)⟩
    · skip
      obtain ⟨hp2, hp31, hn1, hn8⟩ := sizes_range (co_sizes hc)
      obtain ⟨n, rfl⟩ := Int.eq_ofNat_of_zero_le (show 0 ≤ n by omega)
      have hn : n ≤ 8 := by omega
      have hp : 0 < p := by omega
      have hp' : p ≤ 255 := by omega
      rw [Int.toNat_natCast] at hs
      have HR := Lib.hid (gl_big hc hs)
      have HC := Lib.hid (cnt_large hs)
      have k1 : 5000 < p ^ n := by omega
      clear hs
      go_enter Try.func49, Try.ntmps49
      go_wp2_with fail
      refine atomC fun W15 e15 => ?_
      have hb15 : Below w.heap.size w W15 := by rw [e15]; (repeat (first | exact Below.refl _ _ | refine Below.alloc ?_ (by first | omega | (simp; try omega)) _ | refine below_setRow ?_ (by omega) _ | refine Below.drew ?_))
      have q15 := hb15.size
      have r1_15 : IsRow W15 (w.heap.size) := by rw [e15]; simp [go_sem]
      have c1_15 := congrArg (fun x => blk x (w.heap.size)) e15; simp [go_sem] at c1_15
      have z1_15 := isRow_lt r1_15
      clear e15
      refine (isCo_any _ _ _ _ HF.out).mono ?_; rintro _ W16 ⟨rfl, hw16⟩
      obtain ⟨r1_16, c1_16⟩ := keepB hw16 z1_15 r1_15 c1_15
      have z1_16 := isRow_lt r1_16
      have hb16 := hb15.trans (hw16.mono hb15.size)
      have q16 := hb16.size
      clear hw16 r1_15 c1_15 z1_15 hb15
      go_wp2_with fail
      refine (countVectors_any _ _ _ hp2 hp31 hn).mono ?_; rintro _ W17 ⟨rfl, hw17⟩
      obtain ⟨r1_17, c1_17⟩ := keepB hw17 z1_16 r1_16 c1_16
      have z1_17 := isRow_lt r1_17
      have hb17 := hb16.trans (hw17.mono hb16.size)
      have q17 := hb17.size
      clear hw17 r1_16 c1_16 z1_16 hb16
      go_wp2_with fail
      go_ret2
      exact ⟨none, 0, by rw [HR.out.1, HR.out.2]; rfl, (by (repeat (first | exact hb17 | exact Below.refl _ _ | refine Below.alloc ?_ (by first | omega | (simp; try omega)) _ | refine below_setRow ?_ (by omega) _ | refine Below.drew ?_))), VL.nilOf (HR.out.2)⟩

set_option maxRecDepth 100000 in
set_option maxHeartbeats 2000000 in
theorem lawGroupLikes (fp fn : Int) (f : Nat → Int) (w : World) (_wfp : (Lit.int .i64 fp).wf = true) (_wfn : (Lit.int .i64 fn).wf = true) (hf : Bytes 520 f) :
    Calls Try.prog 12 #[.agg (alg fp fn f)] w fun e w' => e = .returned (.bool true) ∧ Below w.heap.size w w' := by
  have Hf := Lib.hid hf; clear hf
  have hm : glN fp fn f ≤ 1000000 := Nat.le_trans (gl_le fp fn f) (by omega)
  go_enter Try.func12, Try.ntmps12
  go_wp2_with fail
  refine atomC fun W1 e1 => ?_
  have hb1 : Below w.heap.size w W1 := by rw [e1]; (repeat (first | exact Below.refl _ _ | refine Below.alloc ?_ (by first | omega | (simp; try omega)) _ | refine below_setRow ?_ (by omega) _ | refine Below.drew ?_))
  have q1 := hb1.size
  have r1_1 : IsRow W1 (w.heap.size) := by rw [e1]; simp [go_sem]
  have c1_1 := congrArg (fun x => blk x (w.heap.size)) e1; simp [go_sem] at c1_1
  have z1_1 := isRow_lt r1_1
  clear e1
  refine (toCoalgebra_any _ _ _ _).mono ?_; rintro _ W2 ⟨rfl, hw2⟩
  obtain ⟨r1_2, c1_2⟩ := keepB hw2 z1_1 r1_1 c1_1
  have z1_2 := isRow_lt r1_2
  have hb2 := hb1.trans (hw2.mono hb1.size)
  have q2 := hb2.size
  clear hw2 r1_1 c1_1 z1_1 hb1
  go_wp2_with fail
  have ltS1n3 : (w.heap.size) < W2.heap.size := z1_2
  refine (specGroupLikes_any _ _ _ _ Hf.out).mono ?_; rintro _ W3 ⟨aS_3, cS_3, rfl, hw3, hvS_3⟩
  have sz3 := hw3.size
  obtain ⟨r1_3, c1_3⟩ := keepB hw3 z1_2 r1_2 c1_2
  have z1_3 := isRow_lt r1_3
  have hb3 := hb2.trans (hw3.mono hb2.size)
  have q3 := hb3.size
  clear hw3 r1_2 c1_2 z1_2 hb2
  go_wp2_with fail
  refine (toCoalgebra_any _ _ _ _).mono ?_; rintro _ W4 ⟨rfl, hw4⟩
  obtain ⟨r1_4, c1_4⟩ := keepB hw4 z1_3 r1_3 c1_3
  have z1_4 := isRow_lt r1_4
  have hb4 := hb3.trans (hw4.mono hb3.size)
  have q4 := hb4.size
  have sz4 := hw4.size
  have hvS_4 := hvS_3.below hw4 (by omega)
  clear hw4 hvS_3 r1_3 c1_3 z1_3 hb3
  go_wp2_with fail
  have ltG1n5 : (w.heap.size) < W4.heap.size := z1_4
  refine (groupLikes_any _ _ _ _ Hf.out).mono ?_; rintro _ W5 ⟨aG_5, cG_5, rfl, hw5, hvG_5⟩
  obtain ⟨r1_5, c1_5⟩ := keepB hw5 z1_4 r1_4 c1_4
  have z1_5 := isRow_lt r1_5
  have hb5 := hb4.trans (hw5.mono hb4.size)
  have q5 := hb5.size
  have sz5 := hw5.size
  have hvS_5 := hvS_4.below hw5 (by omega)
  clear hw5 hvS_4 r1_4 c1_4 z1_4 hb4
  go_wp2_with fail
  refine (eqVectorS_any hm hvG_5 hvS_5).mono ?_; rintro _ W6 ⟨rfl, hw6⟩
  obtain ⟨r1_6, c1_6⟩ := keepB hw6 z1_5 r1_5 c1_5
  have z1_6 := isRow_lt r1_6
  have hb6 := hb5.trans (hw6.mono hb5.size)
  have q6 := hb6.size
  have sz6 := hw6.size
  have hvS_6 := hvS_5.below hw6 (by omega)
  have hvG_6 := hvG_5.below hw6 (by omega)
  clear hw6 hvS_5 hvG_5 r1_5 c1_5 z1_5 hb5
  go_wp2_with fail
  refine (markVectorS_any hm (by omega) (by omega) (by omega) hvG_6).mono ?_; rintro _ W7 ⟨rfl, hw7, hvG_7⟩
  obtain ⟨r1_7, c1_7⟩ := keepB hw7 (by have := z1_6; omega) r1_6 c1_6
  have z1_7 := isRow_lt r1_7
  have hb7 := hb6.trans (hw7.mono (by omega))
  have q7 := hb7.size
  have sz7 := hw7.size
  have hvS_7 := hvS_6.below hw7 (by omega)
  clear hw7 hvG_6 hvS_6 r1_6 c1_6 z1_6 hb6
  go_wp2_with fail
  refine (heldVectorS_any hm (by omega) (by omega) hvG_7).mono ?_; rintro _ W8 ⟨rfl, hw8⟩
  obtain ⟨r1_8, c1_8⟩ := keepB hw8 z1_7 r1_7 c1_7
  have z1_8 := isRow_lt r1_8
  have hb8 := hb7.trans (hw8.mono hb7.size)
  have q8 := hb8.size
  have sz8 := hw8.size
  have hvS_8 := hvS_7.below hw8 (by omega)
  have hvG_8 := hvG_7.below hw8 (by omega)
  clear hw8 hvS_7 hvG_7 r1_7 c1_7 z1_7 hb7
  go_wp2_with fail
  refine (toCoalgebra_any _ _ _ _).mono ?_; rintro _ W9 ⟨rfl, hw9⟩
  have hb9 := hb8.trans (hw9.mono hb8.size)
  have q9 := hb9.size
  have sz9 := hw9.size
  have hvS_9 := hvS_8.below hw9 (by omega)
  have hvG_9 := hvG_8.below hw9 (by omega)
  clear hw9 hvS_8 hvG_8 hb8
  go_wp2_with fail
  refine (groupLikes_any _ _ _ _ Hf.out).mono ?_; rintro _ W10 ⟨aH_10, cH_10, rfl, hw10, hvH_10⟩
  have hb10 := hb9.trans (hw10.mono hb9.size)
  have q10 := hb10.size
  have sz10 := hw10.size
  have hvS_10 := hvS_9.below hw10 (by omega)
  have hvG_10 := hvG_9.below hw10 (by omega)
  clear hw10 hvS_9 hvG_9 hb9
  go_wp2_with fail
  refine (eqVectorS_any hm hvH_10 hvS_10).mono ?_; rintro _ W11 ⟨rfl, hw11⟩
  have hb11 := hb10.trans (hw11.mono hb10.size)
  have q11 := hb11.size
  have sz11 := hw11.size
  have hvS_11 := hvS_10.below hw11 (by omega)
  have hvG_11 := hvG_10.below hw11 (by omega)
  have hvH_11 := hvH_10.below hw11 (by omega)
  clear hw11 hvS_10 hvG_10 hvH_10 hb10
  go_wp2_with fail
  refine (heldVectorS_any hm (by omega) (by omega) hvG_11).mono ?_; rintro _ W12 ⟨rfl, hw12⟩
  have hb12 := hb11.trans (hw12.mono hb11.size)
  have q12 := hb12.size
  have sz12 := hw12.size
  have hvS_12 := hvS_11.below hw12 (by omega)
  have hvG_12 := hvG_11.below hw12 (by omega)
  have hvH_12 := hvH_11.below hw12 (by omega)
  clear hw12 hvS_11 hvG_11 hvH_11 hb11
  go_wp2_with fail
  go_ret
  exact ⟨rfl, (by (repeat (first | exact hb12 | exact Below.refl _ _ | refine Below.alloc ?_ (by first | omega | (simp; try omega)) _ | refine below_setRow ?_ (by omega) _ | refine Below.drew ?_)))⟩

end Go.Proofs.Ytfdejhhgkpdfdaa
