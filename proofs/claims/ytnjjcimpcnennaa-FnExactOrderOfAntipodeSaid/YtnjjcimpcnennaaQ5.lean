/- l02Fault, l02Counits, and the shape of a coalgebra, of the program and of the reference model. -/
import Derived.Test.YtnjjcimpcnennaaQ4
namespace Go.Proofs.Ytnjjcimpcnennaa
open Go.RowKit
set_option linter.unusedSimpArgs false
set_option linter.unusedVariables false
attribute [local irreducible] wpQuiet wpQE

theorem mul_le8 {a n c : Nat} (h : a ≤ c) (hn : n ≤ 8) : a * n ≤ c * 8 := Nat.mul_le_mul h hn
/-- bounds on the powers of n, as the walk reckons them -/
theorem pows {n : Nat} (hn : n ≤ 8) : (0 : Int) ≤ (n : Int) * n ∧ (n : Int) * n ≤ 64 ∧ (0 : Int) ≤ (n : Int) * n * n ∧ (n : Int) * n * n ≤ 512 ∧ (0 : Int) ≤ (n : Int) * n * n * n ∧ (n : Int) * n * n * n ≤ 4096 := by
  have h2 := mul_le8 hn hn
  have h3 := mul_le8 h2 hn
  have h4 := mul_le8 h3 hn
  have e2 : ((n * n : Nat) : Int) = (n : Int) * n := by simp
  have e3 : ((n * n * n : Nat) : Int) = (n : Int) * n * n := by simp
  have e4 : ((n * n * n * n : Nat) : Int) = (n : Int) * n * n * n := by simp
  omega
theorem pow_pos' {n : Nat} (h : 0 < n) : 0 < n * n ∧ 0 < n * n * n := ⟨Nat.mul_pos h h, Nat.mul_pos (Nat.mul_pos h h) h⟩
theorem casts (m n : Nat) : (m : Int) / ((n : Int) * n * n) = ((m / (n * n * n) : Nat) : Int) ∧ (m : Int) / ((n : Int) * n) % n = ((m / (n * n) % n : Nat) : Int) ∧ (m : Int) / n % n = ((m / n % n : Nat) : Int) ∧ (m : Int) % n = ((m % n : Nat) : Int) := by simp
theorem l02SumsI_any (p : Int) (n : Nat) (f : Nat → Int) (m : Nat) (w : World) (hp : 0 < p) (hp' : p ≤ 255) (hn : n ≤ 8) (hF : Bytes 520 f) (hm : m < n * n * n * n) (h0 : 0 < n) (h1 : m / (n * n * n) < n) :
    Calls Try.prog 112 #[.agg (alg p n f), .int .i64 ((m : Int) / ((n : Int) * n * n)), .int .i64 ((m : Int) / ((n : Int) * n) % n), .int .i64 ((m : Int) / n % n), .int .i64 ((m : Int) % n)] w fun e w' =>
      e = .returned (.tuple #[.int .u8 (coL p f (m / (n * n * n)) (m / (n * n) % n) (m / n % n) n (m % n)), .int .u8 (coR p f (m / (n * n * n)) (m / (n * n) % n) (m / n % n) n (m % n))]) ∧ Below w.heap.size w w' := by
  rw [(casts m n).1, (casts m n).2.1, (casts m n).2.2.1, (casts m n).2.2.2]
  have b2 := Nat.mod_lt (m / (n * n)) h0
  have b3 := Nat.mod_lt (m / n) h0
  have b4 := Nat.mod_lt m h0
  exact l02Sums_any p n f _ _ _ _ w hp hp' hn (by omega) (by omega) (by omega) (by omega) hF
theorem not_lt4 {m n : Nat} (h : ¬ m < n * n * n * n) : ¬ (m : Int) < (n : Int) * n * n * n := by
  intro h2
  apply h
  have e : ((n * n * n * n : Nat) : Int) = (n : Int) * n * n * n := by simp
  omega
theorem pos_of {m n : Nat} (h : m < n * n * n * n) : 0 < n := by
  rcases Nat.eq_zero_or_pos n with h0 | h0
  · subst h0; simp at h
  · exact h0
theorem first_more {q : Nat → Bool} {m m0 : Nat} (hle : m ≤ m0) (h1 : q m0 = true) (h0 : q m = false) : m + 1 ≤ m0 := by
  refine Nat.lt_of_le_of_ne hle fun e => ?_
  rw [e, h1] at h0; cases h0
theorem first_here {q : Nat → Bool} {m m0 : Nat} (hle : m ≤ m0) (h1 : ∀ i, i < m0 → q i = false) (h0 : q m = true) : m0 = m := by
  refine Nat.le_antisymm (Nat.le_of_not_lt fun h => ?_) hle
  rw [h1 m h] at h0; cases h0
theorem div_lt_n {m n : Nat} (hm : m < n * n * n * n) : m / (n * n * n) < n := by
  rw [Nat.div_lt_iff_lt_mul (by
    rcases Nat.eq_zero_or_pos n with h | h
    · subst h; simp at hm
    · exact (pow_pos' h).2)]
  rw [show n * (n * n * n) = n * n * n * n by rw [Nat.mul_comm]]
  exact hm

set_option maxRecDepth 100000 in
set_option maxHeartbeats 1000000 in
theorem l02Fault_none (p : Int) (n : Nat) (f : Nat → Int) (w : World) (hp : 0 < p) (hp' : p ≤ 255) (hn : n ≤ 8) (hF : Bytes 520 f) (hno : NoCo p n f) :
    Calls Try.prog 107 #[.agg (alg p n f)] w fun e w' => e = .returned (.tuple #[.slice none 0 0, .bool false]) ∧ Below w.heap.size w w' := by
  have HF := Lib.hid hF; clear hF
  have Hno := Lib.hid hno; clear hno
  go_enter Try.func107, Try.ntmps107
  go_wp2
  refine atomW fun W1 e1 => ?_
  have hb1 : Below w.heap.size w W1 := by rw [e1]; (repeat (first | exact Below.refl _ _ | refine Below.alloc ?_ (by first | omega | (simp; try omega)) _ | refine below_setRow ?_ (by omega) _ | refine Below.drew ?_))
  have q1 := hb1.size
  have r1_1 : IsRow W1 (w.heap.size) := by rw [e1]; simp [go_sem]
  have c1_1 := congrArg (fun x => blk x (w.heap.size)) e1; simp [go_sem] at c1_1
  have z1_1 := isRow_lt r1_1
  clear e1
  have x1 := (pows hn).1; have x2 := (pows hn).2.1; have x3 := (pows hn).2.2.1; have x4 := (pows hn).2.2.2.1; have x5 := (pows hn).2.2.2.2.1; have x6 := (pows hn).2.2.2.2.2
  go_loopw [5] (fun s5 wr => ∃ m : Nat, m ≤ n * n * n * n ∧ s5 = .int .i64 m ∧ Below w.heap.size w wr ∧ (IsRow wr (w.heap.size) ∧ blk wr (w.heap.size) = blk W1 (w.heap.size))) (fun s5 _ => n * n * n * n - (intOf s5).toNat)
  case atStart => exact ⟨0, by omega, rfl, hb1, ⟨r1_1, rfl⟩⟩
  case round =>
    obtain ⟨m, hle2, rfl, hb2, ⟨r1_2, c1_2⟩⟩ := hrel
    obtain ⟨W2, rfl⟩ : ∃ W2 : World, W2 = wr := ⟨_, rfl⟩
    have q2 := hb2.size
    have E1_2 := Lib.hid c1_1; replace c1_2 := c1_2.trans c1_1
    have z1_2 := isRow_lt r1_2
    clear r1_1 c1_1 z1_1 hb1
    by_cases hlt2 : m < n * n * n * n
    · skip
      have hn0 : 0 < n := pos_of hlt2
      have y1 : (0 : Int) < (n : Int) * n := by have := Int.ofNat_lt.2 (pow_pos' hn0).1; simpa using this
      have y2 : (0 : Int) < (n : Int) * n * n := by have := Int.ofNat_lt.2 (pow_pos' hn0).2; simpa using this
      have y3 : (0 : Int) < (n : Int) := by omega
      have y4 : (m : Int) < (n : Int) * n * n * n := by have := Int.ofNat_lt.2 hlt2; simpa using this
      have z1 : ¬ ((n : Int) * n = 0) := by omega
      have z2 : ¬ ((n : Int) * n * n = 0) := by omega
      have z3 : ¬ ((n : Int) = 0) := by omega
      have d1 : (0 : Int) ≤ (m : Int) / ((n : Int) * n) := Int.ediv_nonneg (by omega) (by omega)
      have d2 : (0 : Int) ≤ (m : Int) / (n : Int) := Int.ediv_nonneg (by omega) (by omega)
      have e1 : (m : Int) / ((n : Int) * n) ≤ m := Int.ediv_le_self _ (by omega)
      have e2 : (m : Int) / (n : Int) ≤ m := Int.ediv_le_self _ (by omega)
      have e3 : (m : Int) / ((n : Int) * n * n) ≤ m := Int.ediv_le_self _ (by omega)
      have e4 : (0 : Int) ≤ (m : Int) / ((n : Int) * n * n) := Int.ediv_nonneg (by omega) (by omega)
      have qa : IntKind.i64.wrap ((n : Int) * n) = (n : Int) * n := IntWalk.i64_in _ (by omega)
      have qb : IntKind.i64.wrap ((n : Int) * n * n) = (n : Int) * n * n := IntWalk.i64_in _ (by omega)
      have qc : IntKind.i64.wrap ((m : Int) / ((n : Int) * n)) = (m : Int) / ((n : Int) * n) := IntWalk.i64_in _ (by omega)
      have qd : IntKind.i64.wrap ((m : Int) / (n : Int)) = (m : Int) / (n : Int) := IntWalk.i64_in _ (by omega)
      have qe : IntKind.i64.wrap ((m : Int) / ((n : Int) * n * n)) = (m : Int) / ((n : Int) * n * n) := IntWalk.i64_in _ (by omega)
      have nz : ¬ n = 0 := by omega
      have t1 : ((m : Int) / ((n : Int) * n)).tmod n = (m : Int) / ((n : Int) * n) % n := Int.tmod_eq_emod_of_nonneg d1
      have t2 : ((m : Int) / (n : Int)).tmod n = (m : Int) / (n : Int) % n := Int.tmod_eq_emod_of_nonneg d2
      have t3 : (m : Int).tmod n = (m : Int) % n := Int.tmod_eq_emod_of_nonneg (by omega)
      have b1 := div_lt_n hlt2; have b2 := Nat.mod_lt (m / (n * n)) hn0; have b3 := Nat.mod_lt (m / n) hn0; have b4 := Nat.mod_lt m hn0
      have h1 : (coL p f (m / (n * n * n)) (m / (n * n) % n) (m / n % n) n (m % n) != coR p f (m / (n * n * n)) (m / (n * n) % n) (m / n % n) n (m % n)) = false := Hno.out m hlt2
      go_wp2
      refine wp_quiet_all (Below W2.heap.size W2) (by kernel_rfl) (by kernel_rfl) (Below.refl _ _).drew ?_
      iterate 26 (refine q_plain rfl ?_; apply Exists.intro; refine ⟨fun W hW => ?_, ?_⟩; (focus (obtain ⟨x1, y1⟩ := keepB hW z1_2 r1_2 c1_2; go_simp; first | done | rfl)); simp only [Act.put, List.setIfInBounds_toArray, List.set_cons_zero, List.set_cons_succ])
      refine wpQuiet_nil ?_
      intro W3 hw3
      obtain ⟨r1_3, c1_3⟩ := keepB hw3 z1_2 r1_2 c1_2
      have z1_3 := isRow_lt r1_3
      have hb3 := hb2.trans (hw3.mono hb2.size)
      have q3 := hb3.size
      clear hw3 r1_2 c1_2 z1_2 hb2
      go_wp2_with fail
      refine (l02SumsI_any p n f m _ hp hp' hn HF.out hlt2 hn0 b1).mono ?_; rintro _ W4 ⟨rfl, hw4⟩
      obtain ⟨r1_4, c1_4⟩ := keepB hw4 z1_3 r1_3 c1_3
      have z1_4 := isRow_lt r1_4
      have hb4 := hb3.trans (hw4.mono hb3.size)
      have q4 := hb4.size
      clear hw4 r1_3 c1_3 z1_3 hb3
      go_wp2
      go_roundw
      case rel => exact ⟨m + 1, by omega, by go_num, (by (repeat (first | exact hb4 | exact Below.refl _ _ | refine Below.alloc ?_ (by first | omega | (simp; try omega)) _ | refine below_setRow ?_ (by omega) _ | refine Below.drew ?_))), ⟨by simp [go_sem, r1_4, c1_4], (by rw [E1_2.out]; first | exact c1_4 | (simp [go_sem, r1_4, c1_4]; done))⟩⟩
      case measure => simp [intOf]; omega
    · skip
      have hend2 : m = n * n * n * n := by omega
      have y4 : ¬ (m : Int) < (n : Int) * n * n * n := not_lt4 hlt2
      go_wp2_with fail
      go_ret2
      exact ⟨rfl, (by (repeat (first | exact hb2 | exact Below.refl _ _ | refine Below.alloc ?_ (by first | omega | (simp; try omega)) _ | refine below_setRow ?_ (by omega) _ | refine Below.drew ?_)))⟩

set_option maxRecDepth 100000 in
set_option maxHeartbeats 1000000 in
theorem l02Fault_some (p : Int) (n : Nat) (f : Nat → Int) (m0 : Nat) (w : World) (hp : 0 < p) (hp' : p ≤ 255) (hn : n ≤ 8) (hF : Bytes 520 f) (hfi : FirstCo p n f m0) :
    Calls Try.prog 107 #[.agg (alg p n f)] w fun e w' => ∃ b, e = .returned (.tuple #[.slice (some ⟨b, 0, none⟩) 4 4, .bool true]) ∧ Below w.heap.size w w' ∧ w.heap.size ≤ b ∧ IsRow w' b ∧ blk w' b = nums 4 (q4 n m0) := by
  have HF := Lib.hid hF; clear hF
  have Hfi := Lib.hid hfi; clear hfi
  go_enter Try.func107, Try.ntmps107
  go_wp2
  refine atomW fun W1 e1 => ?_
  have hb1 : Below w.heap.size w W1 := by rw [e1]; (repeat (first | exact Below.refl _ _ | refine Below.alloc ?_ (by first | omega | (simp; try omega)) _ | refine below_setRow ?_ (by omega) _ | refine Below.drew ?_))
  have q1 := hb1.size
  have r1_1 : IsRow W1 (w.heap.size) := by rw [e1]; simp [go_sem]
  have c1_1 := congrArg (fun x => blk x (w.heap.size)) e1; simp [go_sem] at c1_1
  have z1_1 := isRow_lt r1_1
  clear e1
  have x1 := (pows hn).1; have x2 := (pows hn).2.1; have x3 := (pows hn).2.2.1; have x4 := (pows hn).2.2.2.1; have x5 := (pows hn).2.2.2.2.1; have x6 := (pows hn).2.2.2.2.2
  go_loopw [5] (fun s5 wr => ∃ m : Nat, m ≤ n * n * n * n ∧ s5 = .int .i64 m ∧ Below w.heap.size w wr ∧ (IsRow wr (w.heap.size) ∧ blk wr (w.heap.size) = blk W1 (w.heap.size)) ∧ m ≤ m0) (fun s5 _ => n * n * n * n - (intOf s5).toNat)
  case atStart => exact ⟨0, by omega, rfl, hb1, ⟨r1_1, rfl⟩, Nat.zero_le _⟩
  case round =>
    obtain ⟨m, hle2, rfl, hb2, ⟨r1_2, c1_2⟩, hx2⟩ := hrel
    obtain ⟨W2, rfl⟩ : ∃ W2 : World, W2 = wr := ⟨_, rfl⟩
    have q2 := hb2.size
    have HX2 := Lib.hid hx2; clear hx2
    have E1_2 := Lib.hid c1_1; replace c1_2 := c1_2.trans c1_1
    have z1_2 := isRow_lt r1_2
    clear r1_1 c1_1 z1_1 hb1
    by_cases hlt2 : m < n * n * n * n
    · skip
      cases h0 : cofM p n f m
      · skip
        have hn0 : 0 < n := pos_of hlt2
        have y1 : (0 : Int) < (n : Int) * n := by have := Int.ofNat_lt.2 (pow_pos' hn0).1; simpa using this
        have y2 : (0 : Int) < (n : Int) * n * n := by have := Int.ofNat_lt.2 (pow_pos' hn0).2; simpa using this
        have y3 : (0 : Int) < (n : Int) := by omega
        have y4 : (m : Int) < (n : Int) * n * n * n := by have := Int.ofNat_lt.2 hlt2; simpa using this
        have z1 : ¬ ((n : Int) * n = 0) := by omega
        have z2 : ¬ ((n : Int) * n * n = 0) := by omega
        have z3 : ¬ ((n : Int) = 0) := by omega
        have d1 : (0 : Int) ≤ (m : Int) / ((n : Int) * n) := Int.ediv_nonneg (by omega) (by omega)
        have d2 : (0 : Int) ≤ (m : Int) / (n : Int) := Int.ediv_nonneg (by omega) (by omega)
        have e1 : (m : Int) / ((n : Int) * n) ≤ m := Int.ediv_le_self _ (by omega)
        have e2 : (m : Int) / (n : Int) ≤ m := Int.ediv_le_self _ (by omega)
        have e3 : (m : Int) / ((n : Int) * n * n) ≤ m := Int.ediv_le_self _ (by omega)
        have e4 : (0 : Int) ≤ (m : Int) / ((n : Int) * n * n) := Int.ediv_nonneg (by omega) (by omega)
        have qa : IntKind.i64.wrap ((n : Int) * n) = (n : Int) * n := IntWalk.i64_in _ (by omega)
        have qb : IntKind.i64.wrap ((n : Int) * n * n) = (n : Int) * n * n := IntWalk.i64_in _ (by omega)
        have qc : IntKind.i64.wrap ((m : Int) / ((n : Int) * n)) = (m : Int) / ((n : Int) * n) := IntWalk.i64_in _ (by omega)
        have qd : IntKind.i64.wrap ((m : Int) / (n : Int)) = (m : Int) / (n : Int) := IntWalk.i64_in _ (by omega)
        have qe : IntKind.i64.wrap ((m : Int) / ((n : Int) * n * n)) = (m : Int) / ((n : Int) * n * n) := IntWalk.i64_in _ (by omega)
        have nz : ¬ n = 0 := by omega
        have t1 : ((m : Int) / ((n : Int) * n)).tmod n = (m : Int) / ((n : Int) * n) % n := Int.tmod_eq_emod_of_nonneg d1
        have t2 : ((m : Int) / (n : Int)).tmod n = (m : Int) / (n : Int) % n := Int.tmod_eq_emod_of_nonneg d2
        have t3 : (m : Int).tmod n = (m : Int) % n := Int.tmod_eq_emod_of_nonneg (by omega)
        have b1 := div_lt_n hlt2; have b2 := Nat.mod_lt (m / (n * n)) hn0; have b3 := Nat.mod_lt (m / n) hn0; have b4 := Nat.mod_lt m hn0
        have h1 : (coL p f (m / (n * n * n)) (m / (n * n) % n) (m / n % n) n (m % n) != coR p f (m / (n * n * n)) (m / (n * n) % n) (m / n % n) n (m % n)) = false := h0
        have h2 : Hid (m + 1 ≤ m0) := Lib.hid (first_more (q := cofM p n f) HX2.out Hfi.out.2.1 h0)
        clear h0
        go_wp2
        refine wp_quiet_all (Below W2.heap.size W2) (by kernel_rfl) (by kernel_rfl) (Below.refl _ _).drew ?_
        iterate 26 (refine q_plain rfl ?_; apply Exists.intro; refine ⟨fun W hW => ?_, ?_⟩; (focus (obtain ⟨x1, y1⟩ := keepB hW z1_2 r1_2 c1_2; go_simp; first | done | rfl)); simp only [Act.put, List.setIfInBounds_toArray, List.set_cons_zero, List.set_cons_succ])
        refine wpQuiet_nil ?_
        intro W3 hw3
        obtain ⟨r1_3, c1_3⟩ := keepB hw3 z1_2 r1_2 c1_2
        have z1_3 := isRow_lt r1_3
        have hb3 := hb2.trans (hw3.mono hb2.size)
        have q3 := hb3.size
        clear hw3 r1_2 c1_2 z1_2 hb2
        go_wp2_with fail
        refine (l02SumsI_any p n f m _ hp hp' hn HF.out hlt2 hn0 b1).mono ?_; rintro _ W4 ⟨rfl, hw4⟩
        obtain ⟨r1_4, c1_4⟩ := keepB hw4 z1_3 r1_3 c1_3
        have z1_4 := isRow_lt r1_4
        have hb4 := hb3.trans (hw4.mono hb3.size)
        have q4 := hb4.size
        clear hw4 r1_3 c1_3 z1_3 hb3
        go_wp2
        go_roundw
        case rel => exact ⟨m + 1, by omega, by go_num, (by (repeat (first | exact hb4 | exact Below.refl _ _ | refine Below.alloc ?_ (by first | omega | (simp; try omega)) _ | refine below_setRow ?_ (by omega) _ | refine Below.drew ?_))), ⟨by simp [go_sem, r1_4, c1_4], (by rw [E1_2.out]; first | exact c1_4 | (simp [go_sem, r1_4, c1_4]; done))⟩, h2.out⟩
        case measure => simp [intOf]; omega
      · skip
        have hn0 : 0 < n := pos_of hlt2
        have y1 : (0 : Int) < (n : Int) * n := by have := Int.ofNat_lt.2 (pow_pos' hn0).1; simpa using this
        have y2 : (0 : Int) < (n : Int) * n * n := by have := Int.ofNat_lt.2 (pow_pos' hn0).2; simpa using this
        have y3 : (0 : Int) < (n : Int) := by omega
        have y4 : (m : Int) < (n : Int) * n * n * n := by have := Int.ofNat_lt.2 hlt2; simpa using this
        have z1 : ¬ ((n : Int) * n = 0) := by omega
        have z2 : ¬ ((n : Int) * n * n = 0) := by omega
        have z3 : ¬ ((n : Int) = 0) := by omega
        have d1 : (0 : Int) ≤ (m : Int) / ((n : Int) * n) := Int.ediv_nonneg (by omega) (by omega)
        have d2 : (0 : Int) ≤ (m : Int) / (n : Int) := Int.ediv_nonneg (by omega) (by omega)
        have e1 : (m : Int) / ((n : Int) * n) ≤ m := Int.ediv_le_self _ (by omega)
        have e2 : (m : Int) / (n : Int) ≤ m := Int.ediv_le_self _ (by omega)
        have e3 : (m : Int) / ((n : Int) * n * n) ≤ m := Int.ediv_le_self _ (by omega)
        have e4 : (0 : Int) ≤ (m : Int) / ((n : Int) * n * n) := Int.ediv_nonneg (by omega) (by omega)
        have qa : IntKind.i64.wrap ((n : Int) * n) = (n : Int) * n := IntWalk.i64_in _ (by omega)
        have qb : IntKind.i64.wrap ((n : Int) * n * n) = (n : Int) * n * n := IntWalk.i64_in _ (by omega)
        have qc : IntKind.i64.wrap ((m : Int) / ((n : Int) * n)) = (m : Int) / ((n : Int) * n) := IntWalk.i64_in _ (by omega)
        have qd : IntKind.i64.wrap ((m : Int) / (n : Int)) = (m : Int) / (n : Int) := IntWalk.i64_in _ (by omega)
        have qe : IntKind.i64.wrap ((m : Int) / ((n : Int) * n * n)) = (m : Int) / ((n : Int) * n * n) := IntWalk.i64_in _ (by omega)
        have nz : ¬ n = 0 := by omega
        have t1 : ((m : Int) / ((n : Int) * n)).tmod n = (m : Int) / ((n : Int) * n) % n := Int.tmod_eq_emod_of_nonneg d1
        have t2 : ((m : Int) / (n : Int)).tmod n = (m : Int) / (n : Int) % n := Int.tmod_eq_emod_of_nonneg d2
        have t3 : (m : Int).tmod n = (m : Int) % n := Int.tmod_eq_emod_of_nonneg (by omega)
        have b1 := div_lt_n hlt2; have b2 := Nat.mod_lt (m / (n * n)) hn0; have b3 := Nat.mod_lt (m / n) hn0; have b4 := Nat.mod_lt m hn0
        have h1 : (coL p f (m / (n * n * n)) (m / (n * n) % n) (m / n % n) n (m % n) != coR p f (m / (n * n * n)) (m / (n * n) % n) (m / n % n) n (m % n)) = true := h0
        have h2 : Hid (m0 = m) := Lib.hid (first_here (q := cofM p n f) HX2.out Hfi.out.2.2 h0)
        clear h0
        go_wp2
        refine wp_quiet_all (Below W2.heap.size W2) (by kernel_rfl) (by kernel_rfl) (Below.refl _ _).drew ?_
        iterate 26 (refine q_plain rfl ?_; apply Exists.intro; refine ⟨fun W hW => ?_, ?_⟩; (focus (obtain ⟨x1, y1⟩ := keepB hW z1_2 r1_2 c1_2; go_simp; first | done | rfl)); simp only [Act.put, List.setIfInBounds_toArray, List.set_cons_zero, List.set_cons_succ])
        refine wpQuiet_nil ?_
        intro W5 hw5
        obtain ⟨r1_5, c1_5⟩ := keepB hw5 z1_2 r1_2 c1_2
        have z1_5 := isRow_lt r1_5
        have hb5 := hb2.trans (hw5.mono hb2.size)
        have q5 := hb5.size
        clear hw5 r1_2 c1_2 z1_2 hb2
        go_wp2_with fail
        refine (l02SumsI_any p n f m _ hp hp' hn HF.out hlt2 hn0 b1).mono ?_; rintro _ W6 ⟨rfl, hw6⟩
        obtain ⟨r1_6, c1_6⟩ := keepB hw6 z1_5 r1_5 c1_5
        have z1_6 := isRow_lt r1_6
        have hb6 := hb5.trans (hw6.mono hb5.size)
        have q6 := hb6.size
        clear hw6 r1_5 c1_5 z1_5 hb5
        have nw1_W6_0 : (w.heap.size) ≠ W6.heap.size := by omega
        go_wp2_with fail
        go_ret2
        refine ⟨_, rfl, (by (repeat (first | exact hb6 | exact Below.refl _ _ | refine Below.alloc ?_ (by first | omega | (simp; try omega)) _ | refine below_setRow ?_ (by omega) _ | refine Below.drew ?_))), ?_, ?_, ?_⟩
        · first | omega | (simp; omega)
        · simp [go_sem, r1_6, c1_6]
        · rw [h2.out]; unfold q4; rw [← t4_nums]; simp [go_sem, r1_6, c1_6]
    · skip
      have hend2 : m = n * n * n * n := by omega
      exact absurd Hfi.out.1 (by have := HX2.out; omega)

end Go.Proofs.Ytnjjcimpcnennaa
