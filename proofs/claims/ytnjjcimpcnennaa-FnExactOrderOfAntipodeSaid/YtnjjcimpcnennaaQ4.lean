/- The search for the first fault of coassociativity, of the program and of the reference model. -/
import Derived.Test.YtnjjcimpcnennaaQ3
import Derived.Test.YtnjjcimpcnennaaP19
namespace Go.Proofs.Ytnjjcimpcnennaa
open Go.RowKit
set_option linter.unusedSimpArgs false
set_option linter.unusedVariables false
attribute [local irreducible] wpQuiet wpQE

/-- the number of the list i, j, k, l -/
def idx (n i j k l : Nat) : Nat := ((i * n + j) * n + k) * n + l
theorem idx_l (n i j k l : Nat) : idx n i j k l + 1 = idx n i j k (l + 1) := rfl
theorem up1 (q n : Nat) : q * n + n = (q + 1) * n := by rw [Nat.succ_mul]
theorem idx_k (n i j k : Nat) : idx n i j k n = idx n i j (k + 1) 0 := by unfold idx; rw [up1]; rfl
theorem idx_j (n i j : Nat) : idx n i j n 0 = idx n i (j + 1) 0 0 := by unfold idx; rw [up1]; rfl
theorem idx_i (n i : Nat) : idx n i n 0 0 = idx n (i + 1) 0 0 0 := by unfold idx; rw [up1]; rfl
theorem idx_end (n : Nat) : idx n n 0 0 0 = n * n * n * n := by unfold idx; rfl
theorem lt_step {q n r m : Nat} (h : q < m) (hr : r < n) : q * n + r < m * n := by
  have : (q + 1) * n ≤ m * n := Nat.mul_le_mul_right n h
  rw [Nat.succ_mul] at this
  omega
theorem idx_lt {n i j k l : Nat} (hi : i < n) (hj : j < n) (hk : k < n) (hl : l < n) : idx n i j k l < n * n * n * n := lt_step (lt_step (lt_step hi hj) hk) hl
theorem dig {q n r : Nat} (h : r < n) : (q * n + r) / n = q ∧ (q * n + r) % n = r := by
  have hn : 0 < n := by omega
  rw [Nat.add_comm]
  exact ⟨by rw [Nat.add_mul_div_right _ _ hn, Nat.div_eq_of_lt h, Nat.zero_add], by rw [Nat.add_mul_mod_self_right, Nat.mod_eq_of_lt h]⟩
theorem idx_dig {n i j k l : Nat} (hj : j < n) (hk : k < n) (hl : l < n) : idx n i j k l / (n * n * n) = i ∧ idx n i j k l / (n * n) % n = j ∧ idx n i j k l / n % n = k ∧ idx n i j k l % n = l := by
  have a1 := dig (q := (i * n + j) * n + k) hl
  have a2 := dig (q := i * n + j) hk
  have a3 := dig (q := i) hj
  unfold idx
  refine ⟨?_, ?_, ?_, a1.2⟩
  · rw [← Nat.div_div_eq_div_mul, ← Nat.div_div_eq_div_mul, a1.1, a2.1, a3.1]
  · rw [← Nat.div_div_eq_div_mul, a1.1, a2.1, a3.2]
  · rw [a1.1, a2.2]
/-- the two sums of coassociativity differ at i, j, k, l -/
def cofA (p : Int) (n : Nat) (f : Nat → Int) (i j k l : Nat) : Bool := coL p f i j k n l != coR p f i j k n l
def cofM (p : Int) (n : Nat) (f : Nat → Int) (m : Nat) : Bool := cofA p n f (m / (n * n * n)) (m / (n * n) % n) (m / n % n) (m % n)
theorem cofM_idx {p : Int} {n : Nat} {f : Nat → Int} {i j k l : Nat} (hj : j < n) (hk : k < n) (hl : l < n) : cofM p n f (idx n i j k l) = cofA p n f i j k l := by
  obtain ⟨h1, h2, h3, h4⟩ := idx_dig (i := i) hj hk hl
  unfold cofM
  rw [h1, h2, h3, h4]
/-- no list has a fault -/
def NoCo (p : Int) (n : Nat) (f : Nat → Int) : Prop := ∀ m, m < n * n * n * n → cofM p n f m = false
/-- m is the first with a fault -/
def FirstCo (p : Int) (n : Nat) (f : Nat → Int) (m : Nat) : Prop := m < n * n * n * n ∧ cofM p n f m = true ∧ ∀ m', m' < m → cofM p n f m' = false
theorem least_of {q : Nat → Bool} : ∀ N, (∀ m, m < N → q m = false) ∨ ∃ m, m < N ∧ q m = true ∧ ∀ m', m' < m → q m' = false
  | 0 => .inl fun _ h => by omega
  | N + 1 => by
    rcases least_of (q := q) N with h | ⟨m, h1, h2, h3⟩
    · cases hq : q N
      · refine .inl fun m hm => ?_
        by_cases e : m = N
        · subst e; exact hq
        · exact h m (by omega)
      · exact .inr ⟨N, by omega, hq, h⟩
    · exact .inr ⟨m, by omega, h2, h3⟩
theorem co_or (p : Int) (n : Nat) (f : Nat → Int) : NoCo p n f ∨ ∃ m, FirstCo p n f m := by
  rcases least_of (q := cofM p n f) (n * n * n * n) with h | h
  · exact .inl h
  · exact .inr h
theorem first_at {p : Int} {n : Nat} {f : Nat → Int} {m i j k l : Nat} (h : FirstCo p n f m) (hle : idx n i j k l ≤ m) (hj : j < n) (hk : k < n) (hl : l < n) (hf : cofA p n f i j k l = true) : m = idx n i j k l := by
  refine Nat.le_antisymm (Nat.le_of_not_lt fun hlt => ?_) hle
  have := h.2.2 _ hlt
  rw [cofM_idx hj hk hl, hf] at this
  cases this
theorem first_past {p : Int} {n : Nat} {f : Nat → Int} {m i j k l : Nat} (h : FirstCo p n f m) (hle : idx n i j k l ≤ m) (hj : j < n) (hk : k < n) (hl : l < n) (hf : cofA p n f i j k l = false) : idx n i j k (l + 1) ≤ m := by
  rw [← idx_l]
  refine Nat.lt_of_le_of_ne hle fun e => ?_
  have := h.2.1
  rw [← e, cofM_idx hj hk hl, hf] at this
  cases this
/-- the list as numbers -/
def t4 (i j k l : Nat) : Nat → Int := fun t => match t with | 0 => (i : Int) | 1 => (j : Int) | 2 => (k : Int) | _ => (l : Int)
def q4 (n m : Nat) : Nat → Int := t4 (m / (n * n * n)) (m / (n * n) % n) (m / n % n) (m % n)
theorem q4_idx {n i j k l : Nat} (hj : j < n) (hk : k < n) (hl : l < n) : q4 n (idx n i j k l) = t4 i j k l := by
  obtain ⟨h1, h2, h3, h4⟩ := idx_dig (i := i) hj hk hl
  unfold q4
  rw [h1, h2, h3, h4]
theorem t4_nums (i j k l : Nat) : #[.int .i64 (i : Int), .int .i64 (j : Int), .int .i64 (k : Int), .int .i64 (l : Int)] = nums 4 (t4 i j k l) := by kernel_rfl

set_option maxRecDepth 100000 in
set_option maxHeartbeats 1000000 in
theorem findCoFault_none (p : Int) (n : Nat) (f : Nat → Int) (w : World) (hp : 0 < p) (hp' : p ≤ 255) (hn : n ≤ 8) (hF : Bytes 520 f) (hno : NoCo p n f) :
    Calls Try.prog 99 #[.agg (alg p n f)] w fun e w' => e = .returned (.slice none 0 0) ∧ Below w.heap.size w w' := by
  have HF := Lib.hid hF; clear hF
  have Hno := Lib.hid hno; clear hno
  go_enter Try.func99, Try.ntmps99
  go_wp2
  refine atomW fun W1 e1 => ?_
  have hb1 : Below w.heap.size w W1 := by rw [e1]; (repeat (first | exact Below.refl _ _ | refine Below.alloc ?_ (by first | omega | (simp; try omega)) _ | refine below_setRow ?_ (by omega) _ | refine Below.drew ?_))
  have q1 := hb1.size
  have r1_1 : IsRow W1 (w.heap.size) := by rw [e1]; simp [go_sem]
  have c1_1 := congrArg (fun x => blk x (w.heap.size)) e1; simp [go_sem] at c1_1
  have z1_1 := isRow_lt r1_1
  clear e1
  go_loopw [11] (fun s11 wr => ∃ i : Nat, i ≤ n ∧ s11 = .int .i64 i ∧ Below w.heap.size w wr ∧ (IsRow wr (w.heap.size) ∧ blk wr (w.heap.size) = blk W1 (w.heap.size))) (fun s11 _ => n - (intOf s11).toNat)
  case atStart => exact ⟨0, by omega, rfl, hb1, ⟨r1_1, rfl⟩⟩
  case round =>
    obtain ⟨i, hle2, rfl, hb2, ⟨r1_2, c1_2⟩⟩ := hrel
    obtain ⟨W2, rfl⟩ : ∃ W2 : World, W2 = wr := ⟨_, rfl⟩
    have q2 := hb2.size
    have E1_2 := Lib.hid c1_1; replace c1_2 := c1_2.trans c1_1
    have z1_2 := isRow_lt r1_2
    clear r1_1 c1_1 z1_1 hb1
    by_cases hlt2 : i < n
    · skip
      have i0_2 : (0 : Int) ≤ (i : Int) := by omega
      have i8_2 : (i : Int) < 8 := by omega
      have k8_2 : i < 8 := by omega
      have m8_2 : i * 8 + 8 ≤ 64 := by omega
      have m64_2 : i * 64 + 64 ≤ 512 := by omega
      have l1_2 : 10 + i * 64 + 64 ≤ 522 := by omega
      go_wp2
      go_loopw [16] (fun s16 wr => ∃ j : Nat, j ≤ n ∧ s16 = .int .i64 j ∧ Below w.heap.size w wr ∧ (IsRow wr (w.heap.size) ∧ blk wr (w.heap.size) = blk W2 (w.heap.size))) (fun s16 _ => n - (intOf s16).toNat)
      case atStart => exact ⟨0, by omega, rfl, hb2, ⟨r1_2, rfl⟩⟩
      case round =>
        obtain ⟨j, hle3, rfl, hb3, ⟨r1_3, c1_3⟩⟩ := hrel
        obtain ⟨W3, rfl⟩ : ∃ W3 : World, W3 = wr := ⟨_, rfl⟩
        have q3 := hb3.size
        have E1_3 := Lib.hid c1_2; replace c1_3 := c1_3.trans c1_2
        have z1_3 := isRow_lt r1_3
        clear r1_2 c1_2 z1_2 hb2
        by_cases hlt3 : j < n
        · skip
          have i0_3 : (0 : Int) ≤ (j : Int) := by omega
          have i8_3 : (j : Int) < 8 := by omega
          have k8_3 : j < 8 := by omega
          have m8_3 : j * 8 + 8 ≤ 64 := by omega
          have m64_3 : j * 64 + 64 ≤ 512 := by omega
          have l1_3 : 10 + j * 64 + 64 ≤ 522 := by omega
          have l2_3i : 10 + i * 64 + j * 8 + 8 ≤ 522 := by omega
          have l3_3i : 10 + j * 64 + i * 8 + 8 ≤ 522 := by omega
          have l4_3i : i * 64 + j * 8 + 8 ≤ 512 := by omega
          have l5_3i : j * 64 + i * 8 + 8 ≤ 512 := by omega
          have l6_3i : i * 8 + j < 64 := by omega
          have l7_3i : j * 8 + i < 64 := by omega
          go_wp2
          go_loopw [21] (fun s21 wr => ∃ k : Nat, k ≤ n ∧ s21 = .int .i64 k ∧ Below w.heap.size w wr ∧ (IsRow wr (w.heap.size) ∧ blk wr (w.heap.size) = blk W3 (w.heap.size))) (fun s21 _ => n - (intOf s21).toNat)
          case atStart => exact ⟨0, by omega, rfl, hb3, ⟨r1_3, rfl⟩⟩
          case round =>
            obtain ⟨k, hle4, rfl, hb4, ⟨r1_4, c1_4⟩⟩ := hrel
            obtain ⟨W4, rfl⟩ : ∃ W4 : World, W4 = wr := ⟨_, rfl⟩
            have q4 := hb4.size
            have E1_4 := Lib.hid c1_3; replace c1_4 := c1_4.trans c1_3
            have z1_4 := isRow_lt r1_4
            clear r1_3 c1_3 z1_3 hb3
            by_cases hlt4 : k < n
            · skip
              have i0_4 : (0 : Int) ≤ (k : Int) := by omega
              have i8_4 : (k : Int) < 8 := by omega
              have k8_4 : k < 8 := by omega
              have m8_4 : k * 8 + 8 ≤ 64 := by omega
              have m64_4 : k * 64 + 64 ≤ 512 := by omega
              have l1_4 : 10 + k * 64 + 64 ≤ 522 := by omega
              have l2_4i : 10 + i * 64 + k * 8 + 8 ≤ 522 := by omega
              have l3_4i : 10 + k * 64 + i * 8 + 8 ≤ 522 := by omega
              have l4_4i : i * 64 + k * 8 + 8 ≤ 512 := by omega
              have l5_4i : k * 64 + i * 8 + 8 ≤ 512 := by omega
              have l6_4i : i * 8 + k < 64 := by omega
              have l7_4i : k * 8 + i < 64 := by omega
              have l2_4j : 10 + j * 64 + k * 8 + 8 ≤ 522 := by omega
              have l3_4j : 10 + k * 64 + j * 8 + 8 ≤ 522 := by omega
              have l4_4j : j * 64 + k * 8 + 8 ≤ 512 := by omega
              have l5_4j : k * 64 + j * 8 + 8 ≤ 512 := by omega
              have l6_4j : j * 8 + k < 64 := by omega
              have l7_4j : k * 8 + j < 64 := by omega
              go_wp2_with fail
              refine (coassociativitySums_any p n f i j k _ hp hp' hn (by omega) (by omega) (by omega) HF.out).mono ?_; rintro _ W5 ⟨rfl, hw5⟩
              obtain ⟨r1_5, c1_5⟩ := keepB hw5 z1_4 r1_4 c1_4
              have z1_5 := isRow_lt r1_5
              have hb5 := hb4.trans (hw5.mono hb4.size)
              have q5 := hb5.size
              clear hw5 r1_4 c1_4 z1_4 hb4
              go_wp2
              have nw1_W5_0 : (w.heap.size) ≠ W5.heap.size := by omega
              have nw1_W5_1 : (w.heap.size) ≠ W5.heap.size + 1 := by omega
              refine atomW fun W6 e6 => ?_
              have hb6 : Below w.heap.size w W6 := by rw [e6]; (repeat (first | exact hb5 | exact Below.refl _ _ | refine Below.alloc ?_ (by first | omega | (simp; try omega)) _ | refine below_setRow ?_ (by omega) _ | refine Below.drew ?_))
              have q6 := hb6.size
              have r1_6 : IsRow W6 (w.heap.size) := by rw [e6]; simp [go_sem, r1_5, c1_5, nw1_W5_0, nw1_W5_1]
              have c1_6 := congrArg (fun x => blk x (w.heap.size)) e6; simp [go_sem, r1_5, c1_5, nw1_W5_0, nw1_W5_1] at c1_6
              have z1_6 := isRow_lt r1_6
              have r6_6 : IsRow W6 (W5.heap.size) := by rw [e6]; simp [go_sem, r1_5, c1_5, nw1_W5_0, nw1_W5_1]
              have c6_6 := congrArg (fun x => blk x (W5.heap.size)) e6; simp [go_sem, r1_5, c1_5, nw1_W5_0, nw1_W5_1] at c6_6
              have z6_6 := isRow_lt r6_6
              have r7_6 : IsRow W6 (W5.heap.size + 1) := by rw [e6]; simp [go_sem, r1_5, c1_5, nw1_W5_0, nw1_W5_1]
              have c7_6 := congrArg (fun x => blk x (W5.heap.size + 1)) e6; simp [go_sem, r1_5, c1_5, nw1_W5_0, nw1_W5_1] at c7_6
              have z7_6 := isRow_lt r7_6
              have n1_6 : (w.heap.size) ≠ (W5.heap.size) := by omega
              have n1_7 : (w.heap.size) ≠ (W5.heap.size + 1) := by omega
              have n6_1 : (W5.heap.size) ≠ (w.heap.size) := by omega
              have n7_1 : (W5.heap.size + 1) ≠ (w.heap.size) := by omega
              clear e6 nw1_W5_0 nw1_W5_1 r1_5 c1_5 z1_5 hb5
              go_loopw [34] (fun s34 wr => ∃ l : Nat, l ≤ n ∧ s34 = .int .i64 l ∧ Below w.heap.size w wr ∧ (IsRow wr (w.heap.size) ∧ blk wr (w.heap.size) = blk W6 (w.heap.size)) ∧ (IsRow wr (W5.heap.size) ∧ blk wr (W5.heap.size) = blk W6 (W5.heap.size)) ∧ (IsRow wr (W5.heap.size + 1) ∧ blk wr (W5.heap.size + 1) = blk W6 (W5.heap.size + 1))) (fun s34 _ => n - (intOf s34).toNat)
              case atStart => exact ⟨0, by omega, rfl, hb6, ⟨r1_6, rfl⟩, ⟨r6_6, rfl⟩, ⟨r7_6, rfl⟩⟩
              case round =>
                obtain ⟨l, hle7, rfl, hb7, ⟨r1_7, c1_7⟩, ⟨r6_7, c6_7⟩, ⟨r7_7, c7_7⟩⟩ := hrel
                obtain ⟨W7, rfl⟩ : ∃ W7 : World, W7 = wr := ⟨_, rfl⟩
                have q7 := hb7.size
                have E1_7 := Lib.hid c1_6; replace c1_7 := c1_7.trans c1_6
                have z1_7 := isRow_lt r1_7
                have E6_7 := Lib.hid c6_6; replace c6_7 := c6_7.trans c6_6
                have z6_7 := isRow_lt r6_7
                have E7_7 := Lib.hid c7_6; replace c7_7 := c7_7.trans c7_6
                have z7_7 := isRow_lt r7_7
                clear r1_6 c1_6 z1_6 r6_6 c6_6 z6_6 r7_6 c7_6 z7_6 hb6
                by_cases hlt7 : l < n
                · skip
                  have i0_7 : (0 : Int) ≤ (l : Int) := by omega
                  have i8_7 : (l : Int) < 8 := by omega
                  have k8_7 : l < 8 := by omega
                  have m8_7 : l * 8 + 8 ≤ 64 := by omega
                  have m64_7 : l * 64 + 64 ≤ 512 := by omega
                  have l1_7 : 10 + l * 64 + 64 ≤ 522 := by omega
                  have l2_7i : 10 + i * 64 + l * 8 + 8 ≤ 522 := by omega
                  have l3_7i : 10 + l * 64 + i * 8 + 8 ≤ 522 := by omega
                  have l4_7i : i * 64 + l * 8 + 8 ≤ 512 := by omega
                  have l5_7i : l * 64 + i * 8 + 8 ≤ 512 := by omega
                  have l6_7i : i * 8 + l < 64 := by omega
                  have l7_7i : l * 8 + i < 64 := by omega
                  have l2_7j : 10 + j * 64 + l * 8 + 8 ≤ 522 := by omega
                  have l3_7j : 10 + l * 64 + j * 8 + 8 ≤ 522 := by omega
                  have l4_7j : j * 64 + l * 8 + 8 ≤ 512 := by omega
                  have l5_7j : l * 64 + j * 8 + 8 ≤ 512 := by omega
                  have l6_7j : j * 8 + l < 64 := by omega
                  have l7_7j : l * 8 + j < 64 := by omega
                  have l2_7k : 10 + k * 64 + l * 8 + 8 ≤ 522 := by omega
                  have l3_7k : 10 + l * 64 + k * 8 + 8 ≤ 522 := by omega
                  have l4_7k : k * 64 + l * 8 + 8 ≤ 512 := by omega
                  have l5_7k : l * 64 + k * 8 + 8 ≤ 512 := by omega
                  have l6_7k : k * 8 + l < 64 := by omega
                  have l7_7k : l * 8 + k < 64 := by omega
                  have h0 : cofA p n f i j k l = false := by rw [← cofM_idx (by omega) (by omega) (by omega)]; exact Hno.out _ (idx_lt (by omega) (by omega) (by omega) (by omega))
                  have h1 : (coL p f i j k n l != coR p f i j k n l) = false := h0
                  clear h0
                  go_wp2
                  refine wp_quiet_all (Below W7.heap.size W7) (by kernel_rfl) (by kernel_rfl) (Below.refl _ _).drew ?_
                  iterate 7 (refine q_plain rfl ?_; apply Exists.intro; refine ⟨fun W hW => ?_, ?_⟩; (focus (obtain ⟨x1, y1⟩ := keepB hW z1_7 r1_7 c1_7; obtain ⟨x6, y6⟩ := keepB hW z6_7 r6_7 c6_7; obtain ⟨x7, y7⟩ := keepB hW z7_7 r7_7 c7_7; go_simp; first | done | rfl)); simp only [Act.put, List.setIfInBounds_toArray, List.set_cons_zero, List.set_cons_succ])
                  refine wpQuiet_nil ?_
                  intro W8 hw8
                  obtain ⟨r1_8, c1_8⟩ := keepB hw8 z1_7 r1_7 c1_7
                  have z1_8 := isRow_lt r1_8
                  obtain ⟨r6_8, c6_8⟩ := keepB hw8 z6_7 r6_7 c6_7
                  have z6_8 := isRow_lt r6_8
                  obtain ⟨r7_8, c7_8⟩ := keepB hw8 z7_7 r7_7 c7_7
                  have z7_8 := isRow_lt r7_8
                  have hb8 := hb7.trans (hw8.mono hb7.size)
                  have q8 := hb8.size
                  clear hw8 r1_7 c1_7 z1_7 r6_7 c6_7 z6_7 r7_7 c7_7 z7_7 hb7
                  go_wp2
                  go_roundw
                  case rel => exact ⟨l + 1, by omega, by go_num, (by (repeat (first | exact hb8 | exact Below.refl _ _ | refine Below.alloc ?_ (by first | omega | (simp; try omega)) _ | refine below_setRow ?_ (by omega) _ | refine Below.drew ?_))), ⟨by simp [go_sem, r1_8, c1_8, n1_6, n1_7, r6_8, c6_8, n6_1, r7_8, c7_8, n7_1], (by rw [E1_7.out]; first | exact c1_8 | (simp [go_sem, r1_8, c1_8, n1_6, n1_7, r6_8, c6_8, n6_1, r7_8, c7_8, n7_1]; done))⟩, ⟨by simp [go_sem, r1_8, c1_8, n1_6, n1_7, r6_8, c6_8, n6_1, r7_8, c7_8, n7_1], (by rw [E6_7.out]; first | exact c6_8 | (simp [go_sem, r1_8, c1_8, n1_6, n1_7, r6_8, c6_8, n6_1, r7_8, c7_8, n7_1]; done))⟩, ⟨by simp [go_sem, r1_8, c1_8, n1_6, n1_7, r6_8, c6_8, n6_1, r7_8, c7_8, n7_1], (by rw [E7_7.out]; first | exact c7_8 | (simp [go_sem, r1_8, c1_8, n1_6, n1_7, r6_8, c6_8, n6_1, r7_8, c7_8, n7_1]; done))⟩⟩
                  case measure => simp [intOf]; omega
                · skip
                  obtain rfl : n = l := by omega
                  go_wp2
                  go_roundw
                  case rel => exact ⟨k + 1, by omega, by go_num, (by (repeat (first | exact hb7 | exact Below.refl _ _ | refine Below.alloc ?_ (by first | omega | (simp; try omega)) _ | refine below_setRow ?_ (by omega) _ | refine Below.drew ?_))), ⟨by simp [go_sem, r1_7, c1_7, n1_6, n1_7, r6_7, c6_7, n6_1, r7_7, c7_7, n7_1], (by rw [E1_4.out]; first | exact c1_7 | (simp [go_sem, r1_7, c1_7, n1_6, n1_7, r6_7, c6_7, n6_1, r7_7, c7_7, n7_1]; done))⟩⟩
                  case measure => simp [intOf]; omega
            · skip
              obtain rfl : n = k := by omega
              go_wp2
              go_roundw
              case rel => exact ⟨j + 1, by omega, by go_num, (by (repeat (first | exact hb4 | exact Below.refl _ _ | refine Below.alloc ?_ (by first | omega | (simp; try omega)) _ | refine below_setRow ?_ (by omega) _ | refine Below.drew ?_))), ⟨by simp [go_sem, r1_4, c1_4], (by rw [E1_3.out]; first | exact c1_4 | (simp [go_sem, r1_4, c1_4]; done))⟩⟩
              case measure => simp [intOf]; omega
        · skip
          obtain rfl : n = j := by omega
          go_wp2
          go_roundw
          case rel => exact ⟨i + 1, by omega, by go_num, (by (repeat (first | exact hb3 | exact Below.refl _ _ | refine Below.alloc ?_ (by first | omega | (simp; try omega)) _ | refine below_setRow ?_ (by omega) _ | refine Below.drew ?_))), ⟨by simp [go_sem, r1_3, c1_3], (by rw [E1_2.out]; first | exact c1_3 | (simp [go_sem, r1_3, c1_3]; done))⟩⟩
          case measure => simp [intOf]; omega
    · skip
      obtain rfl : n = i := by omega
      go_wp2_with fail
      go_ret
      exact ⟨rfl, (by (repeat (first | exact hb2 | exact Below.refl _ _ | refine Below.alloc ?_ (by first | omega | (simp; try omega)) _ | refine below_setRow ?_ (by omega) _ | refine Below.drew ?_)))⟩

set_option maxRecDepth 100000 in
set_option maxHeartbeats 1000000 in
theorem findCoFault_some (p : Int) (n : Nat) (f : Nat → Int) (m : Nat) (w : World) (hp : 0 < p) (hp' : p ≤ 255) (hn : n ≤ 8) (hF : Bytes 520 f) (hfi : FirstCo p n f m) :
    Calls Try.prog 99 #[.agg (alg p n f)] w fun e w' => ∃ b, e = .returned (.slice (some ⟨b, 0, none⟩) 4 4) ∧ Below w.heap.size w w' ∧ w.heap.size ≤ b ∧ IsRow w' b ∧ blk w' b = nums 4 (q4 n m) := by
  have HF := Lib.hid hF; clear hF
  have Hfi := Lib.hid hfi; clear hfi
  go_enter Try.func99, Try.ntmps99
  go_wp2
  refine atomW fun W1 e1 => ?_
  have hb1 : Below w.heap.size w W1 := by rw [e1]; (repeat (first | exact Below.refl _ _ | refine Below.alloc ?_ (by first | omega | (simp; try omega)) _ | refine below_setRow ?_ (by omega) _ | refine Below.drew ?_))
  have q1 := hb1.size
  have r1_1 : IsRow W1 (w.heap.size) := by rw [e1]; simp [go_sem]
  have c1_1 := congrArg (fun x => blk x (w.heap.size)) e1; simp [go_sem] at c1_1
  have z1_1 := isRow_lt r1_1
  clear e1
  go_loopw [11] (fun s11 wr => ∃ i : Nat, i ≤ n ∧ s11 = .int .i64 i ∧ Below w.heap.size w wr ∧ (IsRow wr (w.heap.size) ∧ blk wr (w.heap.size) = blk W1 (w.heap.size)) ∧ idx n i 0 0 0 ≤ m) (fun s11 _ => n - (intOf s11).toNat)
  case atStart => exact ⟨0, by omega, rfl, hb1, ⟨r1_1, rfl⟩, by simp [idx]⟩
  case round =>
    obtain ⟨i, hle2, rfl, hb2, ⟨r1_2, c1_2⟩, hx2⟩ := hrel
    obtain ⟨W2, rfl⟩ : ∃ W2 : World, W2 = wr := ⟨_, rfl⟩
    have q2 := hb2.size
    have HX2 := Lib.hid hx2; clear hx2
    have E1_2 := Lib.hid c1_1; replace c1_2 := c1_2.trans c1_1
    have z1_2 := isRow_lt r1_2
    clear r1_1 c1_1 z1_1 hb1
    by_cases hlt2 : i < n
    · skip
      have i0_2 : (0 : Int) ≤ (i : Int) := by omega
      have i8_2 : (i : Int) < 8 := by omega
      have k8_2 : i < 8 := by omega
      have m8_2 : i * 8 + 8 ≤ 64 := by omega
      have m64_2 : i * 64 + 64 ≤ 512 := by omega
      have l1_2 : 10 + i * 64 + 64 ≤ 522 := by omega
      go_wp2
      go_loopw [16] (fun s16 wr => ∃ j : Nat, j ≤ n ∧ s16 = .int .i64 j ∧ Below w.heap.size w wr ∧ (IsRow wr (w.heap.size) ∧ blk wr (w.heap.size) = blk W2 (w.heap.size)) ∧ idx n i j 0 0 ≤ m) (fun s16 _ => n - (intOf s16).toNat)
      case atStart => exact ⟨0, by omega, rfl, hb2, ⟨r1_2, rfl⟩, HX2.out⟩
      case round =>
        obtain ⟨j, hle3, rfl, hb3, ⟨r1_3, c1_3⟩, hx3⟩ := hrel
        obtain ⟨W3, rfl⟩ : ∃ W3 : World, W3 = wr := ⟨_, rfl⟩
        have q3 := hb3.size
        have HX3 := Lib.hid hx3; clear hx3
        have E1_3 := Lib.hid c1_2; replace c1_3 := c1_3.trans c1_2
        have z1_3 := isRow_lt r1_3
        clear r1_2 c1_2 z1_2 hb2
        by_cases hlt3 : j < n
        · skip
          have i0_3 : (0 : Int) ≤ (j : Int) := by omega
          have i8_3 : (j : Int) < 8 := by omega
          have k8_3 : j < 8 := by omega
          have m8_3 : j * 8 + 8 ≤ 64 := by omega
          have m64_3 : j * 64 + 64 ≤ 512 := by omega
          have l1_3 : 10 + j * 64 + 64 ≤ 522 := by omega
          have l2_3i : 10 + i * 64 + j * 8 + 8 ≤ 522 := by omega
          have l3_3i : 10 + j * 64 + i * 8 + 8 ≤ 522 := by omega
          have l4_3i : i * 64 + j * 8 + 8 ≤ 512 := by omega
          have l5_3i : j * 64 + i * 8 + 8 ≤ 512 := by omega
          have l6_3i : i * 8 + j < 64 := by omega
          have l7_3i : j * 8 + i < 64 := by omega
          go_wp2
          go_loopw [21] (fun s21 wr => ∃ k : Nat, k ≤ n ∧ s21 = .int .i64 k ∧ Below w.heap.size w wr ∧ (IsRow wr (w.heap.size) ∧ blk wr (w.heap.size) = blk W3 (w.heap.size)) ∧ idx n i j k 0 ≤ m) (fun s21 _ => n - (intOf s21).toNat)
          case atStart => exact ⟨0, by omega, rfl, hb3, ⟨r1_3, rfl⟩, HX3.out⟩
          case round =>
            obtain ⟨k, hle4, rfl, hb4, ⟨r1_4, c1_4⟩, hx4⟩ := hrel
            obtain ⟨W4, rfl⟩ : ∃ W4 : World, W4 = wr := ⟨_, rfl⟩
            have q4 := hb4.size
            have HX4 := Lib.hid hx4; clear hx4
            have E1_4 := Lib.hid c1_3; replace c1_4 := c1_4.trans c1_3
            have z1_4 := isRow_lt r1_4
            clear r1_3 c1_3 z1_3 hb3
            by_cases hlt4 : k < n
            · skip
              have i0_4 : (0 : Int) ≤ (k : Int) := by omega
              have i8_4 : (k : Int) < 8 := by omega
              have k8_4 : k < 8 := by omega
              have m8_4 : k * 8 + 8 ≤ 64 := by omega
              have m64_4 : k * 64 + 64 ≤ 512 := by omega
              have l1_4 : 10 + k * 64 + 64 ≤ 522 := by omega
              have l2_4i : 10 + i * 64 + k * 8 + 8 ≤ 522 := by omega
              have l3_4i : 10 + k * 64 + i * 8 + 8 ≤ 522 := by omega
              have l4_4i : i * 64 + k * 8 + 8 ≤ 512 := by omega
              have l5_4i : k * 64 + i * 8 + 8 ≤ 512 := by omega
              have l6_4i : i * 8 + k < 64 := by omega
              have l7_4i : k * 8 + i < 64 := by omega
              have l2_4j : 10 + j * 64 + k * 8 + 8 ≤ 522 := by omega
              have l3_4j : 10 + k * 64 + j * 8 + 8 ≤ 522 := by omega
              have l4_4j : j * 64 + k * 8 + 8 ≤ 512 := by omega
              have l5_4j : k * 64 + j * 8 + 8 ≤ 512 := by omega
              have l6_4j : j * 8 + k < 64 := by omega
              have l7_4j : k * 8 + j < 64 := by omega
              go_wp2_with fail
              refine (coassociativitySums_any p n f i j k _ hp hp' hn (by omega) (by omega) (by omega) HF.out).mono ?_; rintro _ W5 ⟨rfl, hw5⟩
              obtain ⟨r1_5, c1_5⟩ := keepB hw5 z1_4 r1_4 c1_4
              have z1_5 := isRow_lt r1_5
              have hb5 := hb4.trans (hw5.mono hb4.size)
              have q5 := hb5.size
              clear hw5 r1_4 c1_4 z1_4 hb4
              go_wp2
              have nw1_W5_0 : (w.heap.size) ≠ W5.heap.size := by omega
              have nw1_W5_1 : (w.heap.size) ≠ W5.heap.size + 1 := by omega
              refine atomW fun W6 e6 => ?_
              have hb6 : Below w.heap.size w W6 := by rw [e6]; (repeat (first | exact hb5 | exact Below.refl _ _ | refine Below.alloc ?_ (by first | omega | (simp; try omega)) _ | refine below_setRow ?_ (by omega) _ | refine Below.drew ?_))
              have q6 := hb6.size
              have r1_6 : IsRow W6 (w.heap.size) := by rw [e6]; simp [go_sem, r1_5, c1_5, nw1_W5_0, nw1_W5_1]
              have c1_6 := congrArg (fun x => blk x (w.heap.size)) e6; simp [go_sem, r1_5, c1_5, nw1_W5_0, nw1_W5_1] at c1_6
              have z1_6 := isRow_lt r1_6
              have r6_6 : IsRow W6 (W5.heap.size) := by rw [e6]; simp [go_sem, r1_5, c1_5, nw1_W5_0, nw1_W5_1]
              have c6_6 := congrArg (fun x => blk x (W5.heap.size)) e6; simp [go_sem, r1_5, c1_5, nw1_W5_0, nw1_W5_1] at c6_6
              have z6_6 := isRow_lt r6_6
              have r7_6 : IsRow W6 (W5.heap.size + 1) := by rw [e6]; simp [go_sem, r1_5, c1_5, nw1_W5_0, nw1_W5_1]
              have c7_6 := congrArg (fun x => blk x (W5.heap.size + 1)) e6; simp [go_sem, r1_5, c1_5, nw1_W5_0, nw1_W5_1] at c7_6
              have z7_6 := isRow_lt r7_6
              have n1_6 : (w.heap.size) ≠ (W5.heap.size) := by omega
              have n1_7 : (w.heap.size) ≠ (W5.heap.size + 1) := by omega
              have n6_1 : (W5.heap.size) ≠ (w.heap.size) := by omega
              have n7_1 : (W5.heap.size + 1) ≠ (w.heap.size) := by omega
              clear e6 nw1_W5_0 nw1_W5_1 r1_5 c1_5 z1_5 hb5
              go_loopw [34] (fun s34 wr => ∃ l : Nat, l ≤ n ∧ s34 = .int .i64 l ∧ Below w.heap.size w wr ∧ (IsRow wr (w.heap.size) ∧ blk wr (w.heap.size) = blk W6 (w.heap.size)) ∧ (IsRow wr (W5.heap.size) ∧ blk wr (W5.heap.size) = blk W6 (W5.heap.size)) ∧ (IsRow wr (W5.heap.size + 1) ∧ blk wr (W5.heap.size + 1) = blk W6 (W5.heap.size + 1)) ∧ idx n i j k l ≤ m) (fun s34 _ => n - (intOf s34).toNat)
              case atStart => exact ⟨0, by omega, rfl, hb6, ⟨r1_6, rfl⟩, ⟨r6_6, rfl⟩, ⟨r7_6, rfl⟩, HX4.out⟩
              case round =>
                obtain ⟨l, hle7, rfl, hb7, ⟨r1_7, c1_7⟩, ⟨r6_7, c6_7⟩, ⟨r7_7, c7_7⟩, hx7⟩ := hrel
                obtain ⟨W7, rfl⟩ : ∃ W7 : World, W7 = wr := ⟨_, rfl⟩
                have q7 := hb7.size
                have HX7 := Lib.hid hx7; clear hx7
                have E1_7 := Lib.hid c1_6; replace c1_7 := c1_7.trans c1_6
                have z1_7 := isRow_lt r1_7
                have E6_7 := Lib.hid c6_6; replace c6_7 := c6_7.trans c6_6
                have z6_7 := isRow_lt r6_7
                have E7_7 := Lib.hid c7_6; replace c7_7 := c7_7.trans c7_6
                have z7_7 := isRow_lt r7_7
                clear r1_6 c1_6 z1_6 r6_6 c6_6 z6_6 r7_6 c7_6 z7_6 hb6
                by_cases hlt7 : l < n
                · skip
                  have i0_7 : (0 : Int) ≤ (l : Int) := by omega
                  have i8_7 : (l : Int) < 8 := by omega
                  have k8_7 : l < 8 := by omega
                  have m8_7 : l * 8 + 8 ≤ 64 := by omega
                  have m64_7 : l * 64 + 64 ≤ 512 := by omega
                  have l1_7 : 10 + l * 64 + 64 ≤ 522 := by omega
                  have l2_7i : 10 + i * 64 + l * 8 + 8 ≤ 522 := by omega
                  have l3_7i : 10 + l * 64 + i * 8 + 8 ≤ 522 := by omega
                  have l4_7i : i * 64 + l * 8 + 8 ≤ 512 := by omega
                  have l5_7i : l * 64 + i * 8 + 8 ≤ 512 := by omega
                  have l6_7i : i * 8 + l < 64 := by omega
                  have l7_7i : l * 8 + i < 64 := by omega
                  have l2_7j : 10 + j * 64 + l * 8 + 8 ≤ 522 := by omega
                  have l3_7j : 10 + l * 64 + j * 8 + 8 ≤ 522 := by omega
                  have l4_7j : j * 64 + l * 8 + 8 ≤ 512 := by omega
                  have l5_7j : l * 64 + j * 8 + 8 ≤ 512 := by omega
                  have l6_7j : j * 8 + l < 64 := by omega
                  have l7_7j : l * 8 + j < 64 := by omega
                  have l2_7k : 10 + k * 64 + l * 8 + 8 ≤ 522 := by omega
                  have l3_7k : 10 + l * 64 + k * 8 + 8 ≤ 522 := by omega
                  have l4_7k : k * 64 + l * 8 + 8 ≤ 512 := by omega
                  have l5_7k : l * 64 + k * 8 + 8 ≤ 512 := by omega
                  have l6_7k : k * 8 + l < 64 := by omega
                  have l7_7k : l * 8 + k < 64 := by omega
                  cases h0 : cofA p n f i j k l
                  · skip
                    have h1 : (coL p f i j k n l != coR p f i j k n l) = false := h0
                    have h2 := Lib.hid (first_past Hfi.out HX7.out (by omega) (by omega) (by omega) h0)
                    clear h0
                    go_wp2
                    refine wp_quiet_all (Below W7.heap.size W7) (by kernel_rfl) (by kernel_rfl) (Below.refl _ _).drew ?_
                    iterate 7 (refine q_plain rfl ?_; apply Exists.intro; refine ⟨fun W hW => ?_, ?_⟩; (focus (obtain ⟨x1, y1⟩ := keepB hW z1_7 r1_7 c1_7; obtain ⟨x6, y6⟩ := keepB hW z6_7 r6_7 c6_7; obtain ⟨x7, y7⟩ := keepB hW z7_7 r7_7 c7_7; go_simp; first | done | rfl)); simp only [Act.put, List.setIfInBounds_toArray, List.set_cons_zero, List.set_cons_succ])
                    refine wpQuiet_nil ?_
                    intro W8 hw8
                    obtain ⟨r1_8, c1_8⟩ := keepB hw8 z1_7 r1_7 c1_7
                    have z1_8 := isRow_lt r1_8
                    obtain ⟨r6_8, c6_8⟩ := keepB hw8 z6_7 r6_7 c6_7
                    have z6_8 := isRow_lt r6_8
                    obtain ⟨r7_8, c7_8⟩ := keepB hw8 z7_7 r7_7 c7_7
                    have z7_8 := isRow_lt r7_8
                    have hb8 := hb7.trans (hw8.mono hb7.size)
                    have q8 := hb8.size
                    clear hw8 r1_7 c1_7 z1_7 r6_7 c6_7 z6_7 r7_7 c7_7 z7_7 hb7
                    go_wp2
                    go_roundw
                    case rel => exact ⟨l + 1, by omega, by go_num, (by (repeat (first | exact hb8 | exact Below.refl _ _ | refine Below.alloc ?_ (by first | omega | (simp; try omega)) _ | refine below_setRow ?_ (by omega) _ | refine Below.drew ?_))), ⟨by simp [go_sem, r1_8, c1_8, n1_6, n1_7, r6_8, c6_8, n6_1, r7_8, c7_8, n7_1], (by rw [E1_7.out]; first | exact c1_8 | (simp [go_sem, r1_8, c1_8, n1_6, n1_7, r6_8, c6_8, n6_1, r7_8, c7_8, n7_1]; done))⟩, ⟨by simp [go_sem, r1_8, c1_8, n1_6, n1_7, r6_8, c6_8, n6_1, r7_8, c7_8, n7_1], (by rw [E6_7.out]; first | exact c6_8 | (simp [go_sem, r1_8, c1_8, n1_6, n1_7, r6_8, c6_8, n6_1, r7_8, c7_8, n7_1]; done))⟩, ⟨by simp [go_sem, r1_8, c1_8, n1_6, n1_7, r6_8, c6_8, n6_1, r7_8, c7_8, n7_1], (by rw [E7_7.out]; first | exact c7_8 | (simp [go_sem, r1_8, c1_8, n1_6, n1_7, r6_8, c6_8, n6_1, r7_8, c7_8, n7_1]; done))⟩, h2.out⟩
                    case measure => simp [intOf]; omega
                  · skip
                    have h1 : (coL p f i j k n l != coR p f i j k n l) = true := h0
                    have h2 := Lib.hid (first_at Hfi.out HX7.out (by omega) (by omega) (by omega) h0)
                    have h3 := Lib.hid (q4_idx (n := n) (i := i) (j := j) (k := k) (l := l) (by omega) (by omega) (by omega))
                    clear h0
                    go_wp2
                    refine wp_quiet_all (Below W7.heap.size W7) (by kernel_rfl) (by kernel_rfl) (Below.refl _ _).drew ?_
                    iterate 7 (refine q_plain rfl ?_; apply Exists.intro; refine ⟨fun W hW => ?_, ?_⟩; (focus (obtain ⟨x1, y1⟩ := keepB hW z1_7 r1_7 c1_7; obtain ⟨x6, y6⟩ := keepB hW z6_7 r6_7 c6_7; obtain ⟨x7, y7⟩ := keepB hW z7_7 r7_7 c7_7; go_simp; first | done | rfl)); simp only [Act.put, List.setIfInBounds_toArray, List.set_cons_zero, List.set_cons_succ])
                    refine wpQuiet_nil ?_
                    intro W9 hw9
                    obtain ⟨r1_9, c1_9⟩ := keepB hw9 z1_7 r1_7 c1_7
                    have z1_9 := isRow_lt r1_9
                    obtain ⟨r6_9, c6_9⟩ := keepB hw9 z6_7 r6_7 c6_7
                    have z6_9 := isRow_lt r6_9
                    obtain ⟨r7_9, c7_9⟩ := keepB hw9 z7_7 r7_7 c7_7
                    have z7_9 := isRow_lt r7_9
                    have hb9 := hb7.trans (hw9.mono hb7.size)
                    have q9 := hb9.size
                    clear hw9 r1_7 c1_7 z1_7 r6_7 c6_7 z6_7 r7_7 c7_7 z7_7 hb7
                    have nw1_W9_0 : (w.heap.size) ≠ W9.heap.size := by omega
                    have nw6_W9_0 : (W5.heap.size) ≠ W9.heap.size := by omega
                    have nw7_W9_0 : (W5.heap.size + 1) ≠ W9.heap.size := by omega
                    go_wp2_with fail
                    go_ret
                    refine ⟨_, rfl, (by (repeat (first | exact hb9 | exact Below.refl _ _ | refine Below.alloc ?_ (by first | omega | (simp; try omega)) _ | refine below_setRow ?_ (by omega) _ | refine Below.drew ?_))), ?_, ?_, ?_⟩
                    · first | omega | (simp; omega)
                    · simp [go_sem, r1_9, c1_9, n1_6, n1_7, r6_9, c6_9, n6_1, r7_9, c7_9, n7_1]
                    · rw [h2.out, h3.out, ← t4_nums]; simp [go_sem, r1_9, c1_9, n1_6, n1_7, r6_9, c6_9, n6_1, r7_9, c7_9, n7_1]
                · skip
                  obtain rfl : n = l := by omega
                  have h0 := HX7.out; rw [idx_k] at h0
                  go_wp2
                  go_roundw
                  case rel => exact ⟨k + 1, by omega, by go_num, (by (repeat (first | exact hb7 | exact Below.refl _ _ | refine Below.alloc ?_ (by first | omega | (simp; try omega)) _ | refine below_setRow ?_ (by omega) _ | refine Below.drew ?_))), ⟨by simp [go_sem, r1_7, c1_7, n1_6, n1_7, r6_7, c6_7, n6_1, r7_7, c7_7, n7_1], (by rw [E1_4.out]; first | exact c1_7 | (simp [go_sem, r1_7, c1_7, n1_6, n1_7, r6_7, c6_7, n6_1, r7_7, c7_7, n7_1]; done))⟩, h0⟩
                  case measure => simp [intOf]; omega
            · skip
              obtain rfl : n = k := by omega
              have h0 := HX4.out; rw [idx_j] at h0
              go_wp2
              go_roundw
              case rel => exact ⟨j + 1, by omega, by go_num, (by (repeat (first | exact hb4 | exact Below.refl _ _ | refine Below.alloc ?_ (by first | omega | (simp; try omega)) _ | refine below_setRow ?_ (by omega) _ | refine Below.drew ?_))), ⟨by simp [go_sem, r1_4, c1_4], (by rw [E1_3.out]; first | exact c1_4 | (simp [go_sem, r1_4, c1_4]; done))⟩, h0⟩
              case measure => simp [intOf]; omega
        · skip
          obtain rfl : n = j := by omega
          have h0 := HX3.out; rw [idx_i] at h0
          go_wp2
          go_roundw
          case rel => exact ⟨i + 1, by omega, by go_num, (by (repeat (first | exact hb3 | exact Below.refl _ _ | refine Below.alloc ?_ (by first | omega | (simp; try omega)) _ | refine below_setRow ?_ (by omega) _ | refine Below.drew ?_))), ⟨by simp [go_sem, r1_3, c1_3], (by rw [E1_2.out]; first | exact c1_3 | (simp [go_sem, r1_3, c1_3]; done))⟩, h0⟩
          case measure => simp [intOf]; omega
    · skip
      obtain rfl : n = i := by omega
      have h0 := HX2.out; rw [idx_end] at h0
      exact absurd Hfi.out.1 (by omega)

end Go.Proofs.Ytnjjcimpcnennaa
