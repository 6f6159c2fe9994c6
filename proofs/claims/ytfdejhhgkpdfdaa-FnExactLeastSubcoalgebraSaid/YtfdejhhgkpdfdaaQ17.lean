/- The least subcoalgebra of a vector: both programs, and the law. -/
import Derived.Test.YtfdejhhgkpdfdaaQ16
import Derived.Test.YtfdejhhgkpdfdaaQ10
import Derived.Test.YtfdejhhgkpdfdaaQ14
import Derived.Test.YtfdejhhgkpdfdaaRegionF
namespace Go.Proofs.Ytfdejhhgkpdfdaa
open Go.RowKit
set_option linter.unusedSimpArgs false
set_option linter.unusedVariables false
attribute [local irreducible] wpQuiet wpQE

/-! ### a reduced list there is -/
theorem red_exists {p : Int} {g : Nat → Nat → Int} (hpr : prime31 p = true) : ∀ m, (∀ i, i < m → ∀ t, t < 8 → 0 ≤ g i t ∧ g i t < p) → ∃ R h l, Red p 8 R h l ∧ SameSpan p 8 m g R h := by
  have hp2 : 2 ≤ p := by
    have := hpr
    unfold prime31 at this
    simp only [Bool.and_eq_true, decide_eq_true_eq] at this
    exact this.1.1
  have hp : 0 < p := by omega
  intro m
  induction m with
  | zero => exact fun _ => ⟨0, g, fun _ => 0, red_none, same_none⟩
  | succ m ih =>
    intro hg
    obtain ⟨R, h, l, hR, hS⟩ := ih fun i hi => hg i (by omega)
    have base := same_trans (snoc_succ (p := p) (N := 8) (i := m) (g := g)) (snoc_congr hS)
    cases hz : segEq 0 8 (byG p h l (g m) R) zf
    · obtain ⟨q, hq, hlow, hne⟩ := first_place hz
      obtain ⟨k, _, _, _, _, _, hPR, hPS⟩ := put_facts hpr hp hR (hg m (by omega)) hq hlow hne
      exact ⟨_, _, _, hPR, same_trans base hPS⟩
    · have HS := snoc_same ((by_zero_iff hp hR.ech (hg m (by omega))).1 fun t ht => by have := (segEq_iff 0 8 _ _).1 hz t ht; rw [Nat.zero_add] at this; exact this)
      exact ⟨R, h, l, hR, same_trans base HS⟩
/-! ### the middles -/
/-- column l of A, the first k entries -/
def colP (A : Nat → Int) (l k : Nat) : Nat → Int := fun t => if t < k then A (t * 8 + l) else 0
theorem col_zero (A : Nat → Int) (l : Nat) : row 8 zf = row 8 (colP A l 0) := row_congr fun t _ => by unfold colP zf; rw [if_neg (by omega)]
theorem col_upd (A : Nat → Int) (l k : Nat) (y : Int) (hy : y = A (k * 8 + l)) : row 8 (upd (colP A l k) k y) = row 8 (colP A l (k + 1)) := row_congr fun t _ => by
  unfold upd colP
  by_cases h : t = k
  · subst h; rw [if_pos rfl, if_pos (by omega), hy]
  · rw [if_neg h]
    by_cases h2 : t < k
    · rw [if_pos h2, if_pos (by omega)]
    · rw [if_neg h2, if_neg (by omega)]
def firF (p : Int) (f v : Nat → Int) (n j : Nat) : Nat → Int := fun t => copS p f v n n 0 (j * 8 + t)
def nexF (p : Int) (f v : Nat → Int) (n j : Nat) : Nat → Int := copS p f (firF p f v n j) n n 0
def midF (p : Int) (f v : Nat → Int) (n : Nat) : Nat → Nat → Int := fun i => colP (nexF p f v n (i / n)) (i % n) n
theorem copS_range {p : Int} (hp : 0 < p) (f v : Nat → Int) (n i j t : Nat) : 0 ≤ copS p f v n i j t ∧ copS p f v n i j t < p := by
  unfold copS
  split
  · exact cop_range p hp f v i j t
  · omega
theorem col_range {p : Int} (hp : 0 < p) (f v : Nat → Int) (n l k t : Nat) : 0 ≤ colP (copS p f v n n 0) l k t ∧ colP (copS p f v n n 0) l k t < p := by
  unfold colP
  split
  · exact copS_range hp _ _ _ _ _ _
  · omega
theorem mid_at {p : Int} {f v : Nat → Int} {n j l : Nat} (hl : l < n) : midF p f v n (j * n + l) = colP (nexF p f v n j) l n := by
  unfold midF
  rw [Nat.mul_comm j n, Nat.mul_add_div (by omega), Nat.mul_add_mod, Nat.div_eq_of_lt hl, Nat.mod_eq_of_lt hl, Nat.add_zero]
/-- the program's middles, zeros among them -/
def ranF (p : Int) (f v : Nat → Int) : Nat → Nat → Int := fun i t => flipF (copF p f (fun t => copF p f v 8 (i / 8 * 8 + t)) 8) (i % 8 * 8 + t)
theorem copF_range {p : Int} (hp : 0 < p) (f v : Nat → Int) (m t : Nat) : 0 ≤ copF p f v m t ∧ copF p f v m t < p := by
  unfold copF
  exact ⟨Int.emod_nonneg _ (by omega), Int.emod_lt_of_pos _ hp⟩
theorem copF_congr {p : Int} {f u v : Nat → Int} (e : ∀ t, t < 8 → u t = v t) (t : Nat) : copF p f u 8 t = copF p f v 8 t := by
  unfold copF
  rw [sumTo_congr 8 fun i hi => by rw [e i hi]]
theorem ran_range {p : Int} (hp : 0 < p) (f v : Nat → Int) (i t : Nat) : 0 ≤ ranF p f v i t ∧ ranF p f v i t < p := by
  unfold ranF flipF
  exact copF_range hp _ _ _ _
theorem ran_at {p : Int} {n : Nat} {f v : Nat → Int} (hn : n ≤ 8) (h : shapeB p n f = true) {j c t : Nat} (hj : j < n) (hc : c < n) (ht : t < 8) : ranF p f v (j * 8 + c) t = colP (nexF p f v n j) c n t := by
  have e1 : (j * 8 + c) / 8 = j := by omega
  have e2 : (j * 8 + c) % 8 = c := by omega
  have e3 : (c * 8 + t) % 8 = t := by omega
  have e4 : (c * 8 + t) / 8 = c := by omega
  unfold ranF flipF colP nexF
  rw [e1, e2, e3, e4]
  have e5 : copF p f (fun t => copF p f v 8 (j * 8 + t)) 8 (t * 8 + c) = copS p f (firF p f v n j) n n 0 (t * 8 + c) := by
    rw [cop_same hn h _ (by omega)]
    exact copF_congr (fun s hs => by unfold firF; rw [cop_same hn h _ (by omega)]) _
  rw [e5]
  split
  · rfl
  · unfold copS
    rw [if_neg (by omega)]
theorem ran_out {p : Int} {n : Nat} {f v : Nat → Int} (hn : n ≤ 8) (h : shapeB p n f = true) {j c t : Nat} (hj : j < 8) (hc : c < 8) (ho : n ≤ j ∨ n ≤ c) (ht : t < 8) : ranF p f v (j * 8 + c) t = 0 := by
  have e1 : (j * 8 + c) / 8 = j := by omega
  have e2 : (j * 8 + c) % 8 = c := by omega
  have e3 : (c * 8 + t) % 8 = t := by omega
  have e4 : (c * 8 + t) / 8 = c := by omega
  have z : ∀ i k, i < 8 → k < 8 → n ≤ c → mtab f i k c = 0 := fun i k hi hk hnc => by
    have := (shape_entry h i k c hi hk hc).2
    omega
  have z2 : ∀ i s, i < 8 → s < 8 → n ≤ j → mtab f i j s = 0 := fun i s hi hs hnj => by
    have := (shape_entry h i j s hi hj hs).2
    omega
  unfold ranF flipF
  rw [e1, e2, e3, e4]
  unfold copF
  have e6 : (t * 8 + c) / 8 = t := by omega
  have e7 : (t * 8 + c) % 8 = c := by omega
  rw [e6, e7, sumTo_zero 8 fun i hi => ?_]
  · simp
  · rcases ho with ho | ho
    · have e8 : (j * 8 + i) / 8 = j := by omega
      have e9 : (j * 8 + i) % 8 = i := by omega
      have : sumTo (fun x => v x * mtab f x j i) 8 = 0 := sumTo_zero 8 fun x hx => by rw [z2 x i hx hi ho, Int.mul_zero]
      dsimp only
      rw [e8, e9, this]
      simp
    · rw [z i t hi ht ho, Int.mul_zero]
theorem ran_same {p : Int} {n : Nat} {f v : Nat → Int} (hn : n ≤ 8) (h : shapeB p n f = true) : SameSpan p 8 64 (ranF p f v) (n * n) (midF p f v n) := by
  constructor
  · intro i hi
    by_cases ho : i / 8 < n ∧ i % 8 < n
    · have hk : i / 8 * n + i % 8 < n * n := by
        have := Nat.mul_le_mul_right n (show i / 8 + 1 ≤ n by omega)
        rw [Nat.add_mul] at this
        omega
      refine span_congr (span_self hk) fun t ht => ?_
      rw [mid_at ho.2]
      have := ran_at (v := v) hn h ho.1 ho.2 ht
      rw [show i / 8 * 8 + i % 8 = i by omega] at this
      rw [this]
    · refine span_zero fun t ht => ?_
      have := ran_out (v := v) hn h (j := i / 8) (c := i % 8) (by omega) (by omega) (by omega) ht
      rw [show i / 8 * 8 + i % 8 = i by omega] at this
      rw [this]; simp
  · intro k hk
    have h0 : 0 < n := by
      rcases Nat.eq_zero_or_pos n with e | e
      · subst e; simp at hk
      · exact e
    have hj : k / n < n := (Nat.div_lt_iff_lt_mul h0).2 hk
    have hc := Nat.mod_lt k h0
    have hi : k / n * 8 + k % n < 64 := by omega
    refine span_congr (span_self hi) fun t ht => ?_
    rw [ran_at hn h hj hc ht]
    rfl

theorem snoc_mid {p : Int} {f v : Nat → Int} {n j l : Nat} (hl : l < n) : SameSpan p 8 (j * n + l + 1) (midF p f v n) (j * n + l + 1) (snocG (midF p f v n) (j * n + l) (colP (nexF p f v n j) l n)) := by
  have := snoc_succ (p := p) (N := 8) (g := midF p f v n) (i := j * n + l)
  rwa [mid_at hl] at this
theorem same_none' {p : Int} {n : Nat} {f g : Nat → Nat → Int} : SameSpan p 8 (0 * n) g 0 f := by rw [Nat.zero_mul]; exact same_none
theorem same_next {p : Int} {n j k : Nat} {f g : Nat → Nat → Int} (h : SameSpan p 8 (j * n + n) g k f) : SameSpan p 8 ((j + 1) * n) g k f := by rw [Nat.add_mul, Nat.one_mul]; exact h

set_option maxRecDepth 100000 in
set_option maxHeartbeats 1000000 in
theorem l02Sub_any (p : Int) (n : Nat) (f v : Nat → Int) (w : World) (hp : 0 < p) (hp' : p ≤ 255) (hpr : prime31 p = true) (hn : n ≤ 8) (hF : Bytes 520 f) (hv : Bytes 8 v) :
    Calls Try.prog 108 #[.agg (alg p n f), .agg (row 8 v)] w fun e w' => ∃ a' m' c' g', e = .returned (.slice a' m' c') ∧ Below w.heap.size w w' ∧ VL w' w.heap.size w'.heap.size a' m' c' g' ∧ (∃ l', Red p 8 m' g' l') ∧ SameSpan p 8 (n * n) (midF p f v n) m' g' := by
  have Hpr := Lib.hid hpr; clear hpr
  have HF := Lib.hid hF; clear hF
  have Hv := Lib.hid hv; clear hv
  go_enter Try.func108, Try.ntmps108
  go_wp2_with fail
  refine atomC fun W1 e1 => ?_
  have hb1 : Below w.heap.size w W1 := by rw [e1]; (repeat (first | exact Below.refl _ _ | refine Below.alloc ?_ (by first | omega | (simp; try omega)) _ | refine below_setRow ?_ (by omega) _ | refine Below.drew ?_))
  have q1 := hb1.size
  have R1 : IsRow W1 (w.heap.size) ∧ IsRow W1 (w.heap.size + 2) := by rw [e1]; simp [go_sem]
  obtain ⟨r2_1, r12_1⟩ := R1
  have C1 := (⟨congrArg (blk · (w.heap.size)) e1, congrArg (blk · (w.heap.size + 2)) e1⟩ : _ ∧ _); simp [go_sem] at C1
  obtain ⟨c2_1, c12_1⟩ := C1
  have z2_1 := isRow_lt r2_1; have z12_1 := isRow_lt r12_1
  have lt52n1 : (w.heap.size) < (w.heap.size + 2) := by omega
  have hv5_1 := VL.empty (U := W1.heap.size) (Nat.le_refl _) z12_1 r12_1 c12_1 fun _ _ => 0
  have sz5_1 := z12_1
  clear e1
  refine (l02Coproduct_any _ _ _ _ _ hp hp' hn HF.out Hv.out).mono ?_; rintro _ W2 ⟨rfl, hw2⟩
  obtain ⟨r2_2, c2_2⟩ := keepB hw2 z2_1 r2_1 c2_1
  have z2_2 := isRow_lt r2_2
  have hb2 := hb1.trans (hw2.mono hb1.size)
  have q2 := hb2.size
  have sz2 := hw2.size
  have hv5_2 := hv5_1.below hw2 (by omega)
  clear hw2 hv5_1 r2_1 c2_1 z2_1 hb1
  go_wp2
  have nw2_W2_0 : (w.heap.size) ≠ W2.heap.size := by omega
  refine atomW fun W3 e3 => ?_
  have hb3 : Below w.heap.size w W3 := by rw [e3]; (repeat (first | exact hb2 | exact Below.refl _ _ | refine Below.alloc ?_ (by first | omega | (simp; try omega)) _ | refine below_setRow ?_ (by omega) _ | refine Below.drew ?_))
  have q3 := hb3.size
  have R3 : IsRow W3 (w.heap.size) ∧ IsRow W3 (W2.heap.size) := by rw [e3]; simp [go_sem, r2_2, c2_2, nw2_W2_0]
  obtain ⟨r2_3, r6_3⟩ := R3
  have C3 := (⟨congrArg (blk · (w.heap.size)) e3, congrArg (blk · (W2.heap.size)) e3⟩ : _ ∧ _); simp [go_sem, r2_2, c2_2, nw2_W2_0] at C3
  obtain ⟨c2_3, c6_3⟩ := C3
  have z2_3 := isRow_lt r2_3; have z6_3 := isRow_lt r6_3
  have n2_6 : (w.heap.size) ≠ (W2.heap.size) := by omega
  have n6_2 : (W2.heap.size) ≠ (w.heap.size) := by omega
  have hv5_3 : VL W3 (w.heap.size + 2) (W1.heap.size) (some ⟨w.heap.size + 2, 0, none⟩) (0) (0) (fun _ _ => 0) := by rw [e3]; (repeat (first | exact hv5_2 | refine VL.alloc ?_ _ | refine VL.drew ?_ | refine VL.setRow ?_ (by omega) _))
  clear e3 nw2_W2_0 r2_2 c2_2 z2_2 hv5_2 hb2
  go_loopw [5, 7] (fun s5 s7 wr => ∃ j : Nat, ∃ a5_4 : Option Addr, ∃ c5_4 : Nat, ∃ U5_4 : Nat, ∃ m5_4 : Nat, ∃ f5_4 : Nat → Nat → Int, j ≤ n ∧ s5 = .slice a5_4 (m5_4) c5_4 ∧ s7 = .int .i64 j ∧ Below w.heap.size w wr ∧ (IsRow wr (w.heap.size) ∧ blk wr (w.heap.size) = blk W3 (w.heap.size)) ∧ (IsRow wr (W2.heap.size) ∧ blk wr (W2.heap.size) = blk W3 (W2.heap.size)) ∧ VL wr (w.heap.size + 2) (U5_4) (a5_4) (m5_4) (c5_4) (f5_4) ∧ ((w.heap.size + 2) ≤ (U5_4) ∧ (U5_4) ≤ wr.heap.size) ∧ (∃ l', Red p 8 (m5_4) (f5_4) l') ∧ SameSpan p 8 (j * n) (midF p f v n) (m5_4) (f5_4)) (fun _ s7 _ => n - (intOf s7).toNat)
  case atStart => exact ⟨0, some ⟨w.heap.size + 2, 0, none⟩, 0, W1.heap.size, 0, fun _ _ => 0, by omega, (by first | rfl | (simp; done) | go_num), rfl, hb3, ⟨r2_3, rfl⟩, ⟨r6_3, rfl⟩, hv5_3, (by omega), ⟨⟨_, red_none⟩, same_none'⟩⟩
  case round =>
    obtain ⟨j, a5_4, c5_4, U5_4, m5_4, f5_4, hle4, rfl, rfl, hb4, ⟨r2_4, c2_4⟩, ⟨r6_4, c6_4⟩, hv5_4, hU5_4, hx4⟩ := hrel
    obtain ⟨W4, rfl⟩ : ∃ W4 : World, W4 = wr := ⟨_, rfl⟩
    have q4 := hb4.size
    have HX4 := Lib.hid hx4; clear hx4
    have E2_4 := Lib.hid c2_3; replace c2_4 := c2_4.trans c2_3
    have z2_4 := isRow_lt r2_4
    have E6_4 := Lib.hid c6_3; replace c6_4 := c6_4.trans c6_3
    have z6_4 := isRow_lt r6_4
    clear r2_3 c2_3 z2_3 r6_3 c6_3 z6_3 hb3 hv5_3
    by_cases hlt4 : j < n
    · skip
      have i0_4 : (0 : Int) ≤ (j : Int) := by omega
      have i8_4 : (j : Int) < 8 := by omega
      have k8_4 : j < 8 := by omega
      have m8_4 : j * 8 + 8 ≤ 64 := by omega
      have m64_4 : j * 64 + 64 ≤ 512 := by omega
      have l1_4 : 10 + j * 64 + 64 ≤ 522 := by omega
      have HFB : Hid (Bytes 8 (fun t => copS p f v n n 0 (j * 8 + t))) := Lib.hid fun t ht => copS_bytes hp hp' f v n n 0 (j * 8 + t)
      go_wp2
      refine wp_quiet_alloc 5 _ (.cells (row 64 zf) 30) (Below W4.heap.size W4) (Made W4 (row 64 zf)) (by kernel_rfl) rfl rfl (by kernel_rfl) (fun a W => (xallocLin _ _ _ _ _ _ _).trans (allocLin W)) (closed_below W4) (closed_made W4 _) (fun b W h => h.1) (fun W h => made_new W4 _ _ W h) (Below.refl _ _).drew ?_
      simp only [List.take_succ_cons, List.take_zero, List.drop_succ_cons, List.drop_zero]
      iterate 4 (refine e_plain rfl ?_; apply Exists.intro; refine ⟨fun D hD hK W hW => ?_, ?_⟩; (focus (obtain ⟨x2, y2⟩ := keepB (hD W hW) z2_4 r2_4 c2_4; obtain ⟨x6, y6⟩ := keepB (hD W hW) z6_4 r6_4 c6_4; unfold Oper.quietAt; go_simp; first | done | rfl)); simp only [Act.put, List.setIfInBounds_toArray, List.set_cons_zero, List.set_cons_succ])
      (refine e_plain rfl ?_; apply Exists.intro; refine ⟨fun D hD hK W hW => ?_, ?_⟩; (focus (obtain ⟨x2, y2⟩ := keepB (hD W hW) z2_4 r2_4 c2_4; obtain ⟨x6, y6⟩ := keepB (hD W hW) z6_4 r6_4 c6_4; unfold Oper.quietAt; go_simp; (go_at_call 81; exact (l02Coproduct_any _ _ _ _ _ hp hp' hn HF.out HFB.out).mono fun e w2 ⟨he, hw2⟩ => ⟨he, hK _ _ hW hw2⟩))); simp only [Act.put, List.setIfInBounds_toArray, List.set_cons_zero, List.set_cons_succ])
      refine e_nil ?_
      intro a5 W5 hW5
      obtain ⟨hw5, hl5, m1_5, m2_5⟩ := hW5
      have n2_8 : (w.heap.size) ≠ (a5) := by have := z2_4; omega
      have n8_2 : (a5) ≠ (w.heap.size) := by have := z2_4; omega
      have n6_8 : (W2.heap.size) ≠ (a5) := by have := z6_4; omega
      have n8_6 : (a5) ≠ (W2.heap.size) := by have := z6_4; omega
      obtain ⟨r2_5, c2_5⟩ := keepB hw5 z2_4 r2_4 c2_4
      have z2_5 := isRow_lt r2_5
      obtain ⟨r6_5, c6_5⟩ := keepB hw5 z6_4 r6_4 c6_4
      have z6_5 := isRow_lt r6_5
      have hb5 := hb4.trans (hw5.mono hb4.size)
      have q5 := hb5.size
      have sz5 := hw5.size
      have hv5_5 := hv5_4.below hw5 (by omega)
      clear hw5 hv5_4 r2_4 c2_4 z2_4 r6_4 c6_4 z6_4 hb4
      have z8_5 := isRow_lt m1_5
      simp only [Act.put, List.setIfInBounds_toArray, List.set_cons_zero, List.set_cons_succ]
      go_wp2
      refine atomW fun W6 e6 => ?_
      have hb6 : Below w.heap.size w W6 := by rw [e6]; (repeat (first | exact hb5 | exact Below.refl _ _ | refine Below.alloc ?_ (by first | omega | (simp; try omega)) _ | refine below_setRow ?_ (by omega) _ | refine Below.drew ?_))
      have q6 := hb6.size
      have R6 : IsRow W6 (w.heap.size) ∧ IsRow W6 (W2.heap.size) ∧ IsRow W6 (a5) := by rw [e6]; simp [go_sem, r2_5, c2_5, n2_6, n2_8, r6_5, c6_5, n6_2, n6_8, m1_5, m2_5, n8_2, n8_6]
      obtain ⟨r2_6, r6_6, r8_6⟩ := R6
      have C6 := (⟨congrArg (blk · (w.heap.size)) e6, congrArg (blk · (W2.heap.size)) e6, congrArg (blk · (a5)) e6⟩ : _ ∧ _ ∧ _); simp [go_sem, r2_5, c2_5, n2_6, n2_8, r6_5, c6_5, n6_2, n6_8, m1_5, m2_5, n8_2, n8_6] at C6
      obtain ⟨c2_6, c6_6, c8_6⟩ := C6
      have z2_6 := isRow_lt r2_6; have z6_6 := isRow_lt r6_6; have z8_6 := isRow_lt r8_6
      have hv5_6 : VL W6 (w.heap.size + 2) (U5_4) (a5_4) (m5_4) (c5_4) (f5_4) := by rw [e6]; (repeat (first | exact hv5_5 | refine VL.alloc ?_ _ | refine VL.drew ?_ | refine VL.setRow ?_ (by omega) _))
      clear e6 r2_5 c2_5 z2_5 r6_5 c6_5 z6_5 m1_5 m2_5 z8_5 hv5_5 hb5
      go_loopw [5, 9] (fun s5 s9 wr => ∃ l : Nat, ∃ a5_7 : Option Addr, ∃ c5_7 : Nat, ∃ U5_7 : Nat, ∃ m5_7 : Nat, ∃ f5_7 : Nat → Nat → Int, l ≤ n ∧ s5 = .slice a5_7 (m5_7) c5_7 ∧ s9 = .int .i64 l ∧ Below w.heap.size w wr ∧ (IsRow wr (w.heap.size) ∧ blk wr (w.heap.size) = blk W6 (w.heap.size)) ∧ (IsRow wr (W2.heap.size) ∧ blk wr (W2.heap.size) = blk W6 (W2.heap.size)) ∧ (IsRow wr (a5) ∧ blk wr (a5) = blk W6 (a5)) ∧ VL wr (w.heap.size + 2) (U5_7) (a5_7) (m5_7) (c5_7) (f5_7) ∧ ((w.heap.size + 2) ≤ (U5_7) ∧ (U5_7) ≤ wr.heap.size) ∧ (∃ l', Red p 8 (m5_7) (f5_7) l') ∧ SameSpan p 8 (j * n + l) (midF p f v n) (m5_7) (f5_7)) (fun _ s9 _ => n - (intOf s9).toNat)
      case atStart => exact ⟨0, a5_4, c5_4, U5_4, m5_4, f5_4, by omega, (by first | rfl | (simp; done) | go_num), rfl, hb6, ⟨r2_6, rfl⟩, ⟨r6_6, rfl⟩, ⟨r8_6, rfl⟩, hv5_6, (by omega), HX4.out⟩
      case round =>
        obtain ⟨l, a5_7, c5_7, U5_7, m5_7, f5_7, hle7, rfl, rfl, hb7, ⟨r2_7, c2_7⟩, ⟨r6_7, c6_7⟩, ⟨r8_7, c8_7⟩, hv5_7, hU5_7, hx7⟩ := hrel
        obtain ⟨W7, rfl⟩ : ∃ W7 : World, W7 = wr := ⟨_, rfl⟩
        have q7 := hb7.size
        have HX7 := Lib.hid hx7; clear hx7
        have E2_7 := Lib.hid c2_6; replace c2_7 := c2_7.trans c2_6
        have z2_7 := isRow_lt r2_7
        have E6_7 := Lib.hid c6_6; replace c6_7 := c6_7.trans c6_6
        have z6_7 := isRow_lt r6_7
        have E8_7 := Lib.hid c8_6; replace c8_7 := c8_7.trans c8_6
        have z8_7 := isRow_lt r8_7
        clear r2_6 c2_6 z2_6 r6_6 c6_6 z6_6 r8_6 c8_6 z8_6 hb6 hv5_6
        by_cases hlt7 : l < n
        · skip
          have i0_7 : (0 : Int) ≤ (l : Int) := by omega
          have i8_7 : (l : Int) < 8 := by omega
          have k8_7 : l < 8 := by omega
          have m8_7 : l * 8 + 8 ≤ 64 := by omega
          have m64_7 : l * 64 + 64 ≤ 512 := by omega
          have l1_7 : 10 + l * 64 + 64 ≤ 522 := by omega
          have l2_7j : 10 + j * 64 + l * 8 + 8 ≤ 522 := by omega
          have l3_7j : 10 + l * 64 + j * 8 + 8 ≤ 522 := by omega
          have l4_7j : j * 64 + l * 8 + 8 ≤ 512 := by omega
          have l5_7j : l * 64 + j * 8 + 8 ≤ 512 := by omega
          have l6_7j : j * 8 + l < 64 := by omega
          have l7_7j : l * 8 + j < 64 := by omega
          obtain ⟨l5, hl5⟩ := HX7.out.1
          have HL := Lib.hid hl5; clear hl5
          have hll := hlt7
          have HXl := HX7
          have HCR : Hid (∀ t, t < 8 → 0 ≤ colP (copS p f (fun t => copS p f v n n 0 (j * 8 + t)) n n 0) l n t ∧ colP (copS p f (fun t => copS p f v n n 0 (j * 8 + t)) n n 0) l n t < p) := Lib.hid fun t _ => col_range hp _ _ _ _ _ _
          go_wp2
          have nw2_W7_0 : (w.heap.size) ≠ W7.heap.size := by omega
          have nw6_W7_0 : (W2.heap.size) ≠ W7.heap.size := by omega
          have nw8_W7_0 : (a5) ≠ W7.heap.size := by omega
          refine atomW fun W8 e8 => ?_
          have hb8 : Below w.heap.size w W8 := by rw [e8]; (repeat (first | exact hb7 | exact Below.refl _ _ | refine Below.alloc ?_ (by first | omega | (simp; try omega)) _ | refine below_setRow ?_ (by omega) _ | refine Below.drew ?_))
          have q8 := hb8.size
          have R8 : IsRow W8 (w.heap.size) ∧ IsRow W8 (W2.heap.size) ∧ IsRow W8 (a5) ∧ IsRow W8 (W7.heap.size) := by rw [e8]; simp [go_sem, r2_7, c2_7, n2_6, n2_8, r6_7, c6_7, n6_2, n6_8, r8_7, c8_7, n8_2, n8_6, nw2_W7_0, nw6_W7_0, nw8_W7_0]
          obtain ⟨r2_8, r6_8, r8_8, r10_8⟩ := R8
          have C8 := (⟨congrArg (blk · (w.heap.size)) e8, congrArg (blk · (W2.heap.size)) e8, congrArg (blk · (a5)) e8, congrArg (blk · (W7.heap.size)) e8⟩ : _ ∧ _ ∧ _ ∧ _); simp [go_sem, r2_7, c2_7, n2_6, n2_8, r6_7, c6_7, n6_2, n6_8, r8_7, c8_7, n8_2, n8_6, nw2_W7_0, nw6_W7_0, nw8_W7_0] at C8
          obtain ⟨c2_8, c6_8, c8_8, c10_8⟩ := C8
          have z2_8 := isRow_lt r2_8; have z6_8 := isRow_lt r6_8; have z8_8 := isRow_lt r8_8; have z10_8 := isRow_lt r10_8
          have n2_10 : (w.heap.size) ≠ (W7.heap.size) := by omega
          have n6_10 : (W2.heap.size) ≠ (W7.heap.size) := by omega
          have n8_10 : (a5) ≠ (W7.heap.size) := by omega
          have n10_2 : (W7.heap.size) ≠ (w.heap.size) := by omega
          have n10_6 : (W7.heap.size) ≠ (W2.heap.size) := by omega
          have n10_8 : (W7.heap.size) ≠ (a5) := by omega
          have hv5_8 : VL W8 (w.heap.size + 2) (U5_7) (a5_7) (m5_7) (c5_7) (f5_7) := by rw [e8]; (repeat (first | exact hv5_7 | refine VL.alloc ?_ _ | refine VL.drew ?_ | refine VL.setRow ?_ (by omega) _))
          clear e8 nw2_W7_0 nw6_W7_0 nw8_W7_0 r2_7 c2_7 z2_7 r6_7 c6_7 z6_7 r8_7 c8_7 z8_7 hv5_7 hb7
          go_loopw [11] (fun s11 wr => ∃ k : Nat, k ≤ n ∧ s11 = .int .i64 k ∧ Below w.heap.size w wr ∧ (IsRow wr (w.heap.size) ∧ blk wr (w.heap.size) = blk W8 (w.heap.size)) ∧ (IsRow wr (W2.heap.size) ∧ blk wr (W2.heap.size) = blk W8 (W2.heap.size)) ∧ (IsRow wr (a5) ∧ blk wr (a5) = blk W8 (a5)) ∧ (IsRow wr (W7.heap.size) ∧ blk wr (W7.heap.size) = row 8 (colP (copS p f (fun t => copS p f v n n 0 (j * 8 + t)) n n 0) l k)) ∧ VL wr (w.heap.size + 2) (U5_7) (a5_7) (m5_7) (c5_7) (f5_7) ∧ ((w.heap.size + 2) ≤ (U5_7) ∧ (U5_7) ≤ wr.heap.size)) (fun s11 _ => n - (intOf s11).toNat)
          case atStart => exact ⟨0, by omega, rfl, hb8, ⟨r2_8, rfl⟩, ⟨r6_8, rfl⟩, ⟨r8_8, rfl⟩, ⟨r10_8, c10_8.trans (col_zero (copS p f (fun t => copS p f v n n 0 (j * 8 + t)) n n 0) l)⟩, hv5_8, (by omega)⟩
          case round =>
            obtain ⟨k, hle9, rfl, hb9, ⟨r2_9, c2_9⟩, ⟨r6_9, c6_9⟩, ⟨r8_9, c8_9⟩, ⟨r10_9, c10_9⟩, hv5_9, hU5_9⟩ := hrel
            obtain ⟨W9, rfl⟩ : ∃ W9 : World, W9 = wr := ⟨_, rfl⟩
            have q9 := hb9.size
            have E2_9 := Lib.hid c2_8; replace c2_9 := c2_9.trans c2_8
            have z2_9 := isRow_lt r2_9
            have E6_9 := Lib.hid c6_8; replace c6_9 := c6_9.trans c6_8
            have z6_9 := isRow_lt r6_9
            have E8_9 := Lib.hid c8_8; replace c8_9 := c8_9.trans c8_8
            have z8_9 := isRow_lt r8_9
            have z10_9 := isRow_lt r10_9
            clear r2_8 c2_8 z2_8 r6_8 c6_8 z6_8 r8_8 c8_8 z8_8 r10_8 c10_8 z10_8 hb8 hv5_8
            by_cases hlt9 : k < n
            · skip
              have i0_9 : (0 : Int) ≤ (k : Int) := by omega
              have i8_9 : (k : Int) < 8 := by omega
              have k8_9 : k < 8 := by omega
              have m8_9 : k * 8 + 8 ≤ 64 := by omega
              have m64_9 : k * 64 + 64 ≤ 512 := by omega
              have l1_9 : 10 + k * 64 + 64 ≤ 522 := by omega
              have l2_9j : 10 + j * 64 + k * 8 + 8 ≤ 522 := by omega
              have l3_9j : 10 + k * 64 + j * 8 + 8 ≤ 522 := by omega
              have l4_9j : j * 64 + k * 8 + 8 ≤ 512 := by omega
              have l5_9j : k * 64 + j * 8 + 8 ≤ 512 := by omega
              have l6_9j : j * 8 + k < 64 := by omega
              have l7_9j : k * 8 + j < 64 := by omega
              have l2_9l : 10 + l * 64 + k * 8 + 8 ≤ 522 := by omega
              have l3_9l : 10 + k * 64 + l * 8 + 8 ≤ 522 := by omega
              have l4_9l : l * 64 + k * 8 + 8 ≤ 512 := by omega
              have l5_9l : k * 64 + l * 8 + 8 ≤ 512 := by omega
              have l6_9l : l * 8 + k < 64 := by omega
              have l7_9l : k * 8 + l < 64 := by omega
              have HU := Lib.hid (col_upd (copS p f (fun t => copS p f v n n 0 (j * 8 + t)) n n 0) l k _ rfl)
              go_wp2
              go_roundw
              case rel => exact ⟨k + 1, by omega, by go_num, (by (repeat (first | exact hb9 | exact Below.refl _ _ | refine Below.alloc ?_ (by first | omega | (simp; try omega)) _ | refine below_setRow ?_ (by omega) _ | refine Below.drew ?_))), ⟨by simp [go_sem, r2_9, c2_9, n2_6, n2_8, n2_10, r6_9, c6_9, n6_2, n6_8, n6_10, r8_9, c8_9, n8_2, n8_6, n8_10, r10_9, c10_9, n10_2, n10_6, n10_8], (by rw [E2_9.out]; first | exact c2_9 | (simp [go_sem, r2_9, c2_9, n2_6, n2_8, n2_10, r6_9, c6_9, n6_2, n6_8, n6_10, r8_9, c8_9, n8_2, n8_6, n8_10, r10_9, c10_9, n10_2, n10_6, n10_8]; done))⟩, ⟨by simp [go_sem, r2_9, c2_9, n2_6, n2_8, n2_10, r6_9, c6_9, n6_2, n6_8, n6_10, r8_9, c8_9, n8_2, n8_6, n8_10, r10_9, c10_9, n10_2, n10_6, n10_8], (by rw [E6_9.out]; first | exact c6_9 | (simp [go_sem, r2_9, c2_9, n2_6, n2_8, n2_10, r6_9, c6_9, n6_2, n6_8, n6_10, r8_9, c8_9, n8_2, n8_6, n8_10, r10_9, c10_9, n10_2, n10_6, n10_8]; done))⟩, ⟨by simp [go_sem, r2_9, c2_9, n2_6, n2_8, n2_10, r6_9, c6_9, n6_2, n6_8, n6_10, r8_9, c8_9, n8_2, n8_6, n8_10, r10_9, c10_9, n10_2, n10_6, n10_8], (by rw [E8_9.out]; first | exact c8_9 | (simp [go_sem, r2_9, c2_9, n2_6, n2_8, n2_10, r6_9, c6_9, n6_2, n6_8, n6_10, r8_9, c8_9, n8_2, n8_6, n8_10, r10_9, c10_9, n10_2, n10_6, n10_8]; done))⟩, ⟨by simp [go_sem, r2_9, c2_9, n2_6, n2_8, n2_10, r6_9, c6_9, n6_2, n6_8, n6_10, r8_9, c8_9, n8_2, n8_6, n8_10, r10_9, c10_9, n10_2, n10_6, n10_8], (by first | (rw [blk_setRow _ _ _ _ r10_9, if_pos rfl]; exact HU.out) | exact (c10_9).trans (HU.out) | (simp [go_sem, r2_9, c2_9, n2_6, n2_8, n2_10, r6_9, c6_9, n6_2, n6_8, n6_10, r8_9, c8_9, n8_2, n8_6, n8_10, r10_9, c10_9, n10_2, n10_6, n10_8]; exact HU.out))⟩, (by (repeat (first | exact hv5_9 | refine VL.alloc ?_ _ | refine VL.drew ?_ | refine VL.setRow ?_ (by omega) _))), (by first | omega | (constructor <;> first | omega | (simp; done) | (simp; omega)))⟩
              case measure => simp [intOf]; try omega
            · skip
              obtain rfl : n = k := by omega
              go_wp2_with fail
              have lt52n10 : (w.heap.size) < W9.heap.size := z2_9
              have lt56n10 : (W2.heap.size) < W9.heap.size := z6_9
              have lt58n10 : (a5) < W9.heap.size := z8_9
              refine (l01Put_any p (colP (copS p f (fun t => copS p f v n n 0 (j * 8 + t)) n n 0) l n) _ _ _ _ _ _ _ _ hp hp' Hpr.out (by omega) (by omega) HCR.out hv5_9 HL.out).mono ?_; rintro _ W10 ⟨a5_10, m5_10, c5_10, f5_10, rfl, hw10, hv5_10, hr10, hs10⟩
              obtain ⟨r2_10, c2_10⟩ := keepB hw10 z2_9 r2_9 c2_9
              have z2_10 := isRow_lt r2_10
              obtain ⟨r6_10, c6_10⟩ := keepB hw10 z6_9 r6_9 c6_9
              have z6_10 := isRow_lt r6_10
              obtain ⟨r8_10, c8_10⟩ := keepB hw10 z8_9 r8_9 c8_9
              have z8_10 := isRow_lt r8_10
              have hb10 := hb9.trans (hw10.mono hb9.size)
              have q10 := hb10.size
              clear hw10 r2_9 c2_9 z2_9 r6_9 c6_9 z6_9 r8_9 c8_9 z8_9 hb9
              have HRr := Lib.hid hr10; clear hr10
              have HSs := Lib.hid hs10; clear hs10
              go_wp2
              go_roundw
              case rel => exact ⟨l + 1, (a5_10), (c5_10), (W10.heap.size), (m5_10), (f5_10), by omega, (by first | rfl | go_num | (simp; done)), by go_num, (by (repeat (first | exact hb10 | exact Below.refl _ _ | refine Below.alloc ?_ (by first | omega | (simp; try omega)) _ | refine below_setRow ?_ (by omega) _ | refine Below.drew ?_))), ⟨by simp [go_sem, r2_10, c2_10, n2_6, n2_8, n2_10, r6_10, c6_10, n6_2, n6_8, n6_10, r8_10, c8_10, n8_2, n8_6, n8_10], (by rw [E2_7.out]; first | exact c2_10 | (simp [go_sem, r2_10, c2_10, n2_6, n2_8, n2_10, r6_10, c6_10, n6_2, n6_8, n6_10, r8_10, c8_10, n8_2, n8_6, n8_10]; done))⟩, ⟨by simp [go_sem, r2_10, c2_10, n2_6, n2_8, n2_10, r6_10, c6_10, n6_2, n6_8, n6_10, r8_10, c8_10, n8_2, n8_6, n8_10], (by rw [E6_7.out]; first | exact c6_10 | (simp [go_sem, r2_10, c2_10, n2_6, n2_8, n2_10, r6_10, c6_10, n6_2, n6_8, n6_10, r8_10, c8_10, n8_2, n8_6, n8_10]; done))⟩, ⟨by simp [go_sem, r2_10, c2_10, n2_6, n2_8, n2_10, r6_10, c6_10, n6_2, n6_8, n6_10, r8_10, c8_10, n8_2, n8_6, n8_10], (by rw [E8_7.out]; first | exact c8_10 | (simp [go_sem, r2_10, c2_10, n2_6, n2_8, n2_10, r6_10, c6_10, n6_2, n6_8, n6_10, r8_10, c8_10, n8_2, n8_6, n8_10]; done))⟩, (by (repeat (first | exact hv5_10 | refine VL.alloc ?_ _ | refine VL.drew ?_ | refine VL.setRow ?_ (by omega) _))), (by first | omega | (constructor <;> first | omega | (simp; done) | (simp; omega))), ⟨HRr.out, same_trans (snoc_mid hll) (same_trans (snoc_congr HXl.out.2) HSs.out)⟩⟩
              case measure => simp [intOf]; try omega
        · skip
          obtain rfl : n = l := by omega
          go_wp2
          go_roundw
          case rel => exact ⟨j + 1, (a5_7), (c5_7), (U5_7), (m5_7), (f5_7), by omega, (by first | rfl | go_num | (simp; done)), by go_num, (by (repeat (first | exact hb7 | exact Below.refl _ _ | refine Below.alloc ?_ (by first | omega | (simp; try omega)) _ | refine below_setRow ?_ (by omega) _ | refine Below.drew ?_))), ⟨by simp [go_sem, r2_7, c2_7, n2_6, n2_8, r6_7, c6_7, n6_2, n6_8, r8_7, c8_7, n8_2, n8_6], (by rw [E2_4.out]; first | exact c2_7 | (simp [go_sem, r2_7, c2_7, n2_6, n2_8, r6_7, c6_7, n6_2, n6_8, r8_7, c8_7, n8_2, n8_6]; done))⟩, ⟨by simp [go_sem, r2_7, c2_7, n2_6, n2_8, r6_7, c6_7, n6_2, n6_8, r8_7, c8_7, n8_2, n8_6], (by rw [E6_4.out]; first | exact c6_7 | (simp [go_sem, r2_7, c2_7, n2_6, n2_8, r6_7, c6_7, n6_2, n6_8, r8_7, c8_7, n8_2, n8_6]; done))⟩, (by (repeat (first | exact hv5_7 | refine VL.alloc ?_ _ | refine VL.drew ?_ | refine VL.setRow ?_ (by omega) _))), (by first | omega | (constructor <;> first | omega | (simp; done) | (simp; omega))), ⟨HX7.out.1, same_next HX7.out.2⟩⟩
          case measure => simp [intOf]; try omega
    · skip
      obtain rfl : n = j := by omega
      go_wp2_with fail
      go_ret
      exact ⟨_, _, _, _, rfl, (by (repeat (first | exact hb4 | exact Below.refl _ _ | refine Below.alloc ?_ (by first | omega | (simp; try omega)) _ | refine below_setRow ?_ (by omega) _ | refine Below.drew ?_))), (hv5_4).wider (by omega) (by omega), HX4.out.1, HX4.out.2⟩

/-! ### the answer -/
def IsSub (p : Int) (f v : Nat → Int) (R : Nat) (h : Nat → Nat → Int) : Prop := (∃ l, Red p 8 R h l) ∧ SameSpan p 8 64 (ranF p f v) R h
theorem sub_exists {p : Int} {f v : Nat → Int} (hpr : prime31 p = true) (hp : 0 < p) : ∃ R h, IsSub p f v R h := by
  obtain ⟨R, h, l, h1, h2⟩ := red_exists hpr 64 (g := ranF p f v) fun i _ t _ => ran_range hp f v i t
  exact ⟨R, h, ⟨l, h1⟩, h2⟩
open Classical in
noncomputable def subN (p n : Int) (f v : Nat → Int) : Nat := if h : okC p n f 1 (nth v) = true ∧ ∃ R h, IsSub p f v R h then h.2.choose else 0
open Classical in
noncomputable def subG (p n : Int) (f v : Nat → Int) : Nat → Nat → Int := if h : okC p n f 1 (nth v) = true ∧ ∃ R h, IsSub p f v R h then h.2.choose_spec.choose else fun _ _ => 0
theorem sub_yes {p n : Int} {f v : Nat → Int} (h : okC p n f 1 (nth v) = true) (hpr : prime31 p = true) (hp : 0 < p) : IsSub p f v (subN p n f v) (subG p n f v) := by
  have h1 : okC p n f 1 (nth v) = true ∧ ∃ R h, IsSub p f v R h := ⟨h, sub_exists hpr hp⟩
  unfold subN subG
  rw [dif_pos h1, dif_pos h1]
  exact h1.2.choose_spec.choose_spec
theorem sub_no {p n : Int} {f v : Nat → Int} (h : okC p n f 1 (nth v) = false) : subN p n f v = 0 := by
  unfold subN
  rw [dif_neg (fun x => by rw [x.1] at h; cases h)]
theorem sub_le (p n : Int) (f v : Nat → Int) : subN p n f v ≤ 8 := by
  unfold subN
  split
  · rename_i h
    obtain ⟨l, hl⟩ := h.2.choose_spec.choose_spec.1
    exact red_le hl
  · omega
theorem l02Sub_at (p : Int) (n : Nat) (f v : Nat → Int) (R : Nat) (h : Nat → Nat → Int) (w : World) (hp : 0 < p) (hp' : p ≤ 255) (hpr : prime31 p = true) (hn : n ≤ 8) (hF : Bytes 520 f) (hv : Bytes 8 v) (hs : shapeB p n f = true) (hI : IsSub p f v R h) :
    Calls Try.prog 108 #[.agg (alg p n f), .agg (row 8 v)] w fun e w' => ∃ a c, e = .returned (.slice a R c) ∧ Below w.heap.size w w' ∧ VL w' w.heap.size w'.heap.size a R c h :=
  (l02Sub_any p n f v w hp hp' hpr hn hF hv).mono fun e w' hh => by
    obtain ⟨a, m, c, g, rfl, h2, h3, ⟨l, h4⟩, h5⟩ := hh
    obtain ⟨⟨l', h6⟩, h7⟩ := hI
    have h2p : 2 ≤ p := by
      unfold prime31 at hpr
      simp only [Bool.and_eq_true, decide_eq_true_eq] at hpr
      exact hpr.1.1
    obtain ⟨rfl, e⟩ := red_unique h2p h4 h6 (same_trans (same_symm h5) (same_trans (same_symm (ran_same hn hs)) h7))
    exact ⟨a, c, rfl, h2, h3.same rfl e⟩
theorem ran_add {p : Int} {f v : Nat → Int} {i : Nat} : ∀ k, k < i * 8 + 8 → ∀ t, t < 8 → addVs (ranF p f v) (i * 8) 0 (flipF (copF p f (fun t => copF p f v 8 (i * 8 + t)) 8)) k t = ranF p f v k t := fun k hk t ht => by
  unfold addVs
  by_cases h : k < i * 8
  · rw [if_pos h]
  · rw [if_neg h]
    unfold ranF
    rw [show k / 8 = i by omega, show 0 + ((k - i * 8) * 8 + t) = k % 8 * 8 + t by omega]
theorem flipB64 {F : Nat → Int} (h : Bytes 64 F) : Bytes 64 (flipF F) := fun t ht => h _ (by omega)
theorem copF_bytes {p : Int} (hp : 0 < p) (hp' : p ≤ 255) (f v : Nat → Int) (m k : Nat) : Bytes k (copF p f v m) := fun t _ => by have := copF_range hp f v m t; omega

set_option maxRecDepth 100000 in
set_option maxHeartbeats 1000000 in
theorem leastSub_any (p n : Int) (f v : Nat → Int) (w : World) (hF : Bytes 520 f) (hv : Bytes 8 v) :
    Calls Try.prog 56 #[.agg (alg p n f), .agg (row 8 v)] w fun e w' => ∃ a c, e = .returned (.tuple #[.slice a (subN p n f v) c, .int .i64 (codeB (okC p n f 1 (nth v)))]) ∧ Below w.heap.size w w' ∧ VL w' w.heap.size w'.heap.size a (subN p n f v) c (subG p n f v) := by
  have HF := Lib.hid hF; clear hF
  have Hv := Lib.hid hv; clear hv
  cases hc : okC p n f 1 (nth v)
  · skip
    have HR := Lib.hid (sub_no hc)
    go_enter Try.func56, Try.ntmps56
    go_wp2_with fail
    refine atomC fun W1 e1 => ?_
    have hb1 : Below w.heap.size w W1 := by rw [e1]; (repeat (first | exact Below.refl _ _ | refine Below.alloc ?_ (by first | omega | (simp; try omega)) _ | refine below_setRow ?_ (by omega) _ | refine Below.drew ?_))
    have q1 := hb1.size
    have R1 : IsRow W1 (w.heap.size) ∧ IsRow W1 (w.heap.size + 1) ∧ IsRow W1 (w.heap.size + 2) := by rw [e1]; simp [go_sem]
    obtain ⟨r2_1, r3_1, r12_1⟩ := R1
    have C1 := (⟨congrArg (blk · (w.heap.size)) e1, congrArg (blk · (w.heap.size + 1)) e1, congrArg (blk · (w.heap.size + 2)) e1⟩ : _ ∧ _ ∧ _); simp [go_sem] at C1
    obtain ⟨c2_1, c3_1, c12_1⟩ := C1
    have z2_1 := isRow_lt r2_1; have z3_1 := isRow_lt r3_1; have z12_1 := isRow_lt r12_1
    clear e1
    refine (isCoWith_any _ _ _ _ 0 1 1 (nth v) _ HF.out (by omega) r12_1 (vecs_one c12_1 Hv.out)).mono ?_; rintro _ W2 ⟨rfl, hw2⟩
    obtain ⟨r2_2, c2_2⟩ := keepB hw2 z2_1 r2_1 c2_1
    have z2_2 := isRow_lt r2_2
    obtain ⟨r3_2, c3_2⟩ := keepB hw2 z3_1 r3_1 c3_1
    have z3_2 := isRow_lt r3_2
    obtain ⟨r12_2, c12_2⟩ := keepB hw2 z12_1 r12_1 c12_1
    have z12_2 := isRow_lt r12_2
    have hb2 := hb1.trans (hw2.mono hb1.size)
    have q2 := hb2.size
    clear hw2 r2_1 c2_1 z2_1 r3_1 c3_1 z3_1 r12_1 c12_1 z12_1 hb1
    go_wp2_with fail
    go_ret2
    exact ⟨none, 0, by rw [HR.out]; rfl, (by (repeat (first | exact hb2 | exact Below.refl _ _ | refine Below.alloc ?_ (by first | omega | (simp; try omega)) _ | refine below_setRow ?_ (by omega) _ | refine Below.drew ?_))), VL.nilOf (HR.out)⟩
  · skip
    have hsz := co_sizes (okC_co hc)
    obtain ⟨hp2, hp31, hn1, hn8⟩ := sizes_range hsz
    have Hpr : Hid (prime31 p = true) := Lib.hid (by unfold sizesB at hsz; simp only [Bool.and_eq_true] at hsz; exact hsz.1)
    clear hsz
    obtain ⟨n, rfl⟩ := Int.eq_ofNat_of_zero_le (show 0 ≤ n by omega)
    have hn : n ≤ 8 := by omega
    have hp : 0 < p := by omega
    have hp' : p ≤ 255 := by omega
    have HI := Lib.hid (sub_yes hc Hpr.out hp)
    go_enter Try.func56, Try.ntmps56
    go_wp2_with fail
    refine atomC fun W3 e3 => ?_
    have hb3 : Below w.heap.size w W3 := by rw [e3]; (repeat (first | exact Below.refl _ _ | refine Below.alloc ?_ (by first | omega | (simp; try omega)) _ | refine below_setRow ?_ (by omega) _ | refine Below.drew ?_))
    have q3 := hb3.size
    have R3 : IsRow W3 (w.heap.size) ∧ IsRow W3 (w.heap.size + 1) ∧ IsRow W3 (w.heap.size + 2) := by rw [e3]; simp [go_sem]
    obtain ⟨r2_3, r3_3, r12_3⟩ := R3
    have C3 := (⟨congrArg (blk · (w.heap.size)) e3, congrArg (blk · (w.heap.size + 1)) e3, congrArg (blk · (w.heap.size + 2)) e3⟩ : _ ∧ _ ∧ _); simp [go_sem] at C3
    obtain ⟨c2_3, c3_3, c12_3⟩ := C3
    have z2_3 := isRow_lt r2_3; have z3_3 := isRow_lt r3_3; have z12_3 := isRow_lt r12_3
    clear e3
    refine (isCoWith_any _ _ _ _ 0 1 1 (nth v) _ HF.out (by omega) r12_3 (vecs_one c12_3 Hv.out)).mono ?_; rintro _ W4 ⟨rfl, hw4⟩
    obtain ⟨r2_4, c2_4⟩ := keepB hw4 z2_3 r2_3 c2_3
    have z2_4 := isRow_lt r2_4
    obtain ⟨r3_4, c3_4⟩ := keepB hw4 z3_3 r3_3 c3_3
    have z3_4 := isRow_lt r3_4
    obtain ⟨r12_4, c12_4⟩ := keepB hw4 z12_3 r12_3 c12_3
    have z12_4 := isRow_lt r12_4
    have hb4 := hb3.trans (hw4.mono hb3.size)
    have q4 := hb4.size
    clear hw4 r2_3 c2_3 z2_3 r3_3 c3_3 z3_3 r12_3 c12_3 z12_3 hb3
    go_wp2_with fail
    refine (coproduct_any _ _ _ _ _ hp hp' HF.out Hv.out).mono ?_; rintro _ W5 ⟨rfl, hw5⟩
    obtain ⟨r2_5, c2_5⟩ := keepB hw5 z2_4 r2_4 c2_4
    have z2_5 := isRow_lt r2_5
    have hb5 := hb4.trans (hw5.mono hb4.size)
    have q5 := hb5.size
    clear hw5 r2_4 c2_4 z2_4 hb4
    go_wp2
    have lt62n6 : (w.heap.size) < W5.heap.size := z2_5
    go_loopw [6, 18] (fun s6 s18 wr => ∃ i : Nat, ∃ a6_6 : Option Addr, ∃ c6_6 : Nat, ∃ U6_6 : Nat, i ≤ 8 ∧ s6 = .slice a6_6 (i * 8) c6_6 ∧ s18 = .int .i64 i ∧ Below w.heap.size w wr ∧ (IsRow wr (w.heap.size) ∧ blk wr (w.heap.size) = blk W5 (w.heap.size)) ∧ VL wr (W5.heap.size) (U6_6) (a6_6) (i * 8) (c6_6) (ranF p f v) ∧ ((W5.heap.size) ≤ (U6_6) ∧ (U6_6) ≤ wr.heap.size)) (fun _ s18 _ => 8 - (intOf s18).toNat)
    case atStart => exact ⟨0, none, 0, W5.heap.size, by omega, rfl, rfl, hb5, ⟨r2_5, rfl⟩, VL.nil _ _ _ _, (by omega)⟩
    case round =>
      obtain ⟨i, a6_6, c6_6, U6_6, hle6, rfl, rfl, hb6, ⟨r2_6, c2_6⟩, hv6_6, hU6_6⟩ := hrel
      obtain ⟨W6, rfl⟩ : ∃ W6 : World, W6 = wr := ⟨_, rfl⟩
      have q6 := hb6.size
      have E2_6 := Lib.hid c2_5; replace c2_6 := c2_6.trans c2_5
      have z2_6 := isRow_lt r2_6
      clear r2_5 c2_5 z2_5 hb5
      by_cases hlt6 : i < 8
      · skip
        have i0_6 : (0 : Int) ≤ (i : Int) := by omega
        have i8_6 : (i : Int) < 8 := by omega
        have k8_6 : i < 8 := by omega
        have m8_6 : i * 8 + 8 ≤ 64 := by omega
        have m64_6 : i * 64 + 64 ≤ 512 := by omega
        have l1_6 : 10 + i * 64 + 64 ≤ 522 := by omega
        have HVI : Hid (Bytes 8 (fun t => copF p f v 8 (i * 8 + t))) := Lib.hid fun t ht => copF_bytes hp hp' f v 8 64 (i * 8 + t) (by omega)
        have HFL : Hid (Bytes 64 (copF p f (fun t => copF p f v 8 (i * 8 + t)) 8)) := Lib.hid (copF_bytes hp hp' _ _ _ _)
        have HFB : Hid (Bytes 64 (flipF (copF p f (fun t => copF p f v 8 (i * 8 + t)) 8))) := Lib.hid (flipB64 HFL.out)
        go_wp2_with fail
        have nw2_W6_0 : (w.heap.size) ≠ W6.heap.size := by omega
        refine atomC fun W7 e7 => ?_
        have hb7 : Below w.heap.size w W7 := by rw [e7]; (repeat (first | exact hb6 | exact Below.refl _ _ | refine Below.alloc ?_ (by first | omega | (simp; try omega)) _ | refine below_setRow ?_ (by omega) _ | refine Below.drew ?_))
        have q7 := hb7.size
        have r2_7 : IsRow W7 (w.heap.size) := by rw [e7]; simp [go_sem, r2_6, c2_6, nw2_W6_0]
        have c2_7 := congrArg (fun x => blk x (w.heap.size)) e7; simp [go_sem, r2_6, c2_6, nw2_W6_0] at c2_7
        have z2_7 := isRow_lt r2_7
        have sz7 : W6.heap.size ≤ W7.heap.size := by rw [e7]; first | omega | (simp; done) | (simp; omega)
        have hv6_7 : VL W7 (W5.heap.size) (U6_6) (a6_6) (i * 8) (c6_6) (ranF p f v) := by rw [e7]; (repeat (first | exact hv6_6 | refine VL.alloc ?_ _ | refine VL.drew ?_ | refine VL.setRow ?_ (by omega) _))
        clear e7 nw2_W6_0 r2_6 c2_6 z2_6 hv6_6 hb6
        refine (coproduct_any _ _ _ _ _ hp hp' HF.out HVI.out).mono ?_; rintro _ W8 ⟨rfl, hw8⟩
        obtain ⟨r2_8, c2_8⟩ := keepB hw8 z2_7 r2_7 c2_7
        have z2_8 := isRow_lt r2_8
        have hb8 := hb7.trans (hw8.mono hb7.size)
        have q8 := hb8.size
        have sz8 := hw8.size
        have hv6_8 := hv6_7.below hw8 (by omega)
        clear hw8 hv6_7 r2_7 c2_7 z2_7 hb7
        go_wp2_with fail
        refine (flipLinear_any _ _ HFL.out).mono ?_; rintro _ W9 ⟨rfl, hw9⟩
        obtain ⟨r2_9, c2_9⟩ := keepB hw9 z2_8 r2_8 c2_8
        have z2_9 := isRow_lt r2_9
        have hb9 := hb8.trans (hw9.mono hb8.size)
        have q9 := hb9.size
        have sz9 := hw9.size
        have hv6_9 := hv6_8.below hw9 (by omega)
        clear hw9 hv6_8 r2_8 c2_8 z2_8 hb8
        go_wp2_with (at_builtin; refine atomL ?_)
        have nw2_W9_0 : (w.heap.size) ≠ W9.heap.size := by omega
        intro W10 e10
        have hb10 : Below w.heap.size w W10 := by rw [e10]; (repeat (first | exact hb9 | exact Below.refl _ _ | refine Below.alloc ?_ (by first | omega | (simp; try omega)) _ | refine below_setRow ?_ (by omega) _ | refine Below.drew ?_))
        have q10 := hb10.size
        have R10 : IsRow W10 (w.heap.size) ∧ IsRow W10 (W9.heap.size) := by rw [e10]; simp [go_sem, r2_9, c2_9, nw2_W9_0]
        obtain ⟨r2_10, r9_10⟩ := R10
        have C10 := (⟨congrArg (blk · (w.heap.size)) e10, congrArg (blk · (W9.heap.size)) e10⟩ : _ ∧ _); simp [go_sem, r2_9, c2_9, nw2_W9_0] at C10
        obtain ⟨c2_10, c9_10⟩ := C10
        have z2_10 := isRow_lt r2_10; have z9_10 := isRow_lt r9_10
        have n2_9 : (w.heap.size) ≠ (W9.heap.size) := by omega
        have n9_2 : (W9.heap.size) ≠ (w.heap.size) := by omega
        have sz10 : W9.heap.size ≤ W10.heap.size := by rw [e10]; first | omega | (simp; done) | (simp; omega)
        have hv6_10 : VL W10 (W5.heap.size) (U6_6) (a6_6) (i * 8) (c6_6) (ranF p f v) := by rw [e10]; (repeat (first | exact hv6_9 | refine VL.alloc ?_ _ | refine VL.drew ?_ | refine VL.setRow ?_ (by omega) _))
        clear e10 nw2_W9_0 r2_9 c2_9 z2_9 hv6_9 hb9
        refine appendVs _ rfl _ _ rfl hv6_10 (by omega) rfl _ (0) (8) _ _ ((flipF (copF p f (fun t => copF p f v 8 (i * 8 + t)) 8))) rfl (by omega) (by omega) (by omega) c9_10 HFB.out ?_
        intro a6_11 c6_11 W11 hg11 ha11 hv6_11
        obtain ⟨r2_11, c2_11⟩ := keepG hg11 (hv6_10.ne (by omega)) r2_10 c2_10
        have z2_11 := isRow_lt r2_11
        obtain ⟨r9_11, c9_11⟩ := keepG hg11 (hv6_10.ne (by omega)) r9_10 c9_10
        have z9_11 := isRow_lt r9_11
        have hb11 := below_own hb10 hv6_10 hg11 (by omega) (by omega)
        have q11 := hb11.size
        have sz11 := hg11.size
        clear hg11 ha11 r2_10 c2_10 z2_10 r9_10 c9_10 z9_10 hv6_10 hb10
        go_wp2
        go_roundw
        case rel => exact ⟨i + 1, (a6_11), (c6_11), (W11.heap.size), by omega, (by rw [Nat.add_mul, Nat.one_mul]), by go_num, (by (repeat (first | exact hb11 | exact Below.refl _ _ | refine Below.alloc ?_ (by first | omega | (simp; try omega)) _ | refine below_setRow ?_ (by omega) _ | refine Below.drew ?_))), ⟨by simp [go_sem, r2_11, c2_11, n2_9, r9_11, c9_11, n9_2], (by rw [E2_6.out]; first | exact c2_11 | (simp [go_sem, r2_11, c2_11, n2_9, r9_11, c9_11, n9_2]; done))⟩, (hv6_11).same (by omega) ran_add, (by first | omega | (constructor <;> first | omega | (simp; done) | (simp; omega)))⟩
        case measure => simp [intOf]; try omega
      · skip
        obtain rfl : i = 8 := by omega
        obtain ⟨l0, hl0⟩ := HI.out.1
        have HL0 := Lib.hid hl0; clear hl0
        have HRN : Hid (∀ i, i < 64 → ∀ t, t < 8 → 0 ≤ ranF p f v i t ∧ ranF p f v i t < p) := Lib.hid fun i _ t _ => ran_range hp f v i t
        go_wp2_with fail
        refine (reduceVectors_any p _ _ _ (8 * 8) _ (subN p n f v) (ranF p f v) (subG p n f v) l0 _ hp hp' Hpr.out (by omega) (by omega) (by omega) HRN.out HL0.out HI.out.2 hv6_6).mono ?_; rintro _ W12 ⟨a4_12, c4_12, rfl, hw12, hv4_12⟩
        have hb12 := hb6.trans (hw12.mono hb6.size)
        have q12 := hb12.size
        have sz12 := hw12.size
        have hv6_12 := hv6_6.below hw12 (by omega)
        clear hw12 hv6_6 hb6
        go_wp2_with fail
        go_ret2
        exact ⟨a4_12, c4_12, rfl, (by (repeat (first | exact hb12 | exact Below.refl _ _ | refine Below.alloc ?_ (by first | omega | (simp; try omega)) _ | refine below_setRow ?_ (by omega) _ | refine Below.drew ?_))), (hv4_12).wider (by omega) (by omega)⟩

set_option maxRecDepth 100000 in
set_option maxHeartbeats 1000000 in
theorem specLeastSub_any (p n : Int) (f v : Nat → Int) (w : World) (hF : Bytes 520 f) (hv : Bytes 8 v) :
    Calls Try.prog 55 #[.agg (alg p n f), .agg (row 8 v)] w fun e w' => ∃ a c, e = .returned (.tuple #[.slice a (subN p n f v) c, .int .i64 (codeB (okC p n f 1 (nth v)))]) ∧ Below w.heap.size w w' ∧ VL w' w.heap.size w'.heap.size a (subN p n f v) c (subG p n f v) := by
  have HF := Lib.hid hF; clear hF
  have Hv := Lib.hid hv; clear hv
  cases hc : okC p n f 1 (nth v)
  · skip
    have HR := Lib.hid (sub_no hc)
    have hc1 : codeB false = 1 := rfl
    go_enter Try.func55, Try.ntmps55
    go_wp2_with fail
    refine atomC fun W1 e1 => ?_
    have hb1 : Below w.heap.size w W1 := by rw [e1]; (repeat (first | exact Below.refl _ _ | refine Below.alloc ?_ (by first | omega | (simp; try omega)) _ | refine below_setRow ?_ (by omega) _ | refine Below.drew ?_))
    have q1 := hb1.size
    have R1 : IsRow W1 (w.heap.size) ∧ IsRow W1 (w.heap.size + 1) ∧ IsRow W1 (w.heap.size + 2) := by rw [e1]; simp [go_sem]
    obtain ⟨r2_1, r3_1, r9_1⟩ := R1
    have C1 := (⟨congrArg (blk · (w.heap.size)) e1, congrArg (blk · (w.heap.size + 1)) e1, congrArg (blk · (w.heap.size + 2)) e1⟩ : _ ∧ _ ∧ _); simp [go_sem] at C1
    obtain ⟨c2_1, c3_1, c9_1⟩ := C1
    have z2_1 := isRow_lt r2_1; have z3_1 := isRow_lt r3_1; have z9_1 := isRow_lt r9_1
    clear e1
    refine (l02Code_any _ _ _ _ 0 1 1 (nth v) _ HF.out (by omega) r9_1 (vecs_one c9_1 Hv.out)).mono ?_; rintro _ W2 ⟨rfl, hw2⟩
    obtain ⟨r2_2, c2_2⟩ := keepB hw2 z2_1 r2_1 c2_1
    have z2_2 := isRow_lt r2_2
    obtain ⟨r3_2, c3_2⟩ := keepB hw2 z3_1 r3_1 c3_1
    have z3_2 := isRow_lt r3_2
    obtain ⟨r9_2, c9_2⟩ := keepB hw2 z9_1 r9_1 c9_1
    have z9_2 := isRow_lt r9_2
    have hb2 := hb1.trans (hw2.mono hb1.size)
    have q2 := hb2.size
    clear hw2 r2_1 c2_1 z2_1 r3_1 c3_1 z3_1 r9_1 c9_1 z9_1 hb1
    go_wp2_with fail
    go_ret2
    exact ⟨none, 0, by rw [HR.out]; rfl, (by (repeat (first | exact hb2 | exact Below.refl _ _ | refine Below.alloc ?_ (by first | omega | (simp; try omega)) _ | refine below_setRow ?_ (by omega) _ | refine Below.drew ?_))), VL.nilOf (HR.out)⟩
  · skip
    have hsz := co_sizes (okC_co hc)
    obtain ⟨hp2, hp31, hn1, hn8⟩ := sizes_range hsz
    have Hpr : Hid (prime31 p = true) := Lib.hid (by unfold sizesB at hsz; simp only [Bool.and_eq_true] at hsz; exact hsz.1)
    clear hsz
    obtain ⟨n, rfl⟩ := Int.eq_ofNat_of_zero_le (show 0 ≤ n by omega)
    have hn : n ≤ 8 := by omega
    have hp : 0 < p := by omega
    have hp' : p ≤ 255 := by omega
    have HI := Lib.hid (sub_yes hc Hpr.out hp)
    have HS := Lib.hid (co_shape (okC_co hc))
    have hc1 : codeB true = 0 := rfl
    go_enter Try.func55, Try.ntmps55
    go_wp2_with fail
    refine atomC fun W3 e3 => ?_
    have hb3 : Below w.heap.size w W3 := by rw [e3]; (repeat (first | exact Below.refl _ _ | refine Below.alloc ?_ (by first | omega | (simp; try omega)) _ | refine below_setRow ?_ (by omega) _ | refine Below.drew ?_))
    have q3 := hb3.size
    have R3 : IsRow W3 (w.heap.size) ∧ IsRow W3 (w.heap.size + 1) ∧ IsRow W3 (w.heap.size + 2) := by rw [e3]; simp [go_sem]
    obtain ⟨r2_3, r3_3, r9_3⟩ := R3
    have C3 := (⟨congrArg (blk · (w.heap.size)) e3, congrArg (blk · (w.heap.size + 1)) e3, congrArg (blk · (w.heap.size + 2)) e3⟩ : _ ∧ _ ∧ _); simp [go_sem] at C3
    obtain ⟨c2_3, c3_3, c9_3⟩ := C3
    have z2_3 := isRow_lt r2_3; have z3_3 := isRow_lt r3_3; have z9_3 := isRow_lt r9_3
    clear e3
    refine (l02Code_any _ _ _ _ 0 1 1 (nth v) _ HF.out (by omega) r9_3 (vecs_one c9_3 Hv.out)).mono ?_; rintro _ W4 ⟨rfl, hw4⟩
    obtain ⟨r2_4, c2_4⟩ := keepB hw4 z2_3 r2_3 c2_3
    have z2_4 := isRow_lt r2_4
    obtain ⟨r3_4, c3_4⟩ := keepB hw4 z3_3 r3_3 c3_3
    have z3_4 := isRow_lt r3_4
    obtain ⟨r9_4, c9_4⟩ := keepB hw4 z9_3 r9_3 c9_3
    have z9_4 := isRow_lt r9_4
    have hb4 := hb3.trans (hw4.mono hb3.size)
    have q4 := hb4.size
    clear hw4 r2_3 c2_3 z2_3 r3_3 c3_3 z3_3 r9_3 c9_3 z9_3 hb3
    go_wp2_with fail
    refine (l02Sub_at p n f v (subN p n f v) (subG p n f v) _ hp hp' Hpr.out hn HF.out Hv.out HS.out HI.out).mono ?_; rintro _ W5 ⟨a16_5, c16_5, rfl, hw5, hv16_5⟩
    have sz5 := hw5.size
    have hb5 := hb4.trans (hw5.mono hb4.size)
    have q5 := hb5.size
    clear hw5 hb4
    go_wp2_with fail
    go_ret2
    exact ⟨a16_5, c16_5, rfl, (by (repeat (first | exact hb5 | exact Below.refl _ _ | refine Below.alloc ?_ (by first | omega | (simp; try omega)) _ | refine below_setRow ?_ (by omega) _ | refine Below.drew ?_))), (hv16_5).wider (by omega) (by omega)⟩

set_option maxRecDepth 100000 in
set_option maxHeartbeats 2000000 in
theorem lawLeastSubcoalgebra (fp fn : Int) (f : Nat → Int) (v : Nat → Int) (w : World) (_wfp : (Lit.int .i64 fp).wf = true) (_wfn : (Lit.int .i64 fn).wf = true) (hf : Bytes 520 f) (hv : Bytes 8 v) :
    Calls Try.prog 14 #[.agg (alg fp fn f), .agg (row 8 v)] w fun e w' => e = .returned (.bool true) ∧ Below w.heap.size w w' := by
  have Hf := Lib.hid hf; clear hf
  have Hv := Lib.hid hv; clear hv
  have hm : subN fp fn f v ≤ 1000000 := Nat.le_trans (sub_le fp fn f v) (by omega)
  go_enter Try.func14, Try.ntmps14
  go_wp2
  refine atomW fun W1 e1 => ?_
  have hb1 : Below w.heap.size w W1 := by rw [e1]; (repeat (first | exact Below.refl _ _ | refine Below.alloc ?_ (by first | omega | (simp; try omega)) _ | refine below_setRow ?_ (by omega) _ | refine Below.drew ?_))
  have q1 := hb1.size
  have R1 : IsRow W1 (w.heap.size) ∧ IsRow W1 (w.heap.size + 1) := by rw [e1]; simp [go_sem]
  obtain ⟨r2_1, r3_1⟩ := R1
  have C1 := (⟨congrArg (blk · (w.heap.size)) e1, congrArg (blk · (w.heap.size + 1)) e1⟩ : _ ∧ _); simp [go_sem] at C1
  obtain ⟨c2_1, c3_1⟩ := C1
  have z2_1 := isRow_lt r2_1; have z3_1 := isRow_lt r3_1
  clear e1
  refine wp_quiet_tail_two 4 6 _ (by kernel_rfl) (by omega) (by kernel_rfl) (by kernel_rfl) (by kernel_rfl) (fun c a w d v h => by cases d <;> exact h) (Below.refl W1.heap.size W1).drew ?_
  simp only [List.take_succ_cons, List.take_zero, List.drop_succ_cons, List.drop_zero]
  iterate 1 (refine q_plain rfl ?_; apply Exists.intro; refine ⟨fun W hW => ?_, ?_⟩; (focus (obtain ⟨x2, y2⟩ := keepB hW z2_1 r2_1 c2_1; obtain ⟨x3, y3⟩ := keepB hW z3_1 r3_1 c3_1; go_simp; first | done | rfl)); simp only [Act.put, List.setIfInBounds_toArray, List.set_cons_zero, List.set_cons_succ])
  (refine q_plain rfl ?_; apply Exists.intro; refine ⟨fun W hW => ?_, ?_⟩; (focus (obtain ⟨x2, y2⟩ := keepB hW z2_1 r2_1 c2_1; obtain ⟨x3, y3⟩ := keepB hW z3_1 r3_1 c3_1; go_simp; (go_at_call 22; exact (toCoalgebra_any _ _ _ _).mono fun e w2 ⟨he, hw2⟩ => ⟨he, hW.trans (hw2.mono hW.size)⟩))); simp only [Act.put, List.setIfInBounds_toArray, List.set_cons_zero, List.set_cons_succ])
  iterate 1 (refine q_plain rfl ?_; apply Exists.intro; refine ⟨fun W hW => ?_, ?_⟩; (focus (obtain ⟨x2, y2⟩ := keepB hW z2_1 r2_1 c2_1; obtain ⟨x3, y3⟩ := keepB hW z3_1 r3_1 c3_1; go_simp; first | done | rfl)); simp only [Act.put, List.setIfInBounds_toArray, List.set_cons_zero, List.set_cons_succ])
  (refine q_plain rfl ?_; apply Exists.intro; refine ⟨fun W hW => ?_, ?_⟩; (focus (obtain ⟨x2, y2⟩ := keepB hW z2_1 r2_1 c2_1; obtain ⟨x3, y3⟩ := keepB hW z3_1 r3_1 c3_1; go_simp; (go_at_call 30; exact (toVector_any _ _).mono fun e w2 ⟨he, hw2⟩ => ⟨he, hW.trans (hw2.mono hW.size)⟩))); simp only [Act.put, List.setIfInBounds_toArray, List.set_cons_zero, List.set_cons_succ])
  refine wpQuiet_nil ?_
  intro W2 hw2
  obtain ⟨r2_2, c2_2⟩ := keepB hw2 z2_1 r2_1 c2_1
  have z2_2 := isRow_lt r2_2
  obtain ⟨r3_2, c3_2⟩ := keepB hw2 z3_1 r3_1 c3_1
  have z3_2 := isRow_lt r3_2
  have hb2 := hb1.trans (hw2.mono hb1.size)
  have q2 := hb2.size
  clear hw2 r2_1 c2_1 z2_1 r3_1 c3_1 z3_1 hb1
  go_wp2_with fail
  have ltS2n3 : (w.heap.size) < W2.heap.size := z2_2
  have ltS3n3 : (w.heap.size + 1) < W2.heap.size := z3_2
  refine (specLeastSub_any _ _ _ _ _ Hf.out Hv.out).mono ?_; rintro _ W3 ⟨aS_3, cS_3, rfl, hw3, hvS_3⟩
  have sz3 := hw3.size
  obtain ⟨r2_3, c2_3⟩ := keepB hw3 z2_2 r2_2 c2_2
  have z2_3 := isRow_lt r2_3
  obtain ⟨r3_3, c3_3⟩ := keepB hw3 z3_2 r3_2 c3_2
  have z3_3 := isRow_lt r3_3
  have hb3 := hb2.trans (hw3.mono hb2.size)
  have q3 := hb3.size
  clear hw3 r2_2 c2_2 z2_2 r3_2 c3_2 z3_2 hb2
  go_wp2
  refine wp_quiet_tail_two 4 6 _ (by kernel_rfl) (by omega) (by kernel_rfl) (by kernel_rfl) (by kernel_rfl) (fun c a w d v h => by cases d <;> exact h) (Below.refl W3.heap.size W3).drew ?_
  simp only [List.take_succ_cons, List.take_zero, List.drop_succ_cons, List.drop_zero]
  iterate 1 (refine q_plain rfl ?_; apply Exists.intro; refine ⟨fun W hW => ?_, ?_⟩; (focus (obtain ⟨x2, y2⟩ := keepB hW z2_3 r2_3 c2_3; obtain ⟨x3, y3⟩ := keepB hW z3_3 r3_3 c3_3; go_simp; first | done | rfl)); simp only [Act.put, List.setIfInBounds_toArray, List.set_cons_zero, List.set_cons_succ])
  (refine q_plain rfl ?_; apply Exists.intro; refine ⟨fun W hW => ?_, ?_⟩; (focus (obtain ⟨x2, y2⟩ := keepB hW z2_3 r2_3 c2_3; obtain ⟨x3, y3⟩ := keepB hW z3_3 r3_3 c3_3; go_simp; (go_at_call 22; exact (toCoalgebra_any _ _ _ _).mono fun e w2 ⟨he, hw2⟩ => ⟨he, hW.trans (hw2.mono hW.size)⟩))); simp only [Act.put, List.setIfInBounds_toArray, List.set_cons_zero, List.set_cons_succ])
  iterate 1 (refine q_plain rfl ?_; apply Exists.intro; refine ⟨fun W hW => ?_, ?_⟩; (focus (obtain ⟨x2, y2⟩ := keepB hW z2_3 r2_3 c2_3; obtain ⟨x3, y3⟩ := keepB hW z3_3 r3_3 c3_3; go_simp; first | done | rfl)); simp only [Act.put, List.setIfInBounds_toArray, List.set_cons_zero, List.set_cons_succ])
  (refine q_plain rfl ?_; apply Exists.intro; refine ⟨fun W hW => ?_, ?_⟩; (focus (obtain ⟨x2, y2⟩ := keepB hW z2_3 r2_3 c2_3; obtain ⟨x3, y3⟩ := keepB hW z3_3 r3_3 c3_3; go_simp; (go_at_call 30; exact (toVector_any _ _).mono fun e w2 ⟨he, hw2⟩ => ⟨he, hW.trans (hw2.mono hW.size)⟩))); simp only [Act.put, List.setIfInBounds_toArray, List.set_cons_zero, List.set_cons_succ])
  refine wpQuiet_nil ?_
  intro W4 hw4
  obtain ⟨r2_4, c2_4⟩ := keepB hw4 z2_3 r2_3 c2_3
  have z2_4 := isRow_lt r2_4
  obtain ⟨r3_4, c3_4⟩ := keepB hw4 z3_3 r3_3 c3_3
  have z3_4 := isRow_lt r3_4
  have hb4 := hb3.trans (hw4.mono hb3.size)
  have q4 := hb4.size
  have sz4 := hw4.size
  have hvS_4 := hvS_3.below hw4 (by omega)
  clear hw4 hvS_3 r2_3 c2_3 z2_3 r3_3 c3_3 z3_3 hb3
  go_wp2_with fail
  have ltG2n5 : (w.heap.size) < W4.heap.size := z2_4
  have ltG3n5 : (w.heap.size + 1) < W4.heap.size := z3_4
  refine (leastSub_any _ _ _ _ _ Hf.out Hv.out).mono ?_; rintro _ W5 ⟨aG_5, cG_5, rfl, hw5, hvG_5⟩
  obtain ⟨r2_5, c2_5⟩ := keepB hw5 z2_4 r2_4 c2_4
  have z2_5 := isRow_lt r2_5
  obtain ⟨r3_5, c3_5⟩ := keepB hw5 z3_4 r3_4 c3_4
  have z3_5 := isRow_lt r3_5
  have hb5 := hb4.trans (hw5.mono hb4.size)
  have q5 := hb5.size
  have sz5 := hw5.size
  have hvS_5 := hvS_4.below hw5 (by omega)
  clear hw5 hvS_4 r2_4 c2_4 z2_4 r3_4 c3_4 z3_4 hb4
  go_wp2_with fail
  refine (eqVectorS_any hm hvG_5 hvS_5).mono ?_; rintro _ W6 ⟨rfl, hw6⟩
  obtain ⟨r2_6, c2_6⟩ := keepB hw6 z2_5 r2_5 c2_5
  have z2_6 := isRow_lt r2_6
  obtain ⟨r3_6, c3_6⟩ := keepB hw6 z3_5 r3_5 c3_5
  have z3_6 := isRow_lt r3_6
  have hb6 := hb5.trans (hw6.mono hb5.size)
  have q6 := hb6.size
  have sz6 := hw6.size
  have hvS_6 := hvS_5.below hw6 (by omega)
  have hvG_6 := hvG_5.below hw6 (by omega)
  clear hw6 hvS_5 hvG_5 r2_5 c2_5 z2_5 r3_5 c3_5 z3_5 hb5
  go_wp2_with fail
  refine (markVectorS_any hm (by omega) (by omega) (by omega) hvG_6).mono ?_; rintro _ W7 ⟨rfl, hw7, hvG_7⟩
  obtain ⟨r2_7, c2_7⟩ := keepB hw7 (by have := z2_6; omega) r2_6 c2_6
  have z2_7 := isRow_lt r2_7
  obtain ⟨r3_7, c3_7⟩ := keepB hw7 (by have := z3_6; omega) r3_6 c3_6
  have z3_7 := isRow_lt r3_7
  have hb7 := hb6.trans (hw7.mono (by omega))
  have q7 := hb7.size
  have sz7 := hw7.size
  have hvS_7 := hvS_6.below hw7 (by omega)
  clear hw7 hvG_6 hvS_6 r2_6 c2_6 z2_6 r3_6 c3_6 z3_6 hb6
  go_wp2_with fail
  refine (heldVectorS_any hm (by omega) (by omega) hvG_7).mono ?_; rintro _ W8 ⟨rfl, hw8⟩
  obtain ⟨r2_8, c2_8⟩ := keepB hw8 z2_7 r2_7 c2_7
  have z2_8 := isRow_lt r2_8
  obtain ⟨r3_8, c3_8⟩ := keepB hw8 z3_7 r3_7 c3_7
  have z3_8 := isRow_lt r3_8
  have hb8 := hb7.trans (hw8.mono hb7.size)
  have q8 := hb8.size
  have sz8 := hw8.size
  have hvS_8 := hvS_7.below hw8 (by omega)
  have hvG_8 := hvG_7.below hw8 (by omega)
  clear hw8 hvS_7 hvG_7 r2_7 c2_7 z2_7 r3_7 c3_7 z3_7 hb7
  go_wp2
  refine wp_quiet_tail_two 4 6 _ (by kernel_rfl) (by omega) (by kernel_rfl) (by kernel_rfl) (by kernel_rfl) (fun c a w d v h => by cases d <;> exact h) (Below.refl W8.heap.size W8).drew ?_
  simp only [List.take_succ_cons, List.take_zero, List.drop_succ_cons, List.drop_zero]
  iterate 1 (refine q_plain rfl ?_; apply Exists.intro; refine ⟨fun W hW => ?_, ?_⟩; (focus (obtain ⟨x2, y2⟩ := keepB hW z2_8 r2_8 c2_8; obtain ⟨x3, y3⟩ := keepB hW z3_8 r3_8 c3_8; go_simp; first | done | rfl)); simp only [Act.put, List.setIfInBounds_toArray, List.set_cons_zero, List.set_cons_succ])
  (refine q_plain rfl ?_; apply Exists.intro; refine ⟨fun W hW => ?_, ?_⟩; (focus (obtain ⟨x2, y2⟩ := keepB hW z2_8 r2_8 c2_8; obtain ⟨x3, y3⟩ := keepB hW z3_8 r3_8 c3_8; go_simp; (go_at_call 22; exact (toCoalgebra_any _ _ _ _).mono fun e w2 ⟨he, hw2⟩ => ⟨he, hW.trans (hw2.mono hW.size)⟩))); simp only [Act.put, List.setIfInBounds_toArray, List.set_cons_zero, List.set_cons_succ])
  iterate 1 (refine q_plain rfl ?_; apply Exists.intro; refine ⟨fun W hW => ?_, ?_⟩; (focus (obtain ⟨x2, y2⟩ := keepB hW z2_8 r2_8 c2_8; obtain ⟨x3, y3⟩ := keepB hW z3_8 r3_8 c3_8; go_simp; first | done | rfl)); simp only [Act.put, List.setIfInBounds_toArray, List.set_cons_zero, List.set_cons_succ])
  (refine q_plain rfl ?_; apply Exists.intro; refine ⟨fun W hW => ?_, ?_⟩; (focus (obtain ⟨x2, y2⟩ := keepB hW z2_8 r2_8 c2_8; obtain ⟨x3, y3⟩ := keepB hW z3_8 r3_8 c3_8; go_simp; (go_at_call 30; exact (toVector_any _ _).mono fun e w2 ⟨he, hw2⟩ => ⟨he, hW.trans (hw2.mono hW.size)⟩))); simp only [Act.put, List.setIfInBounds_toArray, List.set_cons_zero, List.set_cons_succ])
  refine wpQuiet_nil ?_
  intro W9 hw9
  obtain ⟨r2_9, c2_9⟩ := keepB hw9 z2_8 r2_8 c2_8
  have z2_9 := isRow_lt r2_9
  obtain ⟨r3_9, c3_9⟩ := keepB hw9 z3_8 r3_8 c3_8
  have z3_9 := isRow_lt r3_9
  have hb9 := hb8.trans (hw9.mono hb8.size)
  have q9 := hb9.size
  have sz9 := hw9.size
  have hvS_9 := hvS_8.below hw9 (by omega)
  have hvG_9 := hvG_8.below hw9 (by omega)
  clear hw9 hvS_8 hvG_8 r2_8 c2_8 z2_8 r3_8 c3_8 z3_8 hb8
  go_wp2_with fail
  refine (leastSub_any _ _ _ _ _ Hf.out Hv.out).mono ?_; rintro _ W10 ⟨aH_10, cH_10, rfl, hw10, hvH_10⟩
  have hb10 := hb9.trans (hw10.mono hb9.size)
  have q10 := hb10.size
  have sz10 := hw10.size
  have hvS_10 := hvS_9.below hw10 (by omega)
  have hvG_10 := hvG_9.below hw10 (by omega)
  clear hw10 hvS_9 hvG_9 hb9
  go_wp2_with fail
  refine (eqVectorS_any hm hvH_10 hvS_10).mono ?_; rintro _ W11 ⟨rfl, hw11⟩
  have hb11 := hb10.trans (hw11.mono hb10.size)
  have q11 := hb11.size
  have sz11 := hw11.size
  have hvS_11 := hvS_10.below hw11 (by omega)
  have hvG_11 := hvG_10.below hw11 (by omega)
  have hvH_11 := hvH_10.below hw11 (by omega)
  clear hw11 hvS_10 hvG_10 hvH_10 hb10
  go_wp2_with fail
  refine (heldVectorS_any hm (by omega) (by omega) hvG_11).mono ?_; rintro _ W12 ⟨rfl, hw12⟩
  have hb12 := hb11.trans (hw12.mono hb11.size)
  have q12 := hb12.size
  have sz12 := hw12.size
  have hvS_12 := hvS_11.below hw12 (by omega)
  have hvG_12 := hvG_11.below hw12 (by omega)
  have hvH_12 := hvH_11.below hw12 (by omega)
  clear hw12 hvS_11 hvG_11 hvH_11 hb11
  go_wp2_with fail
  go_ret
  exact ⟨rfl, (by (repeat (first | exact hb12 | exact Below.refl _ _ | refine Below.alloc ?_ (by first | omega | (simp; try omega)) _ | refine below_setRow ?_ (by omega) _ | refine Below.drew ?_)))⟩

end Go.Proofs.Ytfdejhhgkpdfdaa
