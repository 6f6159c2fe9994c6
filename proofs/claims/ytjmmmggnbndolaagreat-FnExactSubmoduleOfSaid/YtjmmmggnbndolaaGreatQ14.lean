/- Linear algebra by the reference model: first places, vectors reduced by lists, inverses modulo p, one more vector for a reduced list, reduced lists. -/
import Derived.Test.YtjmmmggnbndolaaGreatL1
import Derived.Test.YtjmmmggnbndolaaGreatLin
import Derived.Test.YtjmmmggnbndolaaGreatRA
import Derived.Test.YtjmmmggnbndolaaGreatPA
import Derived.Test.YtjmmmggnbndolaaGreatRegionE
namespace Go.Proofs.YtjmmmggnbndolaaGreat
open Go.RowKit
set_option linter.unusedSimpArgs false
set_option linter.unusedVariables false
attribute [local irreducible] wpQuiet wpQE

/-! ### the first place -/
theorem first_place {v : Nat → Int} (h : segEq 0 8 v zf = false) : ∃ q, q < 8 ∧ (∀ i, i < q → v i = 0) ∧ v q ≠ 0 := by
  have key : ∀ k, k ≤ 8 → (∀ i, i < k → v i = 0) ∨ ∃ q, q < k ∧ (∀ i, i < q → v i = 0) ∧ v q ≠ 0 := by
    intro k
    induction k with
    | zero => exact fun _ => .inl fun i hi => by omega
    | succ k ih =>
      intro hk
      rcases ih (by omega) with h1 | ⟨q, h1, h2, h3⟩
      · by_cases h0 : v k = 0
        · exact .inl fun i hi => by
            by_cases e : i = k
            · rw [e]; exact h0
            · exact h1 i (by omega)
        · exact .inr ⟨k, by omega, h1, h0⟩
      · exact .inr ⟨q, by omega, h2, h3⟩
  rcases key 8 (Nat.le_refl _) with h1 | h1
  · rw [(segEq_iff 0 8 v zf).2 fun i hi => by rw [Nat.zero_add]; exact h1 i hi] at h; cases h
  · exact h1

set_option maxRecDepth 100000 in
set_option maxHeartbeats 1000000 in
theorem l01First_at (v : Nat → Int) (q : Nat) (w : World) (hq : q < 8) (hlow : ∀ i, i < q → v i = 0) (hne : v q ≠ 0) :
    Calls Tryz.prog 44 #[.agg (row 8 v)] w fun e w' => e = .returned (.int .i64 q) ∧ Below w.heap.size w w' := by
 have Hlow := Lib.hid hlow; clear hlow
 go_enter Tryz.func44, Tryz.ntmps44
 go_wp2
 refine atomW fun W1 e1 => ?_
 have hb1 : Below w.heap.size w W1 := by rw [e1]; exact bt
 have q1 := hb1.size
 have r1_1 : IsRow W1 (w.heap.size) := by rw [e1]; simp [go_sem]
 have c1_1 := congrArg (fun x => blk x (w.heap.size)) e1; simp [go_sem] at c1_1
 have z1_1 := isRow_lt r1_1
 clear e1
 go_loopw [3] (fun s3 wr => ∃ i : Nat, i ≤ q ∧ s3 = .int .i64 i ∧ Below w.heap.size w wr ∧ (IsRow wr (w.heap.size) ∧ blk wr (w.heap.size) = blk W1 (w.heap.size))) (fun s3 _ => q - (intOf s3).toNat)
 case atStart => exact ⟨0, by omega, rfl, hb1, ⟨r1_1, rfl⟩⟩
 case round =>
  obtain ⟨i, hle2, rfl, hb2, ⟨r1_2, c1_2⟩⟩ := hrel
  obtain ⟨W2, rfl⟩ : ∃ W2 : World, W2 = wr := ⟨_, rfl⟩
  have q2 := hb2.size
  have E1_2 := Lib.hid c1_1; replace c1_2 := c1_2.trans c1_1
  have z1_2 := isRow_lt r1_2
  clear r1_1 c1_1 z1_1 hb1
  by_cases hlt2 : i < q
  ·
   have i0_2 : (0 : Int) ≤ (i : Int) := by omega
   have i8_2 : (i : Int) < 8 := by omega
   have k8_2 : i < 8 := by omega
   have m8_2 : i * 8 + 8 ≤ 64 := by omega
   have m64_2 : i * 64 + 64 ≤ 512 := by omega
   have l1_2 : 10 + i * 64 + 64 ≤ 522 := by omega
   have e1 := Hlow.out i hlt2
   go_wp2
   go_roundw
   case rel => exact ⟨i + 1, by omega, by go_num, bt, ⟨by simp [go_sem, r1_2, c1_2], (by rw [E1_2.out]; first | exact c1_2 | (simp [go_sem, r1_2, c1_2]; done))⟩⟩
   case measure => simp [intOf]; try omega
  ·
   obtain rfl : q = i := by omega
   have hq8 : (q : Int) < 8 := by omega
   have hne1 : (v q == 0) = false := by simpa using hne
   have hne2 : decide (v q = 0) = false := by simpa using hne
   go_wp2_with fail
   go_ret
   exact ⟨rfl, bt⟩

/-! ### a vector reduced by a list -/
theorem by_step {p : Int} {g : Nat → Nat → Int} {l : Nat → Nat} {v : Nat → Int} {k : Nat} : row 8 (addm p 0 8 (-(byG p g l v k (l k))) (byG p g l v k) (g k)) = row 8 (byG p g l v (k + 1)) := addm_row fun t _ => by rw [byG, addF]
theorem by_skip {p : Int} {g : Nat → Nat → Int} {l : Nat → Nat} {v : Nat → Int} {k : Nat} (hp : 0 < p) (hv : ∀ t, t < 8 → 0 ≤ v t ∧ v t < p) (h0 : byG p g l v k (l k) = 0) : row 8 (byG p g l v k) = row 8 (byG p g l v (k + 1)) := row_congr fun t ht => byG_skip (by_range hp hv k) h0 t ht
theorem by_bytes {p : Int} {g : Nat → Nat → Int} {l : Nat → Nat} {v : Nat → Int} {k : Nat} (hp : 0 < p) (hp' : p ≤ 255) (hv : ∀ t, t < 8 → 0 ≤ v t ∧ v t < p) : Bytes 8 (byG p g l v k) := fun t ht => by have := by_range (g := g) (l := l) hp hv k t ht; omega
theorem one_ne : (1 : Int) ≠ 0 := by decide
/-- what the walk needs of row i of a list in echelon form -/
theorem ech_row {p : Int} {m : Nat} {g : Nat → Nat → Int} {l : Nat → Nat} (h : Ech p 8 m g l) (hp' : p ≤ 255) {i : Nat} (hi : i < m) : l i < 8 ∧ (∀ t, t < l i → g i t = 0) ∧ g i (l i) ≠ 0 ∧ Bytes 8 (g i) :=
  ⟨h.lt i hi, h.low i hi, by rw [h.one i hi]; exact one_ne, fun t ht => by have := h.rng i hi t ht; omega⟩

set_option maxRecDepth 100000 in
set_option maxHeartbeats 1000000 in
theorem l01By_any (p : Int) (v : Nat → Int) (B U : Nat) (a : Option Addr) (m c : Nat) (g : Nat → Nat → Int) (l : Nat → Nat) (w : World) (hp : 0 < p) (hp' : p ≤ 255) (hm : m ≤ 1000000) (hU : U ≤ w.heap.size) (hBU : B ≤ U) (hv : ∀ t, t < 8 → 0 ≤ v t ∧ v t < p) (hg : VL w B U a m c g) (hE : Ech p 8 m g l) :
    Calls Tryz.prog 45 #[.int .i64 p, .agg (row 8 v), .slice a m c] w fun e w' => e = .returned (.agg (row 8 (byG p g l v m))) ∧ Below w.heap.size w w' := by
 have Hv := Lib.hid hv; clear hv
 have HE := Lib.hid hE; clear hE
 go_enter Tryz.func45, Tryz.ntmps45
 go_wp2
 refine atomW fun W1 e1 => ?_
 have hb1 : Below w.heap.size w W1 := by rw [e1]; exact bt
 have q1 := hb1.size
 have R1 : IsRow W1 (w.heap.size) ∧ IsRow W1 (w.heap.size + 1) := by rw [e1]; simp [go_sem]
 obtain ⟨r4_1, r6_1⟩ := R1
 have C1 := (⟨congrArg (blk · (w.heap.size)) e1, congrArg (blk · (w.heap.size + 1)) e1⟩ : _ ∧ _); simp [go_sem] at C1
 obtain ⟨c4_1, c6_1⟩ := C1
 have z4_1 := isRow_lt r4_1; have z6_1 := isRow_lt r6_1
 have hv2_1 : VL W1 (B) (U) (a) (m) (c) (g) := by rw [e1]; (repeat (first | exact hg | refine VL.alloc ?_ _ | refine VL.drew ?_ | refine VL.setRow ?_ (by omega) _))
 clear e1 hg
 go_loopw [7] (fun s7 wr => ∃ i : Nat, i ≤ m ∧ s7 = .int .i64 i ∧ Below w.heap.size w wr ∧ (IsRow wr (w.heap.size) ∧ blk wr (w.heap.size) = row 8 (byG p g l v i)) ∧ (IsRow wr (w.heap.size + 1) ∧ blk wr (w.heap.size + 1) = blk W1 (w.heap.size + 1)) ∧ VL wr (B) (U) (a) (m) (c) (g) ∧ ((B) ≤ (U) ∧ (U) ≤ wr.heap.size)) (fun s7 _ => m - (intOf s7).toNat)
 case atStart => exact ⟨0, by omega, rfl, hb1, ⟨r4_1, c4_1⟩, ⟨r6_1, rfl⟩, hv2_1, (by omega)⟩
 case round =>
  obtain ⟨i, hle2, rfl, hb2, ⟨r4_2, c4_2⟩, ⟨r6_2, c6_2⟩, hv2_2, hU2_2⟩ := hrel
  obtain ⟨W2, rfl⟩ : ∃ W2 : World, W2 = wr := ⟨_, rfl⟩
  have q2 := hb2.size
  have z4_2 := isRow_lt r4_2
  have E6_2 := Lib.hid c6_1; replace c6_2 := c6_2.trans c6_1
  have z6_2 := isRow_lt r6_2
  clear r4_1 c4_1 z4_1 r6_1 c6_1 z6_1 hb1 hv2_1
  by_cases hlt2 : i < m
  ·
   by_cases h0 : byG p g l v i (l i) = 0
   ·
    obtain ⟨g2_3, F2_3, ea2_3, gB2_3, gU2_3, r2x_3, hc2_3, hm2_3, c2x_3, hFb2_3, hF2_3⟩ := hv2_2.some (by omega)
    cases ea2_3
    have HF2_3 := Lib.hid hF2_3; clear hF2_3
    have HB2_3 := Lib.hid hFb2_3; clear hFb2_3
    have z2x_3 := isRow_lt r2x_3
    have n4_2x : (w.heap.size) ≠ (g2_3) := by omega
    have n6_2x : (w.heap.size + 1) ≠ (g2_3) := by omega
    have n2x_4 : (g2_3) ≠ (w.heap.size) := by omega
    have n2x_6 : (g2_3) ≠ (w.heap.size + 1) := by omega
    have HR : Hid (row 8 (fun t => F2_3 (i * 8 + t)) = row 8 (g i)) := Lib.hid (row_congr fun t ht => HF2_3.out i (by omega) t ht)
    have hrow := HR.out
    obtain ⟨e1, e2, e3, e4⟩ := ech_row HE.out hp' (show i < m by omega)
    have e1i : ((l i : Nat) : Int) < 8 := by omega
    have HE2 := Lib.hid e2; clear e2
    have HE4 := Lib.hid e4; clear e4
    have HB := Lib.hid (by_bytes (g := g) (l := l) (k := i) hp hp' Hv.out)
    have hc1 : i * 8 + 8 ≤ c * 8 := by omega
    have n1 : (byG p g l v i (l i) == 0) = true := by simpa using h0
    have HS := Lib.hid (by_skip (g := g) (l := l) hp Hv.out h0)
    go_wp2_with fail
    refine (l01First_at (g i) (l i) _ e1 HE2.out e3).mono ?_; rintro _ W4 ⟨rfl, hw4⟩
    obtain ⟨r4_4, c4_4, z4_4⟩ := keepZ hw4 z4_2 r4_2 c4_2
    obtain ⟨r6_4, c6_4, z6_4⟩ := keepZ hw4 z6_2 r6_2 c6_2
    obtain ⟨r2x_4, c2x_4, z2x_4⟩ := keepZ hw4 z2x_3 r2x_3 c2x_3
    obtain ⟨hb4, q4⟩ := bN hb2 hw4
    have sz4 := hw4.size
    have hv2_4 := hv2_2.below hw4 (by omega)
    clear hw4 hv2_2 r4_2 c4_2 z4_2 r6_2 c6_2 z6_2 r2x_3 c2x_3 z2x_3 hb2
    go_wp2
    go_roundw
    case rel => exact ⟨i + 1, by omega, by go_num, bt, ⟨by simp [go_sem, r4_4, c4_4, n4_2x, r6_4, c6_4, n6_2x, r2x_4, c2x_4, n2x_4, n2x_6], (by first | exact (c4_4).trans (HS.out) | (simp [go_sem, r4_4, c4_4, n4_2x, r6_4, c6_4, n6_2x, r2x_4, c2x_4, n2x_4, n2x_6]; exact HS.out))⟩, ⟨by simp [go_sem, r4_4, c4_4, n4_2x, r6_4, c6_4, n6_2x, r2x_4, c2x_4, n2x_4, n2x_6], (by rw [E6_2.out]; first | exact c6_4 | (simp [go_sem, r4_4, c4_4, n4_2x, r6_4, c6_4, n6_2x, r2x_4, c2x_4, n2x_4, n2x_6]; done))⟩, vtV, (by first | omega | (constructor <;> first | omega | (simp; omega)))⟩
    case measure => simp [intOf]; try omega
   ·
    obtain ⟨g2_5, F2_5, ea2_5, gB2_5, gU2_5, r2x_5, hc2_5, hm2_5, c2x_5, hFb2_5, hF2_5⟩ := hv2_2.some (by omega)
    cases ea2_5
    have HF2_5 := Lib.hid hF2_5; clear hF2_5
    have HB2_5 := Lib.hid hFb2_5; clear hFb2_5
    have z2x_5 := isRow_lt r2x_5
    have n4_2x : (w.heap.size) ≠ (g2_5) := by omega
    have n6_2x : (w.heap.size + 1) ≠ (g2_5) := by omega
    have n2x_4 : (g2_5) ≠ (w.heap.size) := by omega
    have n2x_6 : (g2_5) ≠ (w.heap.size + 1) := by omega
    have HR : Hid (row 8 (fun t => F2_5 (i * 8 + t)) = row 8 (g i)) := Lib.hid (row_congr fun t ht => HF2_5.out i (by omega) t ht)
    have hrow := HR.out
    obtain ⟨e1, e2, e3, e4⟩ := ech_row HE.out hp' (show i < m by omega)
    have e1i : ((l i : Nat) : Int) < 8 := by omega
    have HE2 := Lib.hid e2; clear e2
    have HE4 := Lib.hid e4; clear e4
    have HB := Lib.hid (by_bytes (g := g) (l := l) (k := i) hp hp' Hv.out)
    have hc1 : i * 8 + 8 ≤ c * 8 := by omega
    have n1 : (byG p g l v i (l i) == 0) = false := by simpa using h0
    have b1 := (HB.out (l i) e1).1
    have b2 := (HB.out (l i) e1).2
    have q1 : IntKind.i64.wrap (byG p g l v i (l i)) = byG p g l v i (l i) := IntWalk.i64_in _ (by omega)
    have q2 : IntKind.i64.wrap (-byG p g l v i (l i)) = -byG p g l v i (l i) := IntWalk.i64_in _ (by omega)
    go_wp2_with fail
    refine (l01First_at (g i) (l i) _ e1 HE2.out e3).mono ?_; rintro _ W6 ⟨rfl, hw6⟩
    obtain ⟨r4_6, c4_6, z4_6⟩ := keepZ hw6 z4_2 r4_2 c4_2
    obtain ⟨r6_6, c6_6, z6_6⟩ := keepZ hw6 z6_2 r6_2 c6_2
    obtain ⟨r2x_6, c2x_6, z2x_6⟩ := keepZ hw6 z2x_5 r2x_5 c2x_5
    obtain ⟨hb6, q6⟩ := bN hb2 hw6
    have sz6 := hw6.size
    have hv2_6 := hv2_2.below hw6 (by omega)
    clear hw6 hv2_2 r4_2 c4_2 z4_2 r6_2 c6_2 z6_2 r2x_5 c2x_5 z2x_5 hb2
    go_wp2
    refine wp_quiet_tail 12 (Below W6.heap.size W6) (by kernel_rfl) (by kernel_rfl) (Below.refl _ _).drew ?_
    simp only [List.take_succ_cons, List.take_zero, List.drop_succ_cons, List.drop_zero]
    iterate 11 (refine q_plain rfl ?_; apply Exists.intro; refine ⟨fun W hW => ?_, ?_⟩; (focus (obtain ⟨x4, y4⟩ := keepB hW z4_6 r4_6 c4_6; obtain ⟨x6, y6⟩ := keepB hW z6_6 r6_6 c6_6; obtain ⟨x2x, y2x⟩ := keepB hW z2x_6 r2x_6 c2x_6; go_simp; first | done | rfl)); simp only [Act.put, List.setIfInBounds_toArray, List.set_cons_zero, List.set_cons_succ])
    (refine q_plain rfl ?_; apply Exists.intro; refine ⟨fun W hW => ?_, ?_⟩; (focus (obtain ⟨x4, y4⟩ := keepB hW z4_6 r4_6 c4_6; obtain ⟨x6, y6⟩ := keepB hW z6_6 r6_6 c6_6; obtain ⟨x2x, y2x⟩ := keepB hW z2x_6 r2x_6 c2x_6; go_simp; (go_at_call 66; exact (l01Add_any _ _ _ _ _ hp hp' (by omega) (by omega) HB.out HE4.out).mono fun e w2 ⟨he, hw2⟩ => ⟨he, hW.trans (hw2.mono hW.size)⟩))); simp only [Act.put, List.setIfInBounds_toArray, List.set_cons_zero, List.set_cons_succ])
    refine wpQuiet_nil ?_
    intro W7 hw7
    obtain ⟨r4_7, c4_7, z4_7⟩ := keepZ hw7 z4_6 r4_6 c4_6
    obtain ⟨r6_7, c6_7, z6_7⟩ := keepZ hw7 z6_6 r6_6 c6_6
    obtain ⟨r2x_7, c2x_7, z2x_7⟩ := keepZ hw7 z2x_6 r2x_6 c2x_6
    obtain ⟨hb7, q7⟩ := bN hb6 hw7
    have sz7 := hw7.size
    have hv2_7 := hv2_6.below hw7 (by omega)
    clear hw7 hv2_6 r4_6 c4_6 z4_6 r6_6 c6_6 z6_6 r2x_6 c2x_6 z2x_6 hb6
    go_wp2
    go_roundw
    case rel => exact ⟨i + 1, by omega, by go_num, bt, ⟨by simp [go_sem, r4_7, c4_7, n4_2x, r6_7, c6_7, n6_2x, r2x_7, c2x_7, n2x_4, n2x_6], (by first | (rw [blk_setRow _ _ _ _ r4_7, if_pos rfl]; exact by_step) | exact (c4_7).trans (by_step) | (simp [go_sem, r4_7, c4_7, n4_2x, r6_7, c6_7, n6_2x, r2x_7, c2x_7, n2x_4, n2x_6]; exact by_step))⟩, ⟨by simp [go_sem, r4_7, c4_7, n4_2x, r6_7, c6_7, n6_2x, r2x_7, c2x_7, n2x_4, n2x_6], (by rw [E6_2.out]; first | exact c6_7 | (simp [go_sem, r4_7, c4_7, n4_2x, r6_7, c6_7, n6_2x, r2x_7, c2x_7, n2x_4, n2x_6]; done))⟩, vtV, (by first | omega | (constructor <;> first | omega | (simp; omega)))⟩
    case measure => simp [intOf]; try omega
  ·
   obtain rfl : m = i := by omega
   go_wp2_with fail
   refine bodyPost_ret (result_cell rfl aggVec _ _ (row 8 (byG p g l v m)) _ rfl ?_ ?_) rfl ⟨rfl, ?_⟩
   · simp [go_sem, r4_2, c4_2, r6_2, c6_2]
   · simp [go_sem, r4_2, c4_2, r6_2, c6_2]
   · exact bt

/-! ### inverses modulo p -/
def invOk : Bool := (List.range 32).all fun p => !(prime31 p) || (List.range p).all fun x => x == 0 || (List.range p).any fun y => (y * x) % p == 1
theorem inv_ok : invOk = true := by kernel_rfl
theorem inv_exists {p x : Int} (hp : prime31 p = true) (h0 : 0 < x) (h1 : x < p) : ∃ y : Int, 0 < y ∧ y < p ∧ (y * x) % p = 1 := by
  have h2 := inv_ok
  obtain ⟨hlo, hhi⟩ : 2 ≤ p ∧ p ≤ 31 := by
    unfold prime31 at hp
    simp only [Bool.and_eq_true, decide_eq_true_eq] at hp
    exact hp.1
  obtain ⟨P, rfl⟩ := Int.eq_ofNat_of_zero_le (show 0 ≤ p by omega)
  obtain ⟨X, rfl⟩ := Int.eq_ofNat_of_zero_le (show 0 ≤ x by omega)
  unfold invOk at h2
  rw [List.all_eq_true] at h2
  have h3 := h2 P (List.mem_range.2 (by omega))
  rw [hp] at h3
  simp only [Bool.not_true, Bool.false_or] at h3
  rw [List.all_eq_true] at h3
  have h4 := h3 X (List.mem_range.2 (by omega))
  rw [Bool.or_eq_true] at h4
  rcases h4 with h4 | h4
  · have : X = 0 := by simpa using h4
    omega
  · rw [List.any_eq_true] at h4
    obtain ⟨y, hy, h5⟩ := h4
    have h5 : (y * X) % P = 1 := by simpa using h5
    have hy := List.mem_range.1 hy
    have h6 : ((y : Int) * (X : Int)) % (P : Int) = 1 := by
      have : ((y * X % P : Nat) : Int) = 1 := by rw [h5]; rfl
      simpa using this
    refine ⟨y, ?_, by omega, h6⟩
    rcases Nat.eq_zero_or_pos y with h7 | h7
    · subst h7
      simp at h5
    · omega
theorem inv_unique {p x y z : Int} (hy : 0 ≤ y ∧ y < p) (hz : 0 ≤ z ∧ z < p) (h1 : (y * x) % p = 1) (h2 : (z * x) % p = 1) : y = z := by
  have e : (y * (z * x)) % p = (z * (y * x)) % p := by congr 1; rw [← Int.mul_assoc, ← Int.mul_assoc, Int.mul_comm y z]
  rw [Int.mul_emod, h2, Int.mul_emod z, h1] at e
  have a1 : y % p = y := Int.emod_eq_of_lt hy.1 hy.2
  have a2 : z % p = z := Int.emod_eq_of_lt hz.1 hz.2
  rw [a1, a2, Int.mul_one, Int.mul_one, a1, a2] at e
  exact e
open Classical in
noncomputable def invN (p x : Int) : Nat := if h : ∃ y : Int, 0 < y ∧ y < p ∧ (y * x) % p = 1 then h.choose.toNat else 0
theorem invN_spec {p x : Int} (hp : prime31 p = true) (h0 : 0 < x) (h1 : x < p) : 0 < invN p x ∧ (invN p x : Int) < p ∧ ((invN p x : Int) * x) % p = 1 := by
  have h := inv_exists hp h0 h1
  unfold invN
  rw [dif_pos h]
  have hs := h.choose_spec
  have e : (h.choose.toNat : Int) = h.choose := by omega
  exact ⟨by omega, by omega, by rw [e]; exact hs.2.2⟩
theorem inv_not {p x : Int} (hp : prime31 p = true) (h0 : 0 < x) (h1 : x < p) {k : Nat} (hk : k < invN p x) : ¬ ((k : Int) * x) % p = 1 := fun h => by
  have hs := invN_spec hp h0 h1
  have := inv_unique ⟨by omega, by omega⟩ ⟨by omega, hs.2.1⟩ h hs.2.2
  omega

set_option maxRecDepth 100000 in
set_option maxHeartbeats 1000000 in
theorem l01Inverse_any (p x : Int) (w : World) (hpr : prime31 p = true) (hx0 : 0 < x) (hx1 : x < p) :
    Calls Tryz.prog 67 #[.int .i64 p, .int .u8 x] w fun e w' => e = .returned (.int .u8 (invN p x)) ∧ Below w.heap.size w w' := by
 have Hpr := Lib.hid hpr; clear hpr
 have hs := invN_spec Hpr.out hx0 hx1
 obtain ⟨h2, h31⟩ : 2 ≤ p ∧ p ≤ 31 := by
  have := Hpr.out
  unfold prime31 at this
  simp only [Bool.and_eq_true, decide_eq_true_eq] at this
  exact this.1
 obtain ⟨N, hN⟩ : ∃ N, N = invN p x := ⟨_, rfl⟩
 rw [← hN] at hs
 obtain ⟨s1, s2, s3⟩ := hs
 have HN := Lib.hid hN; clear hN
 have HO : Hid (∀ k : Nat, k < N → ¬ ((k : Int) * x) % p = 1) := Lib.hid fun k hk => inv_not Hpr.out hx0 hx1 (by rw [← HN.out]; exact hk)
 have q0 : IntKind.i64.wrap x = x := IntWalk.i64_in _ (by omega)
 go_enter Tryz.func67, Tryz.ntmps67
 go_wp2
 refine atomW fun W1 e1 => ?_
 have hb1 : Below w.heap.size w W1 := by rw [e1]; exact bt
 have q1 := hb1.size
 clear e1
 go_loopw [5] (fun s5 wr => ∃ k : Nat, 1 ≤ k ∧ k ≤ N ∧ s5 = .int .i64 k ∧ Below w.heap.size w wr) (fun s5 _ => N - (intOf s5).toNat)
 case atStart => exact ⟨1, by omega, by omega, rfl, hb1⟩
 case round =>
  obtain ⟨k, hlo, hle2, rfl, hb2⟩ := hrel
  obtain ⟨W2, rfl⟩ : ∃ W2 : World, W2 = wr := ⟨_, rfl⟩
  have q2 := hb2.size
  clear hb1
  by_cases hlt2 : k < N
  ·
   have pb := prod_le (k : Int) x 31 31 (by omega) (by omega) (by omega) (by omega)
   have pb1 := pb.1
   have pb2 := pb.2
   clear pb
   have q1 : IntKind.i64.wrap ((k : Int) * x) = (k : Int) * x := IntWalk.i64_in _ (by omega)
   have t1 : ((k : Int) * x).tmod p = ((k : Int) * x) % p := Int.tmod_eq_emod_of_nonneg pb1
   have p0 : ¬ p = 0 := by omega
   have n1 : ((((k : Int) * x) % p == 1)) = false := by simpa using HO.out k hlt2
   have n2 : decide (((k : Int) * x) % p = 1) = false := by simpa using HO.out k hlt2
   have hkp : (k : Int) < p := by omega
   go_wp2
   go_roundw
   case rel => exact ⟨k + 1, by omega, by omega, by go_num, bt⟩
   case measure => simp [intOf]; try omega
  ·
   obtain rfl : N = k := by omega
   have pb := prod_le (N : Int) x 31 31 (by omega) (by omega) (by omega) (by omega)
   have pb1 := pb.1
   have pb2 := pb.2
   clear pb
   have q1 : IntKind.i64.wrap ((N : Int) * x) = (N : Int) * x := IntWalk.i64_in _ (by omega)
   have t1 : ((N : Int) * x).tmod p = ((N : Int) * x) % p := Int.tmod_eq_emod_of_nonneg pb1
   have p0 : ¬ p = 0 := by omega
   have n1 : ((((N : Int) * x) % p == 1)) = true := by simpa using s3
   have n2 : decide (((N : Int) * x) % p = 1) = true := by simpa using s3
   have w1 : IntKind.u8.wrap (N : Int) = N := IntWalk.u8_in _ (by omega)
   go_wp2_with fail
   go_ret
   exact ⟨ret_u8' (by rw [HN.out]), bt⟩

set_option maxRecDepth 100000 in
set_option maxHeartbeats 1000000 in
theorem inverseNumber_any (p x : Int) (w : World) (hpr : prime31 p = true) (hx0 : 0 < x) (hx1 : x < p) :
    Calls Tryz.prog 132 #[.int .i64 p, .int .u8 x] w fun e w' => e = .returned (.int .u8 (invN p x)) ∧ Below w.heap.size w w' := by
 have Hpr := Lib.hid hpr; clear hpr
 have hs := invN_spec Hpr.out hx0 hx1
 obtain ⟨h2, h31⟩ : 2 ≤ p ∧ p ≤ 31 := by
  have := Hpr.out
  unfold prime31 at this
  simp only [Bool.and_eq_true, decide_eq_true_eq] at this
  exact this.1
 obtain ⟨N, hN⟩ : ∃ N, N = invN p x := ⟨_, rfl⟩
 rw [← hN] at hs
 obtain ⟨s1, s2, s3⟩ := hs
 have HN := Lib.hid hN; clear hN
 have HO : Hid (∀ k : Nat, k < N → ¬ ((k : Int) * x) % p = 1) := Lib.hid fun k hk => inv_not Hpr.out hx0 hx1 (by rw [← HN.out]; exact hk)
 have q0 : IntKind.i64.wrap x = x := IntWalk.i64_in _ (by omega)
 go_enter Tryz.func132, Tryz.ntmps132
 go_wp2
 refine atomW fun W1 e1 => ?_
 have hb1 : Below w.heap.size w W1 := by rw [e1]; exact bt
 have q1 := hb1.size
 clear e1
 go_loopw [5] (fun s5 wr => ∃ k : Nat, 1 ≤ k ∧ k ≤ N ∧ s5 = .int .u8 k ∧ Below w.heap.size w wr) (fun s5 _ => N - (intOf s5).toNat)
 case atStart => exact ⟨1, by omega, by omega, (by first | rfl | (simp; done) | go_num), hb1⟩
 case round =>
  obtain ⟨k, hlo, hle2, rfl, hb2⟩ := hrel
  obtain ⟨W2, rfl⟩ : ∃ W2 : World, W2 = wr := ⟨_, rfl⟩
  have q2 := hb2.size
  clear hb1
  by_cases hlt2 : k < N
  ·
   have HC := Lib.hid (Int.mul_comm x (k : Int))
   have n0 := HO.out k hlt2
   rw [← HC.out] at n0
   have n1 : (((x * (k : Int)) % p == 1)) = false := by simpa using n0
   have n2 : decide ((x * (k : Int)) % p = 1) = false := by simpa using n0
   clear n0
   have w1 : IntKind.u8.wrap ((k : Int) + 1) = (k : Int) + 1 := IntWalk.u8_in _ (by omega)
   go_wp2_with fail
   refine (timesNumber_any p x k _ (by omega) (by omega) (by omega) (by omega) (by omega) (by omega)).mono ?_; rintro _ _ ⟨rfl, rfl⟩
   go_wp2
   go_roundw
   case rel => exact ⟨k + 1, by omega, by omega, (by first | rfl | go_num | (simp; done)), bt⟩
   case measure => simp [intOf]; try omega
  ·
   obtain rfl : N = k := by omega
   have n0 := s3
   rw [Int.mul_comm] at n0
   have n1 : (((x * (N : Int)) % p == 1)) = true := by simpa using n0
   have n2 : decide ((x * (N : Int)) % p = 1) = true := by simpa using n0
   clear n0
   go_wp2_with fail
   refine (timesNumber_any p x N _ (by omega) (by omega) (by omega) (by omega) (by omega) (by omega)).mono ?_; rintro _ _ ⟨rfl, rfl⟩
   go_wp2_with fail
   go_ret
   exact ⟨ret_u8' (by rw [HN.out]), bt⟩

/-! ### one more vector for a reduced list -/
/-- how many of the first places l 0 .. l (m - 1) lie before q -/
def before (l : Nat → Nat) (q : Nat) : Nat → Nat
  | 0 => 0
  | m + 1 => if l m < q then before l q m + 1 else before l q m
theorem before_le (l : Nat → Nat) (q : Nat) : ∀ m, before l q m ≤ m
  | 0 => Nat.le_refl _
  | m + 1 => by rw [before]; have := before_le l q m; split <;> omega
theorem before_all {l : Nat → Nat} {q : Nat} : ∀ m, (∀ i, i < m → l i < q) → before l q m = m
  | 0, _ => rfl
  | m + 1, h => by rw [before, if_pos (h m (by omega)), before_all m fun i hi => h i (by omega)]
theorem before_some {l : Nat → Nat} {q k : Nat} : ∀ m, k ≤ m → (∀ i, i < k → l i < q) → (∀ i, k ≤ i → i < m → ¬ l i < q) → before l q m = k
  | 0, hk, _, _ => by rw [before]; omega
  | m + 1, hk, h1, h2 => by
    by_cases e : k = m + 1
    · rw [e]; exact before_all _ (by rw [← e]; exact h1)
    · rw [before, if_neg (h2 m (by omega) (by omega)), before_some m (by omega) h1 fun i hi hm => h2 i hi (by omega)]
/-- the scaled remainder -/
def scaF (p c : Int) (v : Nat → Int) : Nat → Int := fun t => c * v t % p
/-- the new list after i rounds: u is in it or not -/
def putM (k i : Nat) : Nat := if k < i then i + 1 else i
theorem putM_lt {k i : Nat} (h : i < k) : putM k (i + 1) = putM k i + 1 := by unfold putM; rw [if_neg (by omega), if_neg (by omega)]
theorem putM_gt {k i : Nat} (h : k < i) : putM k (i + 1) = putM k i + 1 := by unfold putM; rw [if_pos (by omega), if_pos (by omega)]
theorem putM_eq {i : Nat} : putM i (i + 1) = putM i i + 1 + 1 := by unfold putM; rw [if_pos (by omega), if_neg (by omega)]
theorem putM_le (k i : Nat) : putM k i ≤ i + 1 := by unfold putM; split <;> omega
theorem putM_zero (k : Nat) : putM k 0 = 0 := by unfold putM; rw [if_neg (by omega)]
theorem addm_at8 {p c : Int} {v w : Nat → Int} {t : Nat} (ht : t < 8) : addm p 0 8 c v w t = addF p v w c t := by
  unfold addm addF
  rw [if_pos (by omega), Nat.sub_zero]
theorem addm8_bytes {p : Int} (hp : 0 < p) (hp' : p ≤ 255) (c : Int) (v w : Nat → Int) : Bytes 8 (addm p 0 8 c v w) := fun t ht => by
  rw [addm_at8 ht]
  have h1 := Int.emod_nonneg (v t + c * w t) (show p ≠ 0 by omega)
  have h2 := Int.emod_lt_of_pos (v t + c * w t) hp
  unfold addF
  omega
theorem sca_row {p c : Int} {v : Nat → Int} : row 8 (addm p 0 8 c zf v) = row 8 (scaF p c v) := row_congr fun t ht => by
  rw [addm_at8 ht]; unfold addF scaF zf; rw [Int.zero_add]
theorem sca_range {p c : Int} {v : Nat → Int} (hp : 0 < p) (t : Nat) : 0 ≤ scaF p c v t ∧ scaF p c v t < p := ⟨Int.emod_nonneg _ (by omega), Int.emod_lt_of_pos _ hp⟩
theorem sca_bytes {p : Int} (hp : 0 < p) (hp' : p ≤ 255) (c : Int) (v : Nat → Int) : Bytes 8 (scaF p c v) := fun t _ => by have := sca_range (c := c) (v := v) hp t; omega
theorem snoc_sca {p c x : Int} {N m : Nat} {g : Nat → Nat → Int} {v r : Nat → Int} (h1 : InSpan p N m g fun t => v t - r t) (hx : (c * x) % p = 1 % p) : SameSpan p N (m + 1) (snocG g m v) (m + 1) (snocG g m (scaF p c r)) := by
  refine ⟨fun i hi => ?_, fun i hi => ?_⟩
  · by_cases h : i < m
    · have e : snocG g m v i = g i := if_pos h
      rw [e]; exact snoc_old (span_self h)
    · have e : snocG g m v i = v := if_neg h
      rw [e]
      refine span_lin 1 x (snoc_old h1) snoc_new fun t _ => ?_
      unfold scaF
      rw [Int.one_mul, Int.add_emod, Int.mul_emod x, Int.emod_emod, ← Int.mul_emod, ← Int.mul_assoc, Int.mul_comm x c, Int.mul_emod (c * x), hx, ← Int.mul_emod, Int.one_mul, ← Int.add_emod]
      congr 1; omega
  · by_cases h : i < m
    · have e : snocG g m (scaF p c r) i = g i := if_pos h
      rw [e]; exact snoc_old (span_self h)
    · have e : snocG g m (scaF p c r) i = scaF p c r := if_neg h
      rw [e]
      refine span_lin (-c) c (snoc_old h1) snoc_new fun t _ => ?_
      unfold scaF
      rw [Int.emod_emod]
      congr 1
      rw [Int.mul_sub, Int.neg_mul, Int.neg_mul]; omega
/-- all that the walk of l01Put wants of the remainder r, the place q and the number k of rows ahead of it -/
theorem put_facts {p : Int} {m : Nat} {g : Nat → Nat → Int} {l : Nat → Nat} {v : Nat → Int} {q : Nat} (hpr : prime31 p = true) (hp : 0 < p) (hR : Red p 8 m g l) (hv : ∀ t, t < 8 → 0 ≤ v t ∧ v t < p) (hq : q < 8)
    (hlow : ∀ i, i < q → byG p g l v m i = 0) (hne : byG p g l v m q ≠ 0) :
    ∃ k, k ≤ m ∧ (∀ i, i < k → l i < q) ∧ (∀ i, k ≤ i → i < m → q < l i) ∧ 0 < byG p g l v m q ∧ byG p g l v m q < p ∧
      Red p 8 (m + 1) (putG p g (scaF p (invN p (byG p g l v m q)) (byG p g l v m)) k q) (putL l k q) ∧ SameSpan p 8 (m + 1) (snocG g m v) (m + 1) (putG p g (scaF p (invN p (byG p g l v m q)) (byG p g l v m)) k q) := by
  have hp2 : 2 ≤ p := by
    have := hpr
    unfold prime31 at this
    simp only [Bool.and_eq_true, decide_eq_true_eq] at this
    exact this.1.1
  have hr := by_range (g := g) (l := l) hp hv m
  have h0 : 0 < byG p g l v m q := by have := (hr q hq).1; omega
  have h1 := (hr q hq).2
  obtain ⟨i1, i2, i3⟩ := invN_spec hpr h0 h1
  have hl := by_lead hR.ech hv hp m (Nat.le_refl _)
  have hlq : ∀ i, i < m → l i ≠ q := fun i hi e => hne (by rw [← e]; exact hl i hi)
  have hb : ∀ n, n ≤ m → ∃ k, k ≤ n ∧ (∀ i, i < k → l i < q) ∧ ∀ i, k ≤ i → i < n → q < l i := by
    intro n
    induction n with
    | zero => exact fun _ => ⟨0, Nat.le_refl _, fun i hi => by omega, fun i _ hi => by omega⟩
    | succ n ih =>
      intro hn
      obtain ⟨k, k1, k2, k3⟩ := ih (by omega)
      by_cases h : l n < q
      · have e : k = n := by
          rcases Nat.lt_or_ge k n with h5 | h5
          · have := k3 k (Nat.le_refl _) h5
            have := hR.inc k n h5 (by omega)
            omega
          · omega
        exact ⟨n + 1, Nat.le_refl _, fun i hi => by
          by_cases h6 : i = n
          · rw [h6]; exact h
          · exact k2 i (by omega), fun i h6 h7 => by omega⟩
      · refine ⟨k, by omega, k2, fun i h6 h7 => ?_⟩
        by_cases h8 : i = n
        · have := hlq n (by omega)
          rw [h8]; omega
        · exact k3 i h6 (by omega)
  obtain ⟨k, k1, k2, k3⟩ := hb m (Nat.le_refl _)
  have hu : ∀ t, t < 8 → 0 ≤ scaF p (invN p (byG p g l v m q)) (byG p g l v m) t ∧ scaF p (invN p (byG p g l v m q)) (byG p g l v m) t < p := fun t _ => sca_range hp t
  have hz : ∀ t, byG p g l v m t = 0 → scaF p (invN p (byG p g l v m q)) (byG p g l v m) t = 0 := fun t h => by unfold scaF; rw [h, Int.mul_zero]; rfl
  obtain ⟨r1, r2⟩ := put_red hp2 hR hu hq i3 (fun t ht => hz t (hlow t ht)) (fun i hi => hz _ (hl i hi)) k1 k2 k3
  exact ⟨k, k1, k2, k3, h0, h1, r1, same_trans (snoc_sca (by_span m (Nat.le_refl _)) (by rw [i3, Int.emod_eq_of_lt (by omega) (by omega)])) r2⟩

theorem put_row {p : Int} {g : Nat → Nat → Int} {u : Nat → Int} {k q i : Nat} (hik : i < k) : ∀ j, j < putM k i + 1 → ∀ t, t < 8 → addV (putG p g u k q) (putM k i) (addm p 0 8 (-g i q) (g i) u) j t = putG p g u k q j t := fun j hj t ht => by
  have e : putM k i = i := by unfold putM; rw [if_neg (by omega)]
  rw [e] at hj ⊢
  by_cases h : j < i
  · rw [addV_old h]
  · obtain rfl : j = i := by omega
    rw [addV_new, addm_at8 ht]
    unfold putG
    rw [if_pos hik]
theorem put_row3 {p : Int} {g : Nat → Nat → Int} {u : Nat → Int} {k q i : Nat} (hik : k < i) : ∀ j, j < putM k i + 1 → ∀ t, t < 8 → addV (putG p g u k q) (putM k i) (addm p 0 8 (-g i q) (g i) u) j t = putG p g u k q j t := fun j hj t ht => by
  have e : putM k i = i + 1 := by unfold putM; rw [if_pos hik]
  rw [e] at hj ⊢
  by_cases h : j < i + 1
  · rw [addV_old h]
  · obtain rfl : j = i + 1 := by omega
    rw [addV_new, addm_at8 ht]
    unfold putG
    rw [if_neg (by omega), if_neg (by omega), Nat.add_sub_cancel]
theorem put_row2 {p : Int} {g : Nat → Nat → Int} {u : Nat → Int} {q i : Nat} : ∀ j, j < putM i i + 1 + 1 → ∀ t, t < 8 → addV (addV (putG p g u i q) (putM i i) u) (putM i i + 1) (addm p 0 8 (-g i q) (g i) u) j t = putG p g u i q j t := fun j hj t ht => by
  have e : putM i i = i := by unfold putM; rw [if_neg (by omega)]
  rw [e] at hj ⊢
  by_cases h : j < i + 1
  · rw [addV_old h]
    by_cases h2 : j < i
    · rw [addV_old h2]
    · obtain rfl : j = i := by omega
      rw [addV_new]
      unfold putG
      rw [if_neg (by omega), if_pos rfl]
  · obtain rfl : j = i + 1 := by omega
    rw [addV_new, addm_at8 ht]
    unfold putG
    rw [if_neg (by omega), if_neg (by omega), Nat.add_sub_cancel]
theorem put_last {p : Int} {g : Nat → Nat → Int} {u : Nat → Int} {q m k : Nat} (hkm : k = m) : ∀ j, j < putM k m + 1 → ∀ t, t < 8 → addV (putG p g u k q) (putM k m) u j t = putG p g u k q j t := fun j hj t ht => by
  subst hkm
  have e : putM k k = k := by unfold putM; rw [if_neg (by omega)]
  rw [e] at hj ⊢
  by_cases h : j < k
  · rw [addV_old h]
  · obtain rfl : j = k := by omega
    rw [addV_new]
    unfold putG
    rw [if_neg (by omega), if_pos rfl]
theorem putM_end {k m : Nat} (h : k < m) : putM k m = m + 1 := by unfold putM; rw [if_pos h]
theorem putM_self {k m : Nat} (h : k = m) : putM k m = m := by unfold putM; rw [if_neg (by omega)]

set_option maxRecDepth 100000 in
set_option maxHeartbeats 4000000 in
theorem l01Put_any (p : Int) (v : Nat → Int) (B U : Nat) (a : Option Addr) (m c : Nat) (g : Nat → Nat → Int) (l : Nat → Nat) (w : World) (hp : 0 < p) (hp' : p ≤ 255) (hpr : prime31 p = true) (hU : U ≤ w.heap.size) (hBU : B ≤ U) (hv : ∀ t, t < 8 → 0 ≤ v t ∧ v t < p) (hg : VL w B U a m c g) (hRed : Red p 8 m g l) :
    Calls Tryz.prog 32 #[.int .i64 p, .slice a m c, .agg (row 8 v)] w fun e w' => ∃ a' m' c' g', e = .returned (.slice a' m' c') ∧ Below w.heap.size w w' ∧ VL w' B w'.heap.size a' m' c' g' ∧ (∃ l', Red p 8 m' g' l') ∧ SameSpan p 8 (m + 1) (snocG g m v) m' g' := by
 have Hpr := Lib.hid hpr; clear hpr
 have Hv := Lib.hid hv; clear hv
 have HRed := Lib.hid hRed; clear hRed
 have hm : m ≤ 8 := red_le HRed.out
 have HB := Lib.hid (by_bytes (g := g) (l := l) (k := m) hp hp' Hv.out)
 have HZ : Hid (Bytes 8 zf) := Lib.hid fun t _ => by unfold zf; omega
 cases hz : segEq 0 8 (byG p g l v m) zf
 ·
  obtain ⟨q, hq, hlow, hne⟩ := first_place hz
  obtain ⟨k, hk, hk2, hk3, h0, h1, hPR, hPS⟩ := put_facts Hpr.out hp HRed.out Hv.out hq hlow hne
  have Hlow := Lib.hid hlow; clear hlow
  have Hk2 := Lib.hid hk2; clear hk2
  have Hk3 := Lib.hid hk3; clear hk3
  have hqi : (q : Int) < 8 := by omega
  have hi := invN_spec Hpr.out h0 h1
  obtain ⟨i1, i2, i3⟩ := hi
  have HI3 := Lib.hid i3; clear i3
  have hp31 : p ≤ 31 := by
   have := Hpr.out
   unfold prime31 at this
   simp only [Bool.and_eq_true, decide_eq_true_eq] at this
   exact this.1.2
  have q0 : IntKind.i64.wrap ((invN p (byG p g l v m q)) : Int) = (invN p (byG p g l v m q)) := IntWalk.i64_in _ (by omega)
  obtain ⟨u, hu⟩ : ∃ u : Nat → Int, u = scaF p (invN p (byG p g l v m q)) (byG p g l v m) := ⟨_, rfl⟩
  have HU : Hid (Bytes 8 u) := Lib.hid (by rw [hu]; exact sca_bytes hp hp' _ _)
  have hsr : row 8 (addm p 0 8 (invN p (byG p g l v m q)) zf (byG p g l v m)) = row 8 u := by rw [hu]; exact sca_row
  rw [← hu] at hPR hPS
  clear hu
  have HSR := Lib.hid hsr; clear hsr
  have HPR := Lib.hid hPR; clear hPR
  have HPS := Lib.hid hPS; clear hPS
  go_enter Tryz.func32, Tryz.ntmps32
  go_wp2_with fail
  refine atomC fun W1 e1 => ?_
  have hb1 : Below w.heap.size w W1 := by rw [e1]; exact bt
  have q1 := hb1.size
  have r5_1 : IsRow W1 (w.heap.size) := by rw [e1]; simp [go_sem]
  have c5_1 := congrArg (fun x => blk x (w.heap.size)) e1; simp [go_sem] at c5_1
  have z5_1 := isRow_lt r5_1
  have hv1_1 : VL W1 (B) (U) (a) (m) (c) (g) := by rw [e1]; (repeat (first | exact hg | refine VL.alloc ?_ _ | refine VL.drew ?_ | refine VL.setRow ?_ (by omega) _))
  clear e1 hg
  refine (l01By_any p v B U a m c g l _ hp hp' (by omega) (by omega) hBU Hv.out hv1_1 HRed.out.ech).mono ?_; rintro _ W2 ⟨rfl, hw2⟩
  obtain ⟨r5_2, c5_2, z5_2⟩ := keepZ hw2 z5_1 r5_1 c5_1
  obtain ⟨hb2, q2⟩ := bN hb1 hw2
  have sz2 := hw2.size
  have hv1_2 := hv1_1.below hw2 (by omega)
  clear hw2 hv1_1 r5_1 c5_1 z5_1 hb1
  go_wp2_with fail
  refine atomC fun W3 e3 => ?_
  have hb3 : Below w.heap.size w W3 := by rw [e3]; exact bt
  have q3 := hb3.size
  have r5_3 : IsRow W3 (w.heap.size) := by rw [e3]; simp [go_sem, r5_2, c5_2]
  have c5_3 := congrArg (fun x => blk x (w.heap.size)) e3; simp [go_sem, r5_2, c5_2] at c5_3
  have z5_3 := isRow_lt r5_3
  have hv1_3 : VL W3 (B) (U) (a) (m) (c) (g) := by rw [e3]; exact vtV
  clear e3 r5_2 c5_2 z5_2 hv1_2 hb2
  refine (l01Zero_any _ _).mono ?_; rintro _ W4 ⟨rfl, hw4⟩
  obtain ⟨r5_4, c5_4, z5_4⟩ := keepZ hw4 z5_3 r5_3 c5_3
  obtain ⟨hb4, q4⟩ := bN hb3 hw4
  have sz4 := hw4.size
  have hv1_4 := hv1_3.below hw4 (by omega)
  clear hw4 hv1_3 r5_3 c5_3 z5_3 hb3
  go_wp2_with fail
  refine (l01First_at (byG p g l v m) q _ hq Hlow.out hne).mono ?_; rintro _ W5 ⟨rfl, hw5⟩
  obtain ⟨r5_5, c5_5, z5_5⟩ := keepZ hw5 z5_4 r5_4 c5_4
  obtain ⟨hb5, q5⟩ := bN hb4 hw5
  have sz5 := hw5.size
  have hv1_5 := hv1_4.below hw5 (by omega)
  clear hw5 hv1_4 r5_4 c5_4 z5_4 hb4
  go_wp2
  refine wp_quiet_tail 10 (Below W5.heap.size W5) (by kernel_rfl) (by kernel_rfl) (Below.refl _ _).drew ?_
  simp only [List.take_succ_cons, List.take_zero, List.drop_succ_cons, List.drop_zero]
  iterate 7 (refine q_plain rfl ?_; apply Exists.intro; refine ⟨fun W hW => ?_, ?_⟩; (focus (obtain ⟨x5, y5⟩ := keepB hW z5_5 r5_5 c5_5; go_simp; first | done | rfl)); simp only [Act.put, List.setIfInBounds_toArray, List.set_cons_zero, List.set_cons_succ])
  (refine q_plain rfl ?_; apply Exists.intro; refine ⟨fun W hW => ?_, ?_⟩; (focus (obtain ⟨x5, y5⟩ := keepB hW z5_5 r5_5 c5_5; go_simp; (go_at_call 67; exact (l01Inverse_any _ _ _ Hpr.out h0 h1).mono fun e w2 ⟨he, hw2⟩ => ⟨he, hW.trans (hw2.mono hW.size)⟩))); simp only [Act.put, List.setIfInBounds_toArray, List.set_cons_zero, List.set_cons_succ])
  iterate 1 (refine q_plain rfl ?_; apply Exists.intro; refine ⟨fun W hW => ?_, ?_⟩; (focus (obtain ⟨x5, y5⟩ := keepB hW z5_5 r5_5 c5_5; go_simp; first | done | rfl)); simp only [Act.put, List.setIfInBounds_toArray, List.set_cons_zero, List.set_cons_succ])
  (refine q_plain rfl ?_; apply Exists.intro; refine ⟨fun W hW => ?_, ?_⟩; (focus (obtain ⟨x5, y5⟩ := keepB hW z5_5 r5_5 c5_5; go_simp; (go_at_call 66; exact (l01Add_any _ _ _ _ _ hp hp' (by omega) (by omega) HZ.out HB.out).mono fun e w2 ⟨he, hw2⟩ => ⟨he, hW.trans (hw2.mono hW.size)⟩))); simp only [Act.put, List.setIfInBounds_toArray, List.set_cons_zero, List.set_cons_succ])
  refine wpQuiet_nil ?_
  intro W6 hw6
  obtain ⟨r5_6, c5_6, z5_6⟩ := keepZ hw6 z5_5 r5_5 c5_5
  obtain ⟨hb6, q6⟩ := bN hb5 hw6
  have sz6 := hw6.size
  have hv1_6 := hv1_5.below hw6 (by omega)
  clear hw6 hv1_5 r5_5 c5_5 z5_5 hb5
  go_wp2
  have nw5_W6_0 : (w.heap.size) ≠ W6.heap.size := by omega
  refine atomW fun W7 e7 => ?_
  have hb7 : Below w.heap.size w W7 := by rw [e7]; exact bt
  have q7 := hb7.size
  have R7 : IsRow W7 (w.heap.size) ∧ IsRow W7 (W6.heap.size) := by rw [e7]; simp [go_sem, r5_6, c5_6, nw5_W6_0]
  obtain ⟨r5_7, r30_7⟩ := R7
  have C7 := (⟨congrArg (blk · (w.heap.size)) e7, congrArg (blk · (W6.heap.size)) e7⟩ : _ ∧ _); simp [go_sem, r5_6, c5_6, nw5_W6_0] at C7
  obtain ⟨c5_7, c30_7⟩ := C7
  have z5_7 := isRow_lt r5_7; have z30_7 := isRow_lt r30_7
  have lt85n7 : (w.heap.size) < (W6.heap.size) := by omega
  have hv8_7 := VL.empty (U := W7.heap.size) (Nat.le_refl _) z30_7 r30_7 c30_7 fun _ _ => 0
  have sz8_7 := z30_7
  have hv1_7 : VL W7 (B) (U) (a) (m) (c) (g) := by rw [e7]; exact vtV
  have ap18_7 := apart_range hv1_7 hv8_7 (by omega)
  clear e7 nw5_W6_0 r5_6 c5_6 z5_6 hv1_6 hb6
  go_loopw [8, 9, 10] (fun s8 s9 s10 wr => ∃ i : Nat, ∃ a8_8 : Option Addr, ∃ c8_8 : Nat, ∃ U8_8 : Nat, i ≤ m ∧ s8 = .slice a8_8 (putM k i) c8_8 ∧ s9 = .bool (decide (k < i)) ∧ s10 = .int .i64 i ∧ Below w.heap.size w wr ∧ (IsRow wr (w.heap.size) ∧ blk wr (w.heap.size) = row 8 u) ∧ VL wr (B) (U) (a) (m) (c) (g) ∧ ((B) ≤ (U) ∧ (U) ≤ wr.heap.size) ∧ VL wr (W6.heap.size) (U8_8) (a8_8) (putM k i) (c8_8) (putG p g u k q) ∧ ((W6.heap.size) ≤ (U8_8) ∧ (U8_8) ≤ wr.heap.size) ∧ ApartV (a) (a8_8)) (fun _ _ s10 _ => m - (intOf s10).toNat)
  case atStart => exact ⟨0, some ⟨W6.heap.size, 0, none⟩, 0, W7.heap.size, by omega, (by rw [putM_zero]), (by first | rfl | (simp; done) | go_num), rfl, hb7, ⟨r5_7, c5_7.trans (HSR.out)⟩, hv1_7, (by omega), hv8_7.same (putM_zero k).symm fun i hi => by omega, (by omega), ap18_7⟩
  case round =>
   obtain ⟨i, a8_8, c8_8, U8_8, hle8, rfl, rfl, rfl, hb8, ⟨r5_8, c5_8⟩, hv1_8, hU1_8, hv8_8, hU8_8, ap18_8⟩ := hrel
   obtain ⟨W8, rfl⟩ : ∃ W8 : World, W8 = wr := ⟨_, rfl⟩
   have q8 := hb8.size
   have z5_8 := isRow_lt r5_8
   clear r5_7 c5_7 z5_7 hb7 hv1_7 hv8_7
   by_cases hlt8 : i < m
   ·
    by_cases h5 : i < k
    ·
     obtain ⟨g1_9, F1_9, ea1_9, gB1_9, gU1_9, r1x_9, hc1_9, hm1_9, c1x_9, hFb1_9, hF1_9⟩ := hv1_8.some (by omega)
     cases ea1_9
     have HF1_9 := Lib.hid hF1_9; clear hF1_9
     have HB1_9 := Lib.hid hFb1_9; clear hFb1_9
     have z1x_9 := isRow_lt r1x_9
     have n5_1x : (w.heap.size) ≠ (g1_9) := by omega
     have n1x_5 : (g1_9) ≠ (w.heap.size) := by omega
     have HR1 : Hid (row 8 (fun t => F1_9 (i * 8 + t)) = row 8 (g i)) := Lib.hid (row_congr fun t ht => HF1_9.out i (by omega) t ht)
     have hrow := HR1.out
     obtain ⟨e1, e2, e3, e4⟩ := ech_row HRed.out.ech hp' (show i < m by omega)
     have e1i : ((l i : Nat) : Int) < 8 := by omega
     have HE2 := Lib.hid e2; clear e2
     have HE4 := Lib.hid e4; clear e4
     have hc1 : i * 8 + 8 ≤ c * 8 := by omega
     have hc2 : i * 8 + q < c * 8 := by omega
     have hb0 : F1_9 (i * 8 + q) = g i q := HF1_9.out i (by omega) q hq
     have b1 := (HE4.out q hq).1
     have b2 := (HE4.out q hq).2
     have q1 : IntKind.i64.wrap (g i q) = g i q := IntWalk.i64_in _ (by omega)
     have q2 : IntKind.i64.wrap (-g i q) = -g i q := IntWalk.i64_in _ (by omega)
     have h8 := Hk2.out i h5
     have h8i : (l i : Int) < (q : Int) := by omega
     have hd : decide (k < i) = false := by simp; omega
     have hpm := putM_le k i
     go_wp2_with fail
     refine (l01First_at (g i) (l i) _ e1 HE2.out e3).mono ?_; rintro _ W10 ⟨rfl, hw10⟩
     obtain ⟨r5_10, c5_10, z5_10⟩ := keepZ hw10 z5_8 r5_8 c5_8
     obtain ⟨r1x_10, c1x_10, z1x_10⟩ := keepZ hw10 z1x_9 r1x_9 c1x_9
     obtain ⟨hb10, q10⟩ := bN hb8 hw10
     have sz10 := hw10.size
     have hv1_10 := hv1_8.below hw10 (by omega)
     have hv8_10 := hv8_8.below hw10 (by omega)
     clear hw10 hv1_8 hv8_8 r5_8 c5_8 z5_8 r1x_9 c1x_9 z1x_9 hb8
     go_wp2
     refine wp_quiet_tail_late 16 0 _ (Below W10.heap.size W10) (by kernel_rfl) rfl (by kernel_rfl) (by kernel_rfl) (fun c a w d v h => by cases d <;> exact h) (Below.refl _ _).drew ?_
     simp only [List.take_succ_cons, List.take_zero, List.drop_succ_cons, List.drop_zero]
     iterate 15 (refine q_plain rfl ?_; apply Exists.intro; refine ⟨fun W hW => ?_, ?_⟩; (focus (obtain ⟨x5, y5⟩ := keepB hW z5_10 r5_10 c5_10; obtain ⟨x1x, y1x⟩ := keepB hW z1x_10 r1x_10 c1x_10; go_simp; first | done | rfl)); simp only [Act.put, List.setIfInBounds_toArray, List.set_cons_zero, List.set_cons_succ])
     (refine q_plain rfl ?_; apply Exists.intro; refine ⟨fun W hW => ?_, ?_⟩; (focus (obtain ⟨x5, y5⟩ := keepB hW z5_10 r5_10 c5_10; obtain ⟨x1x, y1x⟩ := keepB hW z1x_10 r1x_10 c1x_10; go_simp; (go_at_call 66; exact (l01Add_any _ _ _ _ _ hp hp' (by omega) (by omega) HE4.out HU.out).mono fun e w2 ⟨he, hw2⟩ => ⟨he, hW.trans (hw2.mono hW.size)⟩))); simp only [Act.put, List.setIfInBounds_toArray, List.set_cons_zero, List.set_cons_succ])
     refine wpQuiet_nil ?_
     intro W11 hw11
     obtain ⟨r5_11, c5_11, z5_11⟩ := keepZ hw11 z5_10 r5_10 c5_10
     obtain ⟨r1x_11, c1x_11, z1x_11⟩ := keepZ hw11 z1x_10 r1x_10 c1x_10
     obtain ⟨hb11, q11⟩ := bN hb10 hw11
     have sz11 := hw11.size
     have hv1_11 := hv1_10.below hw11 (by omega)
     have hv8_11 := hv8_10.below hw11 (by omega)
     clear hw11 hv1_10 hv8_10 r5_10 c5_10 z5_10 r1x_10 c1x_10 z1x_10 hb10
     go_wp2_with (at_builtin; refine atomL ?_)
     have nw5_W11_0 : (w.heap.size) ≠ W11.heap.size := by omega
     have nw1x_W11_0 : (g1_9) ≠ W11.heap.size := by omega
     intro W12 e12
     have hb12 : Below w.heap.size w W12 := by rw [e12]; exact bt
     have q12 := hb12.size
     have R12 : IsRow W12 (w.heap.size) ∧ IsRow W12 (g1_9) ∧ IsRow W12 (W11.heap.size) := by rw [e12]; simp [go_sem, r5_11, c5_11, n5_1x, r1x_11, c1x_11, n1x_5, nw5_W11_0, nw1x_W11_0]
     obtain ⟨r5_12, r1x_12, r68_12⟩ := R12
     have C12 := (⟨congrArg (blk · (w.heap.size)) e12, congrArg (blk · (g1_9)) e12, congrArg (blk · (W11.heap.size)) e12⟩ : _ ∧ _ ∧ _); simp [go_sem, r5_11, c5_11, n5_1x, r1x_11, c1x_11, n1x_5, nw5_W11_0, nw1x_W11_0] at C12
     obtain ⟨c5_12, c1x_12, c68_12⟩ := C12
     have z5_12 := isRow_lt r5_12; have z1x_12 := isRow_lt r1x_12; have z68_12 := isRow_lt r68_12
     have n5_68 : (w.heap.size) ≠ (W11.heap.size) := by omega
     have n1x_68 : (g1_9) ≠ (W11.heap.size) := by omega
     have n68_5 : (W11.heap.size) ≠ (w.heap.size) := by omega
     have n68_1x : (W11.heap.size) ≠ (g1_9) := by omega
     have hv1_12 : VL W12 (B) (U) (some ⟨g1_9, 0, none⟩) (m) (c) (g) := by rw [e12]; exact vtV
     have hv8_12 : VL W12 (W6.heap.size) (U8_8) (a8_8) (putM k i) (c8_8) (putG p g u k q) := by rw [e12]; exact vtV
     clear e12 nw5_W11_0 nw1x_W11_0 r5_11 c5_11 z5_11 r1x_11 c1x_11 z1x_11 hv1_11 hv8_11 hb11
     refine appendV _ rfl _ _ rfl hv8_12 (by omega) (by omega) rfl _ _ (addm p 0 8 (-g i q) (g i) (u)) rfl c68_12 (addm8_bytes hp hp' _ _ _) ?_
     intro a8_13 c8_13 W13 hg13 ha13 hv8_13
     obtain ⟨r5_13, c5_13⟩ := keepG hg13 (hv8_12.ne (by omega)) r5_12 c5_12
     have z5_13 := isRow_lt r5_13
     obtain ⟨r1x_13, c1x_13⟩ := keepG hg13 (hv8_12.ne (by omega)) r1x_12 c1x_12
     have z1x_13 := isRow_lt r1x_13
     have hb13 := below_own hb12 hv8_12 hg13 (by omega) (by omega)
     have q13 := hb13.size
     have sz13 := hg13.size
     have hv1_13 := hv1_12.grown hg13 ap18_8
     have ap18_13 := apart_new ap18_8 hv1_12 (by omega) ha13
     clear hg13 ha13 r5_12 c5_12 z5_12 r1x_12 c1x_12 z1x_12 hv1_12 hv8_12 hb12
     go_wp2
     go_roundw
     case rel => exact ⟨i + 1, (a8_13), (c8_13), (W13.heap.size), by omega, (by rw [putM_lt h5]), (by rw [decide_eq_false (show ¬ k < i + 1 by omega)]), by go_num, bt, ⟨by simp [go_sem, r5_13, c5_13, n5_1x, r1x_13, c1x_13, n1x_5], by simp [go_sem, r5_13, c5_13, n5_1x, r1x_13, c1x_13, n1x_5]⟩, vtV, (by first | omega | (constructor <;> first | omega | (simp; omega))), hv8_13.same (putM_lt h5).symm (put_row h5), (by first | omega | (constructor <;> first | omega | (simp; omega))), ap18_13⟩
     case measure => simp [intOf]; try omega
    ·
     by_cases h6 : i = k
     ·
      obtain ⟨g1_14, F1_14, ea1_14, gB1_14, gU1_14, r1x_14, hc1_14, hm1_14, c1x_14, hFb1_14, hF1_14⟩ := hv1_8.some (by omega)
      cases ea1_14
      have HF1_14 := Lib.hid hF1_14; clear hF1_14
      have HB1_14 := Lib.hid hFb1_14; clear hFb1_14
      have z1x_14 := isRow_lt r1x_14
      have n5_1x : (w.heap.size) ≠ (g1_14) := by omega
      have n1x_5 : (g1_14) ≠ (w.heap.size) := by omega
      subst h6
      have HR1 : Hid (row 8 (fun t => F1_14 (i * 8 + t)) = row 8 (g i)) := Lib.hid (row_congr fun t ht => HF1_14.out i (by omega) t ht)
      have hrow := HR1.out
      obtain ⟨e1, e2, e3, e4⟩ := ech_row HRed.out.ech hp' (show i < m by omega)
      have e1i : ((l i : Nat) : Int) < 8 := by omega
      have HE2 := Lib.hid e2; clear e2
      have HE4 := Lib.hid e4; clear e4
      have hc1 : i * 8 + 8 ≤ c * 8 := by omega
      have hc2 : i * 8 + q < c * 8 := by omega
      have hb0 : F1_14 (i * 8 + q) = g i q := HF1_14.out i (by omega) q hq
      have b1 := (HE4.out q hq).1
      have b2 := (HE4.out q hq).2
      have q1 : IntKind.i64.wrap (g i q) = g i q := IntWalk.i64_in _ (by omega)
      have q2 : IntKind.i64.wrap (-g i q) = -g i q := IntWalk.i64_in _ (by omega)
      have h8 := Hk3.out i (Nat.le_refl _) (by omega)
      have h8i : (q : Int) < (l i : Int) := by omega
      have hd : decide (i < i) = false := by simp
      have hpm := putM_le i i
      go_wp2_with fail
      refine (l01First_at (g i) (l i) _ e1 HE2.out e3).mono ?_; rintro _ W15 ⟨rfl, hw15⟩
      obtain ⟨r5_15, c5_15, z5_15⟩ := keepZ hw15 z5_8 r5_8 c5_8
      obtain ⟨r1x_15, c1x_15, z1x_15⟩ := keepZ hw15 z1x_14 r1x_14 c1x_14
      obtain ⟨hb15, q15⟩ := bN hb8 hw15
      have sz15 := hw15.size
      have hv1_15 := hv1_8.below hw15 (by omega)
      have hv8_15 := hv8_8.below hw15 (by omega)
      clear hw15 hv1_8 hv8_8 r5_8 c5_8 z5_8 r1x_14 c1x_14 z1x_14 hb8
      go_wp2_with (at_builtin; refine atomL ?_)
      have nw5_W15_0 : (w.heap.size) ≠ W15.heap.size := by omega
      have nw1x_W15_0 : (g1_14) ≠ W15.heap.size := by omega
      intro W16 e16
      have hb16 : Below w.heap.size w W16 := by rw [e16]; exact bt
      have q16 := hb16.size
      have R16 : IsRow W16 (w.heap.size) ∧ IsRow W16 (g1_14) ∧ IsRow W16 (W15.heap.size) := by rw [e16]; simp [go_sem, r5_15, c5_15, n5_1x, r1x_15, c1x_15, n1x_5, nw5_W15_0, nw1x_W15_0]
      obtain ⟨r5_16, r1x_16, r50_16⟩ := R16
      have C16 := (⟨congrArg (blk · (w.heap.size)) e16, congrArg (blk · (g1_14)) e16, congrArg (blk · (W15.heap.size)) e16⟩ : _ ∧ _ ∧ _); simp [go_sem, r5_15, c5_15, n5_1x, r1x_15, c1x_15, n1x_5, nw5_W15_0, nw1x_W15_0] at C16
      obtain ⟨c5_16, c1x_16, c50_16⟩ := C16
      have z5_16 := isRow_lt r5_16; have z1x_16 := isRow_lt r1x_16; have z50_16 := isRow_lt r50_16
      have n5_50 : (w.heap.size) ≠ (W15.heap.size) := by omega
      have n1x_50 : (g1_14) ≠ (W15.heap.size) := by omega
      have n50_5 : (W15.heap.size) ≠ (w.heap.size) := by omega
      have n50_1x : (W15.heap.size) ≠ (g1_14) := by omega
      have hv1_16 : VL W16 (B) (U) (some ⟨g1_14, 0, none⟩) (m) (c) (g) := by rw [e16]; exact vtV
      have hv8_16 : VL W16 (W6.heap.size) (U8_8) (a8_8) (putM i i) (c8_8) (putG p g u i q) := by rw [e16]; exact vtV
      clear e16 nw5_W15_0 nw1x_W15_0 r5_15 c5_15 z5_15 r1x_15 c1x_15 z1x_15 hv1_15 hv8_15 hb15
      refine appendV _ rfl _ _ rfl hv8_16 (by omega) (by omega) rfl _ _ (u) rfl c50_16 HU.out ?_
      intro a8_17 c8_17 W17 hg17 ha17 hv8_17
      obtain ⟨r5_17, c5_17⟩ := keepG hg17 (hv8_16.ne (by omega)) r5_16 c5_16
      have z5_17 := isRow_lt r5_17
      obtain ⟨r1x_17, c1x_17⟩ := keepG hg17 (hv8_16.ne (by omega)) r1x_16 c1x_16
      have z1x_17 := isRow_lt r1x_17
      have hb17 := below_own hb16 hv8_16 hg17 (by omega) (by omega)
      have q17 := hb17.size
      have sz17 := hg17.size
      have hv1_17 := hv1_16.grown hg17 ap18_8
      have ap18_17 := apart_new ap18_8 hv1_16 (by omega) ha17
      clear hg17 ha17 r5_16 c5_16 z5_16 r1x_16 c1x_16 z1x_16 hv1_16 hv8_16 hb16
      go_wp2
      refine wp_quiet_tail_late 16 0 _ (Below W17.heap.size W17) (by kernel_rfl) rfl (by kernel_rfl) (by kernel_rfl) (fun c a w d v h => by cases d <;> exact h) (Below.refl _ _).drew ?_
      simp only [List.take_succ_cons, List.take_zero, List.drop_succ_cons, List.drop_zero]
      iterate 15 (refine q_plain rfl ?_; apply Exists.intro; refine ⟨fun W hW => ?_, ?_⟩; (focus (obtain ⟨x5, y5⟩ := keepB hW z5_17 r5_17 c5_17; obtain ⟨x1x, y1x⟩ := keepB hW z1x_17 r1x_17 c1x_17; go_simp; first | done | rfl)); simp only [Act.put, List.setIfInBounds_toArray, List.set_cons_zero, List.set_cons_succ])
      (refine q_plain rfl ?_; apply Exists.intro; refine ⟨fun W hW => ?_, ?_⟩; (focus (obtain ⟨x5, y5⟩ := keepB hW z5_17 r5_17 c5_17; obtain ⟨x1x, y1x⟩ := keepB hW z1x_17 r1x_17 c1x_17; go_simp; (go_at_call 66; exact (l01Add_any _ _ _ _ _ hp hp' (by omega) (by omega) HE4.out HU.out).mono fun e w2 ⟨he, hw2⟩ => ⟨he, hW.trans (hw2.mono hW.size)⟩))); simp only [Act.put, List.setIfInBounds_toArray, List.set_cons_zero, List.set_cons_succ])
      refine wpQuiet_nil ?_
      intro W18 hw18
      obtain ⟨r5_18, c5_18, z5_18⟩ := keepZ hw18 z5_17 r5_17 c5_17
      obtain ⟨r1x_18, c1x_18, z1x_18⟩ := keepZ hw18 z1x_17 r1x_17 c1x_17
      obtain ⟨hb18, q18⟩ := bN hb17 hw18
      have sz18 := hw18.size
      have hv1_18 := hv1_17.below hw18 (by omega)
      have hv8_18 := hv8_17.below hw18 (by omega)
      clear hw18 hv1_17 hv8_17 r5_17 c5_17 z5_17 r1x_17 c1x_17 z1x_17 hb17
      go_wp2_with (at_builtin; refine atomL ?_)
      have nw5_W18_0 : (w.heap.size) ≠ W18.heap.size := by omega
      have nw1x_W18_0 : (g1_14) ≠ W18.heap.size := by omega
      intro W19 e19
      have hb19 : Below w.heap.size w W19 := by rw [e19]; exact bt
      have q19 := hb19.size
      have R19 : IsRow W19 (w.heap.size) ∧ IsRow W19 (g1_14) ∧ IsRow W19 (W18.heap.size) := by rw [e19]; simp [go_sem, r5_18, c5_18, n5_1x, r1x_18, c1x_18, n1x_5, nw5_W18_0, nw1x_W18_0]
      obtain ⟨r5_19, r1x_19, r68_19⟩ := R19
      have C19 := (⟨congrArg (blk · (w.heap.size)) e19, congrArg (blk · (g1_14)) e19, congrArg (blk · (W18.heap.size)) e19⟩ : _ ∧ _ ∧ _); simp [go_sem, r5_18, c5_18, n5_1x, r1x_18, c1x_18, n1x_5, nw5_W18_0, nw1x_W18_0] at C19
      obtain ⟨c5_19, c1x_19, c68_19⟩ := C19
      have z5_19 := isRow_lt r5_19; have z1x_19 := isRow_lt r1x_19; have z68_19 := isRow_lt r68_19
      have n5_68 : (w.heap.size) ≠ (W18.heap.size) := by omega
      have n1x_68 : (g1_14) ≠ (W18.heap.size) := by omega
      have n68_5 : (W18.heap.size) ≠ (w.heap.size) := by omega
      have n68_1x : (W18.heap.size) ≠ (g1_14) := by omega
      have hv1_19 : VL W19 (B) (U) (some ⟨g1_14, 0, none⟩) (m) (c) (g) := by rw [e19]; exact vtV
      have hv8_19 : VL W19 (W6.heap.size) (W17.heap.size) (a8_17) (putM i i + 1) (c8_17) (addV (putG p g u i q) (putM i i) (u)) := by rw [e19]; exact vtV
      clear e19 nw5_W18_0 nw1x_W18_0 r5_18 c5_18 z5_18 r1x_18 c1x_18 z1x_18 hv1_18 hv8_18 hb18
      refine appendV _ rfl _ _ rfl hv8_19 (by omega) (by omega) rfl _ _ (addm p 0 8 (-g i q) (g i) (u)) rfl c68_19 (addm8_bytes hp hp' _ _ _) ?_
      intro a8_20 c8_20 W20 hg20 ha20 hv8_20
      obtain ⟨r5_20, c5_20⟩ := keepG hg20 (hv8_19.ne (by omega)) r5_19 c5_19
      have z5_20 := isRow_lt r5_20
      obtain ⟨r1x_20, c1x_20⟩ := keepG hg20 (hv8_19.ne (by omega)) r1x_19 c1x_19
      have z1x_20 := isRow_lt r1x_20
      have hb20 := below_own hb19 hv8_19 hg20 (by omega) (by omega)
      have q20 := hb20.size
      have sz20 := hg20.size
      have hv1_20 := hv1_19.grown hg20 ap18_17
      have ap18_20 := apart_new ap18_17 hv1_19 (by omega) ha20
      clear hg20 ha20 r5_19 c5_19 z5_19 r1x_19 c1x_19 z1x_19 hv1_19 hv8_19 hb19
      go_wp2
      go_roundw
      case rel => exact ⟨i + 1, (a8_20), (c8_20), (W20.heap.size), by omega, (by rw [putM_eq]), (by rw [decide_eq_true (show i < i + 1 by omega)]), by go_num, bt, ⟨by simp [go_sem, r5_20, c5_20, n5_1x, r1x_20, c1x_20, n1x_5], by simp [go_sem, r5_20, c5_20, n5_1x, r1x_20, c1x_20, n1x_5]⟩, vtV, (by first | omega | (constructor <;> first | omega | (simp; omega))), hv8_20.same putM_eq.symm put_row2, (by first | omega | (constructor <;> first | omega | (simp; omega))), ap18_20⟩
      case measure => simp [intOf]; try omega
     ·
      obtain ⟨g1_21, F1_21, ea1_21, gB1_21, gU1_21, r1x_21, hc1_21, hm1_21, c1x_21, hFb1_21, hF1_21⟩ := hv1_8.some (by omega)
      cases ea1_21
      have HF1_21 := Lib.hid hF1_21; clear hF1_21
      have HB1_21 := Lib.hid hFb1_21; clear hFb1_21
      have z1x_21 := isRow_lt r1x_21
      have n5_1x : (w.heap.size) ≠ (g1_21) := by omega
      have n1x_5 : (g1_21) ≠ (w.heap.size) := by omega
      have HR1 : Hid (row 8 (fun t => F1_21 (i * 8 + t)) = row 8 (g i)) := Lib.hid (row_congr fun t ht => HF1_21.out i (by omega) t ht)
      have hrow := HR1.out
      obtain ⟨e1, e2, e3, e4⟩ := ech_row HRed.out.ech hp' (show i < m by omega)
      have e1i : ((l i : Nat) : Int) < 8 := by omega
      have HE2 := Lib.hid e2; clear e2
      have HE4 := Lib.hid e4; clear e4
      have hc1 : i * 8 + 8 ≤ c * 8 := by omega
      have hc2 : i * 8 + q < c * 8 := by omega
      have hb0 : F1_21 (i * 8 + q) = g i q := HF1_21.out i (by omega) q hq
      have b1 := (HE4.out q hq).1
      have b2 := (HE4.out q hq).2
      have q1 : IntKind.i64.wrap (g i q) = g i q := IntWalk.i64_in _ (by omega)
      have q2 : IntKind.i64.wrap (-g i q) = -g i q := IntWalk.i64_in _ (by omega)
      have h7 : k < i := by omega
      have hd : decide (k < i) = true := by simpa using h7
      have hpm := putM_le k i
      go_wp2
      refine wp_quiet_tail_late 16 0 _ (Below W8.heap.size W8) (by kernel_rfl) rfl (by kernel_rfl) (by kernel_rfl) (fun c a w d v h => by cases d <;> exact h) (Below.refl _ _).drew ?_
      simp only [List.take_succ_cons, List.take_zero, List.drop_succ_cons, List.drop_zero]
      iterate 15 (refine q_plain rfl ?_; apply Exists.intro; refine ⟨fun W hW => ?_, ?_⟩; (focus (obtain ⟨x5, y5⟩ := keepB hW z5_8 r5_8 c5_8; obtain ⟨x1x, y1x⟩ := keepB hW z1x_21 r1x_21 c1x_21; go_simp; first | done | rfl)); simp only [Act.put, List.setIfInBounds_toArray, List.set_cons_zero, List.set_cons_succ])
      (refine q_plain rfl ?_; apply Exists.intro; refine ⟨fun W hW => ?_, ?_⟩; (focus (obtain ⟨x5, y5⟩ := keepB hW z5_8 r5_8 c5_8; obtain ⟨x1x, y1x⟩ := keepB hW z1x_21 r1x_21 c1x_21; go_simp; (go_at_call 66; exact (l01Add_any _ _ _ _ _ hp hp' (by omega) (by omega) HE4.out HU.out).mono fun e w2 ⟨he, hw2⟩ => ⟨he, hW.trans (hw2.mono hW.size)⟩))); simp only [Act.put, List.setIfInBounds_toArray, List.set_cons_zero, List.set_cons_succ])
      refine wpQuiet_nil ?_
      intro W22 hw22
      obtain ⟨r5_22, c5_22, z5_22⟩ := keepZ hw22 z5_8 r5_8 c5_8
      obtain ⟨r1x_22, c1x_22, z1x_22⟩ := keepZ hw22 z1x_21 r1x_21 c1x_21
      obtain ⟨hb22, q22⟩ := bN hb8 hw22
      have sz22 := hw22.size
      have hv1_22 := hv1_8.below hw22 (by omega)
      have hv8_22 := hv8_8.below hw22 (by omega)
      clear hw22 hv1_8 hv8_8 r5_8 c5_8 z5_8 r1x_21 c1x_21 z1x_21 hb8
      go_wp2_with (at_builtin; refine atomL ?_)
      have nw5_W22_0 : (w.heap.size) ≠ W22.heap.size := by omega
      have nw1x_W22_0 : (g1_21) ≠ W22.heap.size := by omega
      intro W23 e23
      have hb23 : Below w.heap.size w W23 := by rw [e23]; exact bt
      have q23 := hb23.size
      have R23 : IsRow W23 (w.heap.size) ∧ IsRow W23 (g1_21) ∧ IsRow W23 (W22.heap.size) := by rw [e23]; simp [go_sem, r5_22, c5_22, n5_1x, r1x_22, c1x_22, n1x_5, nw5_W22_0, nw1x_W22_0]
      obtain ⟨r5_23, r1x_23, r68_23⟩ := R23
      have C23 := (⟨congrArg (blk · (w.heap.size)) e23, congrArg (blk · (g1_21)) e23, congrArg (blk · (W22.heap.size)) e23⟩ : _ ∧ _ ∧ _); simp [go_sem, r5_22, c5_22, n5_1x, r1x_22, c1x_22, n1x_5, nw5_W22_0, nw1x_W22_0] at C23
      obtain ⟨c5_23, c1x_23, c68_23⟩ := C23
      have z5_23 := isRow_lt r5_23; have z1x_23 := isRow_lt r1x_23; have z68_23 := isRow_lt r68_23
      have n5_68 : (w.heap.size) ≠ (W22.heap.size) := by omega
      have n1x_68 : (g1_21) ≠ (W22.heap.size) := by omega
      have n68_5 : (W22.heap.size) ≠ (w.heap.size) := by omega
      have n68_1x : (W22.heap.size) ≠ (g1_21) := by omega
      have hv1_23 : VL W23 (B) (U) (some ⟨g1_21, 0, none⟩) (m) (c) (g) := by rw [e23]; exact vtV
      have hv8_23 : VL W23 (W6.heap.size) (U8_8) (a8_8) (putM k i) (c8_8) (putG p g u k q) := by rw [e23]; exact vtV
      clear e23 nw5_W22_0 nw1x_W22_0 r5_22 c5_22 z5_22 r1x_22 c1x_22 z1x_22 hv1_22 hv8_22 hb22
      refine appendV _ rfl _ _ rfl hv8_23 (by omega) (by omega) rfl _ _ (addm p 0 8 (-g i q) (g i) (u)) rfl c68_23 (addm8_bytes hp hp' _ _ _) ?_
      intro a8_24 c8_24 W24 hg24 ha24 hv8_24
      obtain ⟨r5_24, c5_24⟩ := keepG hg24 (hv8_23.ne (by omega)) r5_23 c5_23
      have z5_24 := isRow_lt r5_24
      obtain ⟨r1x_24, c1x_24⟩ := keepG hg24 (hv8_23.ne (by omega)) r1x_23 c1x_23
      have z1x_24 := isRow_lt r1x_24
      have hb24 := below_own hb23 hv8_23 hg24 (by omega) (by omega)
      have q24 := hb24.size
      have sz24 := hg24.size
      have hv1_24 := hv1_23.grown hg24 ap18_8
      have ap18_24 := apart_new ap18_8 hv1_23 (by omega) ha24
      clear hg24 ha24 r5_23 c5_23 z5_23 r1x_23 c1x_23 z1x_23 hv1_23 hv8_23 hb23
      go_wp2
      go_roundw
      case rel => exact ⟨i + 1, (a8_24), (c8_24), (W24.heap.size), by omega, (by rw [putM_gt h7]), (by rw [decide_eq_true (show k < i + 1 by omega)]), by go_num, bt, ⟨by simp [go_sem, r5_24, c5_24, n5_1x, r1x_24, c1x_24, n1x_5], by simp [go_sem, r5_24, c5_24, n5_1x, r1x_24, c1x_24, n1x_5]⟩, vtV, (by first | omega | (constructor <;> first | omega | (simp; omega))), hv8_24.same (putM_gt h7).symm (put_row3 h7), (by first | omega | (constructor <;> first | omega | (simp; omega))), ap18_24⟩
      case measure => simp [intOf]; try omega
   ·
    obtain rfl : m = i := by omega
    by_cases h5 : k < m
    ·
     have hd : decide (k < m) = true := by simpa using h5
     go_wp2_with fail
     go_ret
     exact ⟨_, _, _, _, rfl, bt, (hv8_8).wider (by omega) (by omega), ⟨_, by rw [putM_end h5]; exact HPR.out⟩, by rw [putM_end h5]; exact HPS.out⟩
    ·
     have HKM : Hid (k = m) := Lib.hid (by omega)
     have hd : decide (k < m) = false := by simp; omega
     have hpm := putM_le k m
     go_wp2_with (at_builtin; refine atomL ?_)
     intro W25 e25
     have hb25 : Below w.heap.size w W25 := by rw [e25]; exact bt
     have q25 := hb25.size
     have r74_25 : IsRow W25 (W8.heap.size) := by rw [e25]; simp [go_sem, r5_8]
     have c74_25 := congrArg (fun x => blk x (W8.heap.size)) e25; simp [go_sem, r5_8] at c74_25
     have z74_25 := isRow_lt r74_25
     have hv1_25 : VL W25 (B) (U) (a) (m) (c) (g) := by rw [e25]; exact vtV
     have hv8_25 : VL W25 (W6.heap.size) (U8_8) (a8_8) (putM k m) (c8_8) (putG p g u k q) := by rw [e25]; exact vtV
     clear e25 hv1_8 hv8_8 hb8
     refine appendV _ rfl _ _ rfl hv8_25 (by omega) (by omega) rfl _ _ (u) rfl c74_25 HU.out ?_
     intro a8_26 c8_26 W26 hg26 ha26 hv8_26
     have hb26 := below_own hb25 hv8_25 hg26 (by omega) (by omega)
     have q26 := hb26.size
     have sz26 := hg26.size
     have hv1_26 := hv1_25.grown hg26 ap18_8
     have ap18_26 := apart_new ap18_8 hv1_25 (by omega) ha26
     clear hg26 ha26 hv1_25 hv8_25 hb25
     go_wp2_with fail
     go_ret
     exact ⟨_, _, _, _, rfl, bt, (hv8_26.same rfl (put_last HKM.out)).wider (by omega) (by omega), ⟨_, by rw [putM_self HKM.out]; exact HPR.out⟩, by rw [putM_self HKM.out]; exact HPS.out⟩
 ·
  have HS := Lib.hid (snoc_same ((by_zero_iff hp HRed.out.ech Hv.out).1 fun t ht => by have := (segEq_iff 0 8 _ _).1 hz t ht; rw [Nat.zero_add] at this; exact this))
  go_enter Tryz.func32, Tryz.ntmps32
  go_wp2_with fail
  refine atomC fun W27 e27 => ?_
  have hb27 : Below w.heap.size w W27 := by rw [e27]; exact bt
  have q27 := hb27.size
  have r5_27 : IsRow W27 (w.heap.size) := by rw [e27]; simp [go_sem]
  have c5_27 := congrArg (fun x => blk x (w.heap.size)) e27; simp [go_sem] at c5_27
  have z5_27 := isRow_lt r5_27
  have hv1_27 : VL W27 (B) (U) (a) (m) (c) (g) := by rw [e27]; (repeat (first | exact hg | refine VL.alloc ?_ _ | refine VL.drew ?_ | refine VL.setRow ?_ (by omega) _))
  clear e27 hg
  refine (l01By_any p v B U a m c g l _ hp hp' (by omega) (by omega) hBU Hv.out hv1_27 HRed.out.ech).mono ?_; rintro _ W28 ⟨rfl, hw28⟩
  obtain ⟨r5_28, c5_28, z5_28⟩ := keepZ hw28 z5_27 r5_27 c5_27
  obtain ⟨hb28, q28⟩ := bN hb27 hw28
  have sz28 := hw28.size
  have hv1_28 := hv1_27.below hw28 (by omega)
  clear hw28 hv1_27 r5_27 c5_27 z5_27 hb27
  go_wp2_with fail
  refine atomC fun W29 e29 => ?_
  have hb29 : Below w.heap.size w W29 := by rw [e29]; exact bt
  have q29 := hb29.size
  have r5_29 : IsRow W29 (w.heap.size) := by rw [e29]; simp [go_sem, r5_28, c5_28]
  have c5_29 := congrArg (fun x => blk x (w.heap.size)) e29; simp [go_sem, r5_28, c5_28] at c5_29
  have z5_29 := isRow_lt r5_29
  have hv1_29 : VL W29 (B) (U) (a) (m) (c) (g) := by rw [e29]; exact vtV
  clear e29 r5_28 c5_28 z5_28 hv1_28 hb28
  refine (l01Zero_any _ _).mono ?_; rintro _ W30 ⟨rfl, hw30⟩
  obtain ⟨r5_30, c5_30, z5_30⟩ := keepZ hw30 z5_29 r5_29 c5_29
  obtain ⟨hb30, q30⟩ := bN hb29 hw30
  have sz30 := hw30.size
  have hv1_30 := hv1_29.below hw30 (by omega)
  clear hw30 hv1_29 r5_29 c5_29 z5_29 hb29
  go_wp2_with fail
  go_ret
  exact ⟨_, _, _, _, rfl, bt, (hv1_30).wider (by omega) (by omega), ⟨_, HRed.out⟩, HS.out⟩

theorem snoc_succ {p : Int} {N i : Nat} {g : Nat → Nat → Int} : SameSpan p N (i + 1) g (i + 1) (snocG g i (g i)) := by
  have e : ∀ j, j < i + 1 → snocG g i (g i) j = g j := fun j hj => by
    unfold snocG
    split
    · rfl
    · rw [show j = i by omega]
  exact ⟨fun j hj => by rw [← e j hj]; exact span_self hj, fun j hj => by rw [e j hj]; exact span_self hj⟩
theorem red_none {p : Int} {N : Nat} {f : Nat → Nat → Int} : Red p N 0 f (fun _ => 0) := ⟨fun _ h => by omega, fun _ h => by omega, fun _ _ _ h => by omega, fun _ h => by omega, fun _ h => by omega, fun _ _ h => by omega⟩
theorem same_none {p : Int} {N : Nat} {f g : Nat → Nat → Int} : SameSpan p N 0 g 0 f := ⟨fun _ h => by omega, fun _ h => by omega⟩

set_option maxRecDepth 100000 in
set_option maxHeartbeats 1000000 in
theorem l01Reduce_any (p : Int) (B U : Nat) (a : Option Addr) (m c : Nat) (g : Nat → Nat → Int) (w : World) (hp : 0 < p) (hp' : p ≤ 255) (hpr : prime31 p = true) (hm : m ≤ 1000000) (hU : U ≤ w.heap.size) (hBU : B ≤ U) (hv : ∀ i, i < m → ∀ t, t < 8 → 0 ≤ g i t ∧ g i t < p) (hg : VL w B U a m c g) :
    Calls Tryz.prog 41 #[.int .i64 p, .slice a m c] w fun e w' => ∃ a' m' c' g', e = .returned (.slice a' m' c') ∧ Below w.heap.size w w' ∧ VL w' w.heap.size w'.heap.size a' m' c' g' ∧ (∃ l', Red p 8 m' g' l') ∧ SameSpan p 8 m g m' g' := by
 have Hpr := Lib.hid hpr; clear hpr
 have Hv := Lib.hid hv; clear hv
 go_enter Tryz.func41, Tryz.ntmps41
 go_wp2
 refine atomW fun W1 e1 => ?_
 have hb1 : Below w.heap.size w W1 := by rw [e1]; exact bt
 have q1 := hb1.size
 have r7_1 : IsRow W1 (w.heap.size) := by rw [e1]; simp [go_sem]
 have c7_1 := congrArg (fun x => blk x (w.heap.size)) e1; simp [go_sem] at c7_1
 have z7_1 := isRow_lt r7_1
 have hv5_1 := VL.empty (U := W1.heap.size) (Nat.le_refl _) z7_1 r7_1 c7_1 fun _ _ => 0
 have sz5_1 := z7_1
 have hv1_1 : VL W1 (B) (U) (a) (m) (c) (g) := by rw [e1]; (repeat (first | exact hg | refine VL.alloc ?_ _ | refine VL.drew ?_ | refine VL.setRow ?_ (by omega) _))
 clear e1 hg
 go_loopw [5, 6] (fun s5 s6 wr => ∃ i : Nat, ∃ a5_2 : Option Addr, ∃ c5_2 : Nat, ∃ U5_2 : Nat, ∃ m5_2 : Nat, ∃ f5_2 : Nat → Nat → Int, i ≤ m ∧ s5 = .slice a5_2 (m5_2) c5_2 ∧ s6 = .int .i64 i ∧ Below w.heap.size w wr ∧ VL wr (B) (U) (a) (m) (c) (g) ∧ ((B) ≤ (U) ∧ (U) ≤ wr.heap.size) ∧ VL wr (w.heap.size) (U5_2) (a5_2) (m5_2) (c5_2) (f5_2) ∧ ((w.heap.size) ≤ (U5_2) ∧ (U5_2) ≤ wr.heap.size) ∧ (∃ l', Red p 8 (m5_2) (f5_2) l') ∧ SameSpan p 8 i g (m5_2) (f5_2)) (fun _ s6 _ => m - (intOf s6).toNat)
 case atStart => exact ⟨0, some ⟨w.heap.size, 0, none⟩, 0, W1.heap.size, 0, fun _ _ => 0, by omega, (by first | rfl | (simp; done) | go_num), rfl, hb1, hv1_1, (by omega), hv5_1, (by omega), ⟨⟨_, red_none⟩, same_none⟩⟩
 case round =>
  obtain ⟨i, a5_2, c5_2, U5_2, m5_2, f5_2, hle2, rfl, rfl, hb2, hv1_2, hU1_2, hv5_2, hU5_2, hx2⟩ := hrel
  obtain ⟨W2, rfl⟩ : ∃ W2 : World, W2 = wr := ⟨_, rfl⟩
  have q2 := hb2.size
  have HX2 := Lib.hid hx2; clear hx2
  clear hb1 hv1_1 hv5_1
  by_cases hlt2 : i < m
  ·
   obtain ⟨g1_3, F1_3, ea1_3, gB1_3, gU1_3, r1x_3, hc1_3, hm1_3, c1x_3, hFb1_3, hF1_3⟩ := hv1_2.some (by omega)
   cases ea1_3
   have HF1_3 := Lib.hid hF1_3; clear hF1_3
   have HB1_3 := Lib.hid hFb1_3; clear hFb1_3
   have z1x_3 := isRow_lt r1x_3
   have HR1 : Hid (row 8 (fun t => F1_3 (i * 8 + t)) = row 8 (g i)) := Lib.hid (row_congr fun t ht => HF1_3.out i (by omega) t ht)
   have hrow := HR1.out
   have hc1 : i * 8 + 8 ≤ c * 8 := by omega
   obtain ⟨l5, hl5⟩ := HX2.out.1
   have HL := Lib.hid hl5; clear hl5
   go_wp2_with fail
   have lt51xn4 : (g1_3) < W2.heap.size := z1x_3
   refine (l01Put_any p (g i) _ _ _ _ _ _ _ _ hp hp' Hpr.out (by omega) (by omega) (Hv.out i hlt2) hv5_2 HL.out).mono ?_; rintro _ W4 ⟨a5_4, m5_4, c5_4, f5_4, rfl, hw4, hv5_4, hr4, hs4⟩
   obtain ⟨r1x_4, c1x_4, z1x_4⟩ := keepZ hw4 z1x_3 r1x_3 c1x_3
   obtain ⟨hb4, q4⟩ := bN hb2 hw4
   have sz4 := hw4.size
   have hv1_4 := hv1_2.below hw4 (by omega)
   clear hw4 hv1_2 r1x_3 c1x_3 z1x_3 hb2
   have HRr := Lib.hid hr4; clear hr4
   have HSs := Lib.hid hs4; clear hs4
   go_wp2
   go_roundw
   case rel => exact ⟨i + 1, (a5_4), (c5_4), (W4.heap.size), (m5_4), (f5_4), by omega, (by first | rfl | go_num | (simp; done)), by go_num, bt, vtV, (by first | omega | (constructor <;> first | omega | (simp; omega))), vtV, (by first | omega | (constructor <;> first | omega | (simp; omega))), ⟨HRr.out, same_trans snoc_succ (same_trans (snoc_congr HX2.out.2) HSs.out)⟩⟩
   case measure => simp [intOf]; try omega
  ·
   obtain rfl : m = i := by omega
   go_wp2_with fail
   go_ret
   exact ⟨_, _, _, _, rfl, bt, (hv5_2).wider (by omega) (by omega), HX2.out.1, HX2.out.2⟩

end Go.Proofs.YtjmmmggnbndolaaGreat
