/- Centres: law CentreOf. -/
import Derived.Test.YtjpdpnplnelgcaaL5
import Derived.Test.YtjpdpnplnelgcaaP13
import Derived.Test.YtjpdpnplnelgcaaWit0
import Derived.Test.YtjpdpnplnelgcaaRegionG
namespace Go.Proofs.Ytjpdpnplnelgcaa
open Go.RowKit
set_option linter.unusedSimpArgs false
set_option linter.unusedVariables false
attribute [local irreducible] wpQuiet wpQE

/-! ### the reduced list of a space, by choice -/
open Classical in
noncomputable def telN (p : Int) (S : (Nat → Int) → Prop) : Nat := if h : ∃ R g, Tells p 8 R g S then h.choose else 0
open Classical in
noncomputable def telG (p : Int) (S : (Nat → Int) → Prop) : Nat → Nat → Int := if h : ∃ R g, Tells p 8 R g S then h.choose_spec.choose else fun _ _ => 0
theorem tel_yes {p : Int} {S : (Nat → Int) → Prop} {R : Nat} {g : Nat → Nat → Int} (h : Tells p 8 R g S) : Tells p 8 (telN p S) (telG p S) S := by
  have h1 : ∃ R g, Tells p 8 R g S := ⟨R, g, h⟩
  unfold telN telG
  rw [dif_pos h1, dif_pos h1]
  exact h1.choose_spec.choose_spec
theorem tel_of {p : Int} {S : (Nat → Int) → Prop} {R : Nat} {g : Nat → Nat → Int} (hp : 2 ≤ p) (h : Tells p 8 R g S) : R = telN p S ∧ ∀ i, i < R → ∀ t, t < 8 → g i t = telG p S i t := tells_unique hp h (tel_yes h)
theorem tel_le (p : Int) (S : (Nat → Int) → Prop) : telN p S ≤ 8 := by
  by_cases h : ∃ R g, Tells p 8 R g S
  · obtain ⟨R, g, h⟩ := h
    exact tells_le (tel_yes h)
  · unfold telN
    rw [dif_neg h]
    omega
theorem kernelOf_to (p : Int) (B U : Nat) (a : Option Addr) (m c N : Nat) (g : Nat → Nat → Int) (S : (Nat → Int) → Prop) (w : World) (hp : 0 < p) (hp' : p ≤ 255) (hpr : prime31 p = true) (hm0 : 0 < m) (hm : m ≤ 8) (hN0 : 0 < N) (hN : N ≤ 400) (hU : U ≤ w.heap.size) (hg : ∀ i, i < m → ∀ t, t < N → 0 ≤ g i t ∧ g i t < p) (hL : RL w B U a m c N g) (hS : ∀ v, KerOf p N m g v ↔ S v) :
    Calls Try.prog 51 #[.int .i64 p, .slice a m c] w fun e w' => ∃ a c, e = .returned (.slice a (telN p S) c) ∧ Below w.heap.size w w' ∧ VL w' w.heap.size w'.heap.size a (telN p S) c (telG p S) :=
  (kernelOf_any p B U a m c N g w hp hp' hpr hm0 hm hN0 hN hU hg hL).mono fun e w' hh => by
    obtain ⟨a', m', c', g', rfl, h2, h3, h4⟩ := hh
    obtain ⟨e1, e2⟩ := tel_of (p2_of hpr) (tells_iff h4 hS)
    exact ⟨a', c', by rw [e1], h2, h3.same e1 e2⟩
theorem addV_row {h : Nat → Nat → Int} {i N : Nat} {u : Nat → Int} (e : ∀ t, t < N → u t = h i t) : ∀ k, k < i + 1 → ∀ t, t < N → addV h i u k t = h k t := fun k hk t ht => by
  by_cases h1 : k < i
  · rw [addV_old h1]
  · obtain rfl : k = i := by omega
    rw [addV_new]; exact e t ht
/-- the basis spans the vectors with nothing behind n -/
theorem whole_tells {p : Int} {n : Nat} (hp : 2 ≤ p) (hn : n ≤ 8) : Tells p 8 n ebas (fun v => ∀ t, n ≤ t → t < 8 → v t % p = 0) := by
  refine ⟨⟨fun i => i, ⟨fun i _ t _ => ebas_range hp i t, fun i hi => by omega, fun i j h _ => h, fun i _ => by unfold ebas upd; rw [if_pos rfl], fun i _ t ht => by unfold ebas upd zf; rw [if_neg (by omega)], fun i j _ _ h => by unfold ebas upd zf; rw [if_neg (by omega)]⟩⟩, fun v => ⟨?_, fun h => ⟨v, fun t ht => ?_⟩⟩⟩
  · rintro ⟨c, hc⟩ t h1 h2
    rw [hc t h2, sumTo_zero n fun i hi => by unfold ebas upd zf; rw [if_neg (by omega), Int.mul_zero]]
    simp
  · by_cases hlt : t < n
    · rw [sumTo_one (k := t) n hlt fun i _ hne => by unfold ebas upd zf; rw [if_neg (by omega), Int.mul_zero]]
      unfold ebas upd
      rw [if_pos rfl, Int.mul_one]
    · rw [h t (by omega) ht, sumTo_zero n fun i hi => by unfold ebas upd zf; rw [if_neg (by omega), Int.mul_zero]]
      simp
/-- nothing behind n, and led to 0 by the first i of the linear maps A -/
def AllKer (p : Int) (n : Nat) (A : Nat → Nat → Nat → Int) (i : Nat) (v : Nat → Int) : Prop := (∀ t, n ≤ t → t < 8 → v t % p = 0) ∧ ∀ j, j < i → ∀ t, t < 8 → sumTo (fun k => v k * A j k t) n % p = 0
theorem all_none {p : Int} {n : Nat} {A : Nat → Nat → Nat → Int} {m : Nat} {g : Nat → Nat → Int} (h : Tells p 8 m g (fun v => ∀ t, n ≤ t → t < 8 → v t % p = 0)) : Tells p 8 m g (AllKer p n A 0) :=
  tells_iff h fun v => ⟨fun h => ⟨h, fun j hj => by omega⟩, fun h => h.1⟩
theorem all_more {p : Int} {n i : Nat} {A : Nat → Nat → Nat → Int} {m1 m2 m : Nat} {one two g : Nat → Nat → Int} (h1 : Tells p 8 m1 one (AllKer p n A i)) (h2 : Tells p 8 m2 two (KerOf p 8 n (A i))) (h : Tells p 8 m g (fun v => InSpan p 8 m1 one v ∧ InSpan p 8 m2 two v)) : Tells p 8 m g (AllKer p n A (i + 1)) :=
  tells_iff h fun v => by
    constructor
    · rintro ⟨a, b⟩
      have a := (h1.2 v).1 a
      have b := (h2.2 v).1 b
      refine ⟨a.1, fun j hj t ht => ?_⟩
      by_cases e : j = i
      · rw [e]; exact b.1 t ht
      · exact a.2 j (by omega) t ht
    · intro a
      exact ⟨(h1.2 v).2 ⟨a.1, fun j hj => a.2 j (by omega)⟩, (h2.2 v).2 ⟨fun t ht => a.2 i (by omega) t ht, a.1⟩⟩
theorem ker_of_rows {p : Int} {m n : Nat} {g A g' : Nat → Nat → Int} (hn : n ≤ 8) (e : ∀ k, k < n → ∀ t, t < 8 → g k t = A k t) (h : Tells p 8 m g' (KerOf p 8 n g)) : Tells p 8 m g' (KerOf p 8 n A) := by
  refine tells_iff h fun v => ?_
  have e1 : ∀ t, t < 8 → sumTo (fun i => v i * g i t) n = sumTo (fun i => v i * A i t) n := fun t ht => sumTo_congr n fun i hi => by rw [e i hi t ht]
  unfold KerOf
  constructor <;> rintro ⟨h1, h2⟩ <;> refine ⟨fun t ht => ?_, h2⟩
  · rw [← e1 t ht]; exact h1 t ht
  · rw [e1 t ht]; exact h1 t ht

theorem rows_at {one : Nat → Nat → Int} {n k t : Nat} (hk : k < n) (ht : t < 8) : rowsK one n (k * 8 + t) = one k t := by
  unfold rowsK
  rw [show (k * 8 + t) / 8 = k by omega, show (k * 8 + t) % 8 = t by omega, if_pos hk]
theorem addm8_range {p : Int} (hp : 0 < p) (c : Int) (v w : Nat → Int) (t : Nat) (ht : t < 8) : 0 ≤ addm p 0 8 c v w t ∧ addm p 0 8 c v w t < p := by
  rw [addm_at8 ht]
  unfold addF
  exact ⟨Int.emod_nonneg _ (by omega), Int.emod_lt_of_pos _ hp⟩
/-- a slice that was made, of vectors that tell of a space -/
def PostL (p : Int) (S : (Nat → Int) → Prop) (W0 : World) (u : Value) (W : World) : Prop := ∃ a m c g, u = .slice a m c ∧ VL W W0.heap.size W.heap.size a m c g ∧ Tells p 8 m g S
theorem closed_postL (p : Int) (S : (Nat → Int) → Prop) (W0 : World) (u : Value) : Closed (PostL p S W0 u) := fun w w' h hb => by
  obtain ⟨a, m, c, g, h1, h2, h3⟩ := h
  exact ⟨a, m, c, g, h1, (h2.below hb (Nat.le_refl _)).wider (Nat.le_refl _) hb.size, h3⟩
/-! ### the centre -/
/-- e(k) e(j) less e(j) e(k) -/
def cenA (p : Int) (f : Nat → Int) (j k : Nat) : Nat → Int := addm p 0 8 (-1) (mtab f k j) (mtab f j k)
/-- what the program has in row i: all e(i) e(j) less e(j) e(i) -/
def cenR (p : Int) (f : Nat → Int) (i : Nat) : Nat → Int := fun t => (mtab f i (t / 8) (t % 8) + -1 % p * mtab f (t / 8) i (t % 8)) % p
def CenS (p : Int) (n : Nat) (f : Nat → Int) : (Nat → Int) → Prop := AllKer p n (cenA p f) n
noncomputable def cenN (p n : Int) (f : Nat → Int) : Nat := match algB p n f with | true => telN p (CenS p n.toNat f) | false => 0
noncomputable def cenG (p n : Int) (f : Nat → Int) : Nat → Nat → Int := telG p (CenS p n.toNat f)
theorem cen_yes {p : Int} {n : Nat} {f : Nat → Int} (h : algB p n f = true) : cenN p n f = telN p (CenS p n f) := by unfold cenN; rw [h]; rfl
theorem cen_no {p n : Int} {f : Nat → Int} (h : algB p n f = false) : cenN p n f = 0 := by unfold cenN; rw [h]
theorem cen_le (p n : Int) (f : Nat → Int) : cenN p n f ≤ 8 := by
  unfold cenN
  split
  · exact tel_le _ _
  · omega
theorem alg_shape {p n : Int} {f : Nat → Int} (h : algB p n f = true) : shapeB p n f = true := by
  unfold algB at h
  simp only [Bool.and_eq_true] at h
  exact h.1
theorem mtab_below {p : Int} {n : Int} {f : Nat → Int} (h : shapeB p n f = true) (hF : Bytes 520 f) (i j t : Nat) (hi : i < 8) (hj : j < 8) (ht : t < 8) : 0 ≤ mtab f i j t ∧ mtab f i j t < p := ⟨(tab_bytes hF (i * 64 + (j * 8 + t)) (by omega)).1, (shape_entry h i j t hi hj ht).1⟩
theorem emod_range {p : Int} (hp : 0 < p) (x : Int) : 0 ≤ x % p ∧ x % p < p := ⟨Int.emod_nonneg _ (by omega), Int.emod_lt_of_pos _ hp⟩
theorem cen_same (p : Int) (f : Nat → Int) (i j : Nat) (t : Nat) (ht : t < 8) : cenR p f i (j * 8 + t) = cenA p f j i t := by
  unfold cenR cenA addm
  rw [if_pos (by omega), show (j * 8 + t) / 8 = j by omega, show (j * 8 + t) % 8 = t by omega, Nat.sub_zero]
  exact emod_add_congr rfl (emod_mul_congr (Int.emod_emod _ _) rfl)
theorem cen_add (p : Int) (f : Nat → Int) (i j : Nat) : ∀ k, k < j * 8 + 8 → ∀ t : Nat, t < 1 → addB (fun t _ => cenR p f i t) (j * 8) 0 (addm p 0 8 (-1 % p) (mtab f i j) (mtab f j i)) k t = cenR p f i k := fun k hk t ht => by
  unfold addB
  by_cases h : k < j * 8
  · rw [if_pos h]
  · rw [if_neg h]
    unfold cenR addm
    rw [if_pos (by omega), show k / 8 = j by omega, Nat.sub_zero, Nat.zero_add, show k - j * 8 = k % 8 by omega]
theorem cen_iff {p : Int} {n : Nat} {f : Nat → Int} (hn : n ≤ 8) (v : Nat → Int) : KerOf p (n * 8) n (cenR p f) v ↔ CenS p n f v := by
  unfold KerOf CenS AllKer
  constructor
  · rintro ⟨h1, h2⟩
    refine ⟨h2, fun j hj t ht => ?_⟩
    have := h1 (j * 8 + t) (by omega)
    rwa [sumTo_congr n fun i _ => by rw [cen_same p f i j t ht]] at this
  · rintro ⟨h2, h1⟩
    refine ⟨fun t ht => ?_, h2⟩
    have := h1 (t / 8) (by omega) (t % 8) (by omega)
    rw [sumTo_congr n fun i _ => by rw [← cen_same p f i (t / 8) (t % 8) (by omega), show t / 8 * 8 + t % 8 = t by omega]] at this
    exact this

set_option maxRecDepth 100000 in
set_option maxHeartbeats 1000000 in
theorem centreOf_any (p n : Int) (f : Nat → Int) (w : World) (hF : Bytes 520 f) :
    Calls Try.prog 21 #[.agg (alg p n f)] w fun e w' => ∃ a c, e = .returned (.tuple #[.slice a (cenN p n f) c, .int .i64 (codeB (algB p n f))]) ∧ Below w.heap.size w w' ∧ VL w' w.heap.size w'.heap.size a (cenN p n f) c (cenG p n f) := by
  have HF := Lib.hid hF; clear hF
  cases hc : algB p n f
  · skip
    have HR := Lib.hid (cen_no hc)
    go_enter Try.func21, Try.ntmps21
    go_wp2_with fail
    refine atomC fun W1 e1 => ?_
    have hb1 : Below w.heap.size w W1 := by rw [e1]; (repeat (first | exact Below.refl _ _ | refine Below.alloc ?_ (by first | omega | (simp; try omega)) _ | refine below_setRow ?_ (by omega) _ | refine Below.drew ?_))
    have q1 := hb1.size
    have r1_1 : IsRow W1 (w.heap.size) := by rw [e1]; simp [go_sem]
    have c1_1 := congrArg (fun x => blk x (w.heap.size)) e1; simp [go_sem] at c1_1
    have z1_1 := isRow_lt r1_1
    clear e1
    refine (isAlgebra_any _ _ _ _ HF.out).mono ?_; rintro _ W2 ⟨rfl, hw2⟩
    obtain ⟨r1_2, c1_2⟩ := keepB hw2 z1_1 r1_1 c1_1
    have z1_2 := isRow_lt r1_2
    have hb2 := hb1.trans (hw2.mono hb1.size)
    have q2 := hb2.size
    clear hw2 r1_1 c1_1 z1_1 hb1
    go_wp2_with fail
    go_ret2
    exact ⟨none, 0, by rw [HR.out]; rfl, (by (repeat (first | exact hb2 | exact Below.refl _ _ | refine Below.alloc ?_ (by first | omega | (simp; try omega)) _ | refine below_setRow ?_ (by omega) _ | refine Below.drew ?_))), VL.nilOf (HR.out)⟩
  · skip
    have hsz := alg_sizes hc
    obtain ⟨hp2, hp31, hn1, hn8⟩ := sizes_range hsz
    have Hpr : Hid (prime31 p = true) := Lib.hid (by unfold sizesB at hsz; simp only [Bool.and_eq_true] at hsz; exact hsz.1)
    clear hsz
    obtain ⟨n, rfl⟩ := Int.eq_ofNat_of_zero_le (show 0 ≤ n by omega)
    have hn : n ≤ 8 := by omega
    have hp : 0 < p := by omega
    have hp' : p ≤ 255 := by omega
    have HY := Lib.hid (cen_yes hc)
    have HMT := Lib.hid (mtab_below (alg_shape hc) HF.out)
    go_enter Try.func21, Try.ntmps21
    go_wp2_with fail
    refine atomC fun W3 e3 => ?_
    have hb3 : Below w.heap.size w W3 := by rw [e3]; (repeat (first | exact Below.refl _ _ | refine Below.alloc ?_ (by first | omega | (simp; try omega)) _ | refine below_setRow ?_ (by omega) _ | refine Below.drew ?_))
    have q3 := hb3.size
    have r1_3 : IsRow W3 (w.heap.size) := by rw [e3]; simp [go_sem]
    have c1_3 := congrArg (fun x => blk x (w.heap.size)) e3; simp [go_sem] at c1_3
    have z1_3 := isRow_lt r1_3
    clear e3
    refine (isAlgebra_any _ _ _ _ HF.out).mono ?_; rintro _ W4 ⟨rfl, hw4⟩
    obtain ⟨r1_4, c1_4⟩ := keepB hw4 z1_3 r1_3 c1_3
    have z1_4 := isRow_lt r1_4
    have hb4 := hb3.trans (hw4.mono hb3.size)
    have q4 := hb4.size
    clear hw4 r1_3 c1_3 z1_3 hb3
    go_wp2
    have ltR1n5 : (w.heap.size) < W4.heap.size := z1_4
    go_loopw [4, 14] (fun s4 s14 wr => ∃ i : Nat, ∃ aR_5 : Option Addr, ∃ cR_5 : Nat, ∃ UR_5 : Nat, i ≤ n ∧ s4 = .slice aR_5 (i) cR_5 ∧ s14 = .int .i64 i ∧ Below w.heap.size w wr ∧ (IsRow wr (w.heap.size) ∧ blk wr (w.heap.size) = blk W4 (w.heap.size)) ∧ RL wr (W4.heap.size) (UR_5) (aR_5) (i) (cR_5) (n * 8) ((cenR p f)) ∧ ((W4.heap.size) ≤ (UR_5) ∧ (UR_5) ≤ wr.heap.size)) (fun _ s14 _ => n - (intOf s14).toNat)
    case atStart => exact ⟨0, none, 0, W4.heap.size, by omega, rfl, rfl, hb4, ⟨r1_4, rfl⟩, RL.nil _ _ _ _, (by omega)⟩
    case round =>
      obtain ⟨i, aR_5, cR_5, UR_5, hle5, rfl, rfl, hb5, ⟨r1_5, c1_5⟩, hvR_5, hUR_5⟩ := hrel
      obtain ⟨W5, rfl⟩ : ∃ W5 : World, W5 = wr := ⟨_, rfl⟩
      have q5 := hb5.size
      have E1_5 := Lib.hid c1_4; replace c1_5 := c1_5.trans c1_4
      have z1_5 := isRow_lt r1_5
      clear r1_4 c1_4 z1_4 hb4
      by_cases hlt5 : i < n
      · skip
        have i0_5 : (0 : Int) ≤ (i : Int) := by omega
        have i8_5 : (i : Int) < 8 := by omega
        have k8_5 : i < 8 := by omega
        have m8_5 : i * 8 + 8 ≤ 64 := by omega
        have m64_5 : i * 64 + 64 ≤ 512 := by omega
        have l1_5 : 10 + i * 64 + 64 ≤ 522 := by omega
        have b1 := (emod_range hp (-1)).1
        have b2 : -1 % p ≤ 255 := by have := (emod_range hp (-1)).2; omega
        go_wp2
        have ltB1n6 : (w.heap.size) < W5.heap.size := z1_5
        go_loopw [6, 19] (fun s6 s19 wr => ∃ j : Nat, ∃ aB_6 : Option Addr, ∃ cB_6 : Nat, ∃ UB_6 : Nat, j ≤ n ∧ s6 = .slice aB_6 (j * 8) cB_6 ∧ s19 = .int .i64 j ∧ Below w.heap.size w wr ∧ (IsRow wr (w.heap.size) ∧ blk wr (w.heap.size) = blk W5 (w.heap.size)) ∧ RL wr (W4.heap.size) (UR_5) (aR_5) (i) (cR_5) (n * 8) ((cenR p f)) ∧ ((W4.heap.size) ≤ (UR_5) ∧ (UR_5) ≤ wr.heap.size) ∧ BL wr (W5.heap.size) (UB_6) (aB_6) (j * 8) (cB_6) ((fun t _ => cenR p f i t)) ∧ ((W5.heap.size) ≤ (UB_6) ∧ (UB_6) ≤ wr.heap.size)) (fun _ s19 _ => n - (intOf s19).toNat)
        case atStart => exact ⟨0, none, 0, W5.heap.size, by omega, rfl, rfl, hb5, ⟨r1_5, rfl⟩, hvR_5, (by omega), BL.nil _ _ _ _, (by omega)⟩
        case round =>
          obtain ⟨j, aB_6, cB_6, UB_6, hle6, rfl, rfl, hb6, ⟨r1_6, c1_6⟩, hvR_6, hUR_6, hvB_6, hUB_6⟩ := hrel
          obtain ⟨W6, rfl⟩ : ∃ W6 : World, W6 = wr := ⟨_, rfl⟩
          have q6 := hb6.size
          have E1_6 := Lib.hid c1_5; replace c1_6 := c1_6.trans c1_5
          have z1_6 := isRow_lt r1_6
          clear r1_5 c1_5 z1_5 hb5 hvR_5
          by_cases hlt6 : j < n
          · skip
            have i0_6 : (0 : Int) ≤ (j : Int) := by omega
            have i8_6 : (j : Int) < 8 := by omega
            have k8_6 : j < 8 := by omega
            have m8_6 : j * 8 + 8 ≤ 64 := by omega
            have m64_6 : j * 64 + 64 ≤ 512 := by omega
            have l1_6 : 10 + j * 64 + 64 ≤ 522 := by omega
            have l2_6i : 10 + i * 64 + j * 8 + 8 ≤ 522 := by omega
            have l3_6i : 10 + j * 64 + i * 8 + 8 ≤ 522 := by omega
            have l4_6i : i * 64 + j * 8 + 8 ≤ 512 := by omega
            have l5_6i : j * 64 + i * 8 + 8 ≤ 512 := by omega
            have l6_6i : i * 8 + j < 64 := by omega
            have l7_6i : j * 8 + i < 64 := by omega
            have hm1 := alg_at8 p n f i j (by omega) (by omega)
            go_wp2
            have nw1_W6_0 : (w.heap.size) ≠ W6.heap.size := by omega
            refine atomW fun W7 e7 => ?_
            have hb7 : Below w.heap.size w W7 := by rw [e7]; (repeat (first | exact hb6 | exact Below.refl _ _ | refine Below.alloc ?_ (by first | omega | (simp; try omega)) _ | refine below_setRow ?_ (by omega) _ | refine Below.drew ?_))
            have q7 := hb7.size
            have R7 : IsRow W7 (w.heap.size) ∧ IsRow W7 (W6.heap.size) := by rw [e7]; simp [go_sem, r1_6, c1_6, nw1_W6_0]
            obtain ⟨r1_7, r8_7⟩ := R7
            have C7 := (⟨congrArg (blk · (w.heap.size)) e7, congrArg (blk · (W6.heap.size)) e7⟩ : _ ∧ _); simp [go_sem, r1_6, c1_6, nw1_W6_0] at C7
            obtain ⟨c1_7, c8_7⟩ := C7
            have z1_7 := isRow_lt r1_7; have z8_7 := isRow_lt r8_7
            have n1_8 : (w.heap.size) ≠ (W6.heap.size) := by omega
            have n8_1 : (W6.heap.size) ≠ (w.heap.size) := by omega
            have sz7 : W6.heap.size ≤ W7.heap.size := by rw [e7]; first | omega | (simp; done) | (simp; omega)
            have hvR_7 : RL W7 (W4.heap.size) (UR_5) (aR_5) (i) (cR_5) (n * 8) ((cenR p f)) := by rw [e7]; (repeat (first | exact hvR_6 | refine RL.alloc ?_ _ | refine RL.drew ?_ | refine RL.setRow ?_ (by omega) _))
            have hvB_7 : BL W7 (W5.heap.size) (UB_6) (aB_6) (j * 8) (cB_6) ((fun t _ => cenR p f i t)) := by rw [e7]; (repeat (first | exact hvB_6 | refine BL.alloc ?_ _ | refine BL.drew ?_ | refine BL.setRow ?_ (by omega) _))
            clear e7 nw1_W6_0 r1_6 c1_6 z1_6 hvR_6 hvB_6 hb6
            refine wp_quiet_tail 12 (Below W7.heap.size W7) (by kernel_rfl) (by kernel_rfl) (Below.refl _ _).drew ?_
            simp only [List.take_succ_cons, List.take_zero, List.drop_succ_cons, List.drop_zero]
            iterate 5 (refine q_plain rfl ?_; apply Exists.intro; refine ⟨fun W hW => ?_, ?_⟩; (focus (obtain ⟨x1, y1⟩ := keepB hW z1_7 r1_7 c1_7; obtain ⟨x8, y8⟩ := keepB hW z8_7 r8_7 c8_7; go_simp; first | done | rfl)); simp only [Act.put, List.setIfInBounds_toArray, List.set_cons_zero, List.set_cons_succ])
            (refine q_plain rfl ?_; apply Exists.intro; refine ⟨fun W hW => ?_, ?_⟩; (focus (obtain ⟨x1, y1⟩ := keepB hW z1_7 r1_7 c1_7; obtain ⟨x8, y8⟩ := keepB hW z8_7 r8_7 c8_7; go_simp; (go_at_call 47; exact (negativeNumber_any p 1 _ hp hp' (by omega) (by omega)).mono fun e w2 ⟨he, hw2⟩ => ⟨he, hw2 ▸ hW⟩))); simp only [Act.put, List.setIfInBounds_toArray, List.set_cons_zero, List.set_cons_succ])
            iterate 6 (refine q_plain rfl ?_; apply Exists.intro; refine ⟨fun W hW => ?_, ?_⟩; (focus (obtain ⟨x1, y1⟩ := keepB hW z1_7 r1_7 c1_7; obtain ⟨x8, y8⟩ := keepB hW z8_7 r8_7 c8_7; go_simp; first | done | rfl)); simp only [Act.put, List.setIfInBounds_toArray, List.set_cons_zero, List.set_cons_succ])
            refine wpQuiet_nil ?_
            intro W8 hw8
            obtain ⟨r1_8, c1_8⟩ := keepB hw8 z1_7 r1_7 c1_7
            have z1_8 := isRow_lt r1_8
            obtain ⟨r8_8, c8_8⟩ := keepB hw8 z8_7 r8_7 c8_7
            have z8_8 := isRow_lt r8_8
            have hb8 := hb7.trans (hw8.mono hb7.size)
            have q8 := hb8.size
            have sz8 := hw8.size
            have hvR_8 := hvR_7.below hw8 (by omega)
            have hvB_8 := hvB_7.below hw8 (by omega)
            clear hw8 hvR_7 hvB_7 r1_7 c1_7 z1_7 r8_7 c8_7 z8_7 hb7
            go_wp2_with fail
            refine (addMultiple_any p _ _ 0 8 8 8 8 _ (10 + j * 64 + i * 8) (mtab f i j) (mtab f j i) _ hp hp' b1 b2 r8_8 c8_8 (by omega) (by omega) (fun t _ ht => HMT.out i j t (by omega) (by omega) (by omega)) (byte_alg j i c1_8 (by omega) (by omega) HF.out) (by omega)).mono ?_; rintro _ _ ⟨rfl, rfl⟩
            go_wp2_with (at_builtin; refine atomL ?_)
            intro W9 e9
            have hb9 : Below w.heap.size w W9 := by rw [e9]; (repeat (first | exact hb8 | exact Below.refl _ _ | refine Below.alloc ?_ (by first | omega | (simp; try omega)) _ | refine below_setRow ?_ (by omega) _ | refine Below.drew ?_))
            have q9 := hb9.size
            have R9 : IsRow W9 (w.heap.size) ∧ IsRow W9 (W6.heap.size) := by rw [e9]; simp [go_sem, r1_8, c1_8, n1_8, r8_8, c8_8, n8_1]
            obtain ⟨r1_9, r8_9⟩ := R9
            have C9 := (⟨congrArg (blk · (w.heap.size)) e9, congrArg (blk · (W6.heap.size)) e9⟩ : _ ∧ _); simp [go_sem, r1_8, c1_8, n1_8, r8_8, c8_8, n8_1] at C9
            obtain ⟨c1_9, c8_9⟩ := C9
            have z1_9 := isRow_lt r1_9; have z8_9 := isRow_lt r8_9
            have sz9 : W8.heap.size ≤ W9.heap.size := by rw [e9]; first | omega | (simp; done) | (simp; omega)
            have hvR_9 : RL W9 (W4.heap.size) (UR_5) (aR_5) (i) (cR_5) (n * 8) ((cenR p f)) := by rw [e9]; (repeat (first | exact hvR_8 | refine RL.alloc ?_ _ | refine RL.drew ?_ | refine RL.setRow ?_ (by omega) _))
            have hvB_9 : BL W9 (W5.heap.size) (UB_6) (aB_6) (j * 8) (cB_6) ((fun t _ => cenR p f i t)) := by rw [e9]; (repeat (first | exact hvB_8 | refine BL.alloc ?_ _ | refine BL.drew ?_ | refine BL.setRow ?_ (by omega) _))
            clear e9 r1_8 c1_8 z1_8 r8_8 c8_8 z8_8 hvR_8 hvB_8 hb8
            refine appendB _ rfl _ _ rfl hvB_9 (by omega) rfl _ (0) (8) _ _ ((addm p 0 8 (-1 % p) (mtab f i j) (mtab f j i))) rfl (by omega) (by omega) (by omega) c8_9 (addm8_bytes hp hp' _ _ _) ?_
            intro aB_10 cB_10 W10 hg10 ha10 hvB_10
            obtain ⟨r1_10, c1_10⟩ := keepG hg10 (hvB_9.ne (by omega)) r1_9 c1_9
            have z1_10 := isRow_lt r1_10
            obtain ⟨r8_10, c8_10⟩ := keepG hg10 (hvB_9.ne (by omega)) r8_9 c8_9
            have z8_10 := isRow_lt r8_10
            have hb10 := below_ownB hb9 hvB_9 hg10 (by omega) (by omega)
            have q10 := hb10.size
            have sz10 := hg10.size
            have hvR_10 := hvR_9.grown hg10 fun k e => Nat.le_trans (by omega) (hvB_9.own e)
            clear hg10 ha10 r1_9 c1_9 z1_9 r8_9 c8_9 z8_9 hvR_9 hvB_9 hb9
            go_wp2
            go_roundw
            case rel => exact ⟨j + 1, (aB_10), (cB_10), (W10.heap.size), by omega, (by rw [Nat.add_mul, Nat.one_mul]), by go_num, (by (repeat (first | exact hb10 | exact Below.refl _ _ | refine Below.alloc ?_ (by first | omega | (simp; try omega)) _ | refine below_setRow ?_ (by omega) _ | refine Below.drew ?_))), ⟨by simp [go_sem, r1_10, c1_10, n1_8, r8_10, c8_10, n8_1], (by rw [E1_6.out]; first | exact c1_10 | (simp [go_sem, r1_10, c1_10, n1_8, r8_10, c8_10, n8_1]; done))⟩, (by (repeat (first | exact hvR_10 | refine RL.alloc ?_ _ | refine RL.drew ?_ | refine RL.setRow ?_ (by omega) _))), (by first | omega | (constructor <;> first | omega | (simp; done) | (simp; omega))), (hvB_10).same (by omega) (cen_add p f i j), (by first | omega | (constructor <;> first | omega | (simp; done) | (simp; omega)))⟩
            case measure => simp [intOf]; try omega
          · skip
            obtain rfl : n = j := by omega
            obtain ⟨gB_11, FB_11, eaB_11, gBB_11, gUB_11, rBx_11, hcB_11, hmB_11, cBx_11, hFbB_11, hFB_11⟩ := hvB_6.some (by omega)
            subst eaB_11
            have HFB_11 := Lib.hid hFB_11; clear hFB_11
            have HBB_11 := Lib.hid hFbB_11; clear hFbB_11
            have zBx_11 := isRow_lt rBx_11
            have n1_Bx : (w.heap.size) ≠ (gB_11) := by omega
            have nBx_1 : (gB_11) ≠ (w.heap.size) := by omega
            go_wp2_with (at_builtin; refine atomL ?_)
            have nw1_W6_0 : (w.heap.size) ≠ W6.heap.size := by omega
            have nwBx_W6_0 : (gB_11) ≠ W6.heap.size := by omega
            intro W12 e12
            have hb12 : Below w.heap.size w W12 := by rw [e12]; (repeat (first | exact hb6 | exact Below.refl _ _ | refine Below.alloc ?_ (by first | omega | (simp; try omega)) _ | refine below_setRow ?_ (by omega) _ | refine Below.drew ?_))
            have q12 := hb12.size
            have R12 : IsRow W12 (w.heap.size) ∧ IsRow W12 (gB_11) ∧ IsRow W12 (W6.heap.size) := by rw [e12]; simp [go_sem, r1_6, c1_6, n1_Bx, rBx_11, cBx_11, nBx_1, nw1_W6_0, nwBx_W6_0]
            obtain ⟨r1_12, rBx_12, r47_12⟩ := R12
            have C12 := (⟨congrArg (blk · (w.heap.size)) e12, congrArg (blk · (gB_11)) e12, congrArg (blk · (W6.heap.size)) e12⟩ : _ ∧ _ ∧ _); simp [go_sem, r1_6, c1_6, n1_Bx, rBx_11, cBx_11, nBx_1, nw1_W6_0, nwBx_W6_0] at C12
            obtain ⟨c1_12, cBx_12, c47_12⟩ := C12
            have z1_12 := isRow_lt r1_12; have zBx_12 := isRow_lt rBx_12; have z47_12 := isRow_lt r47_12
            have n1_47 : (w.heap.size) ≠ (W6.heap.size) := by omega
            have nBx_47 : (gB_11) ≠ (W6.heap.size) := by omega
            have n47_1 : (W6.heap.size) ≠ (w.heap.size) := by omega
            have n47_Bx : (W6.heap.size) ≠ (gB_11) := by omega
            have sz12 : W6.heap.size ≤ W12.heap.size := by rw [e12]; first | omega | (simp; done) | (simp; omega)
            have hvR_12 : RL W12 (W4.heap.size) (UR_5) (aR_5) (i) (cR_5) (n * 8) ((cenR p f)) := by rw [e12]; (repeat (first | exact hvR_6 | refine RL.alloc ?_ _ | refine RL.drew ?_ | refine RL.setRow ?_ (by omega) _))
            clear e12 nw1_W6_0 nwBx_W6_0 r1_6 c1_6 z1_6 rBx_11 cBx_11 zBx_11 hvR_6 hb6
            refine appendR _ rfl _ _ rfl hvR_12 (by omega) (by omega) rfl _ _ (FB_11) rfl c47_12 ⟨⟨by omega, rBx_12, cBx_12, HBB_11.out, hcB_11⟩, by omega⟩ ?_
            intro aR_13 cR_13 W13 hg13 ha13 hvR_13
            obtain ⟨r1_13, c1_13⟩ := keepG hg13 (hvR_12.ne (by omega)) r1_12 c1_12
            have z1_13 := isRow_lt r1_13
            obtain ⟨rBx_13, cBx_13⟩ := keepG hg13 (hvR_12.ne (by omega)) rBx_12 cBx_12
            have zBx_13 := isRow_lt rBx_13
            have hb13 := below_ownR hb12 hvR_12 hg13 (by omega) (by omega)
            have q13 := hb13.size
            have sz13 := hg13.size
            clear hg13 ha13 r1_12 c1_12 z1_12 rBx_12 cBx_12 zBx_12 hvR_12 hb12
            go_wp2
            go_roundw
            case rel => exact ⟨i + 1, (aR_13), (cR_13), (W13.heap.size), by omega, (by first | rfl | go_num | (simp; done)), by go_num, (by (repeat (first | exact hb13 | exact Below.refl _ _ | refine Below.alloc ?_ (by first | omega | (simp; try omega)) _ | refine below_setRow ?_ (by omega) _ | refine Below.drew ?_))), ⟨by simp [go_sem, r1_13, c1_13, n1_Bx, rBx_13, cBx_13, nBx_1], (by rw [E1_5.out]; first | exact c1_13 | (simp [go_sem, r1_13, c1_13, n1_Bx, rBx_13, cBx_13, nBx_1]; done))⟩, (hvR_13).same rfl rfl (addV_row fun t ht => HFB_11.out t ht 0 (by omega)), (by first | omega | (constructor <;> first | omega | (simp; done) | (simp; omega)))⟩
            case measure => simp [intOf]; try omega
      · skip
        obtain rfl : n = i := by omega
        go_wp2_with fail
        refine (kernelOf_to p _ _ _ n _ (n * 8) (cenR p f) (CenS p n f) _ hp hp' Hpr.out (by omega) hn (by omega) (by omega) (by omega) (fun i _ t _ => emod_range hp _) hvR_5 (cen_iff hn)).mono ?_; rintro _ W14 ⟨aK_14, cK_14, rfl, hw14, hvK_14⟩
        have hb14 := hb5.trans (hw14.mono hb5.size)
        have q14 := hb14.size
        have sz14 := hw14.size
        have hvR_14 := hvR_5.below hw14 (by omega)
        clear hw14 hvR_5 hb5
        go_wp2_with fail
        go_ret2
        exact ⟨aK_14, cK_14, by rw [HY.out]; rfl, (by (repeat (first | exact hb14 | exact Below.refl _ _ | refine Below.alloc ?_ (by first | omega | (simp; try omega)) _ | refine below_setRow ?_ (by omega) _ | refine Below.drew ?_))), ((hvK_14).same HY.out.symm fun _ _ _ _ => rfl).wider (by omega) (by omega)⟩

set_option maxRecDepth 100000 in
set_option maxHeartbeats 1000000 in
theorem specCentreOf_any (p n : Int) (f : Nat → Int) (w : World) (hF : Bytes 520 f) :
    Calls Try.prog 19 #[.agg (alg p n f)] w fun e w' => ∃ a c, e = .returned (.tuple #[.slice a (cenN p n f) c, .int .i64 (codeB (algB p n f))]) ∧ Below w.heap.size w w' ∧ VL w' w.heap.size w'.heap.size a (cenN p n f) c (cenG p n f) := by
  have HF := Lib.hid hF; clear hF
  cases hc : algB p n f
  · skip
    have HR := Lib.hid (cen_no hc)
    go_enter Try.func19, Try.ntmps19
    go_wp2_with fail
    refine atomC fun W1 e1 => ?_
    have hb1 : Below w.heap.size w W1 := by rw [e1]; (repeat (first | exact Below.refl _ _ | refine Below.alloc ?_ (by first | omega | (simp; try omega)) _ | refine below_setRow ?_ (by omega) _ | refine Below.drew ?_))
    have q1 := hb1.size
    have r1_1 : IsRow W1 (w.heap.size) := by rw [e1]; simp [go_sem]
    have c1_1 := congrArg (fun x => blk x (w.heap.size)) e1; simp [go_sem] at c1_1
    have z1_1 := isRow_lt r1_1
    clear e1
    refine (l01Is_any _ _ _ _ HF.out).mono ?_; rintro _ W2 ⟨rfl, hw2⟩
    obtain ⟨r1_2, c1_2⟩ := keepB hw2 z1_1 r1_1 c1_1
    have z1_2 := isRow_lt r1_2
    have hb2 := hb1.trans (hw2.mono hb1.size)
    have q2 := hb2.size
    clear hw2 r1_1 c1_1 z1_1 hb1
    go_wp2_with fail
    go_ret2
    exact ⟨none, 0, by rw [HR.out]; rfl, (by (repeat (first | exact hb2 | exact Below.refl _ _ | refine Below.alloc ?_ (by first | omega | (simp; try omega)) _ | refine below_setRow ?_ (by omega) _ | refine Below.drew ?_))), VL.nilOf (HR.out)⟩
  · skip
    have hsz := alg_sizes hc
    obtain ⟨hp2, hp31, hn1, hn8⟩ := sizes_range hsz
    have Hpr : Hid (prime31 p = true) := Lib.hid (by unfold sizesB at hsz; simp only [Bool.and_eq_true] at hsz; exact hsz.1)
    clear hsz
    obtain ⟨n, rfl⟩ := Int.eq_ofNat_of_zero_le (show 0 ≤ n by omega)
    have hn : n ≤ 8 := by omega
    have hp : 0 < p := by omega
    have hp' : p ≤ 255 := by omega
    have HY := Lib.hid (cen_yes hc)
    have HMT := Lib.hid (mtab_below (alg_shape hc) HF.out)
    go_enter Try.func19, Try.ntmps19
    go_wp2_with fail
    refine atomC fun W3 e3 => ?_
    have hb3 : Below w.heap.size w W3 := by rw [e3]; (repeat (first | exact Below.refl _ _ | refine Below.alloc ?_ (by first | omega | (simp; try omega)) _ | refine below_setRow ?_ (by omega) _ | refine Below.drew ?_))
    have q3 := hb3.size
    have r1_3 : IsRow W3 (w.heap.size) := by rw [e3]; simp [go_sem]
    have c1_3 := congrArg (fun x => blk x (w.heap.size)) e3; simp [go_sem] at c1_3
    have z1_3 := isRow_lt r1_3
    clear e3
    refine (l01Is_any _ _ _ _ HF.out).mono ?_; rintro _ W4 ⟨rfl, hw4⟩
    obtain ⟨r1_4, c1_4⟩ := keepB hw4 z1_3 r1_3 c1_3
    have z1_4 := isRow_lt r1_4
    have hb4 := hb3.trans (hw4.mono hb3.size)
    have q4 := hb4.size
    clear hw4 r1_3 c1_3 z1_3 hb3
    go_wp2_with fail
    have ltO1n5 : (w.heap.size) < W4.heap.size := z1_4
    refine (l01Whole_any n _ hn).mono ?_; rintro _ W5 ⟨aO_5, cO_5, rfl, hw5, hvO_5⟩
    have sz5 := hw5.size
    obtain ⟨r1_5, c1_5⟩ := keepB hw5 z1_4 r1_4 c1_4
    have z1_5 := isRow_lt r1_5
    have hb5 := hb4.trans (hw5.mono hb4.size)
    have q5 := hb5.size
    clear hw5 r1_4 c1_4 z1_4 hb4
    go_wp2
    go_loopw [4, 5] (fun s4 s5 wr => ∃ i : Nat, ∃ aO_6 : Option Addr, ∃ cO_6 : Nat, ∃ UO_6 : Nat, ∃ mO_6 : Nat, ∃ fO_6 : Nat → Nat → Int, i ≤ n ∧ s4 = .slice aO_6 (mO_6) cO_6 ∧ s5 = .int .i64 i ∧ Below w.heap.size w wr ∧ (IsRow wr (w.heap.size) ∧ blk wr (w.heap.size) = blk W5 (w.heap.size)) ∧ VL wr (W4.heap.size) (UO_6) (aO_6) (mO_6) (cO_6) (fO_6) ∧ ((W4.heap.size) ≤ (UO_6) ∧ (UO_6) ≤ wr.heap.size) ∧ Tells p 8 (mO_6) (fO_6) (AllKer p n (cenA p f) i)) (fun _ s5 _ => n - (intOf s5).toNat)
    case atStart => exact ⟨0, aO_5, cO_5, W5.heap.size, n, ebas, by omega, (by first | rfl | (simp; done) | go_num), rfl, hb5, ⟨r1_5, rfl⟩, hvO_5, (by omega), all_none (whole_tells hp2 hn)⟩
    case round =>
      obtain ⟨i, aO_6, cO_6, UO_6, mO_6, fO_6, hle6, rfl, rfl, hb6, ⟨r1_6, c1_6⟩, hvO_6, hUO_6, hx6⟩ := hrel
      obtain ⟨W6, rfl⟩ : ∃ W6 : World, W6 = wr := ⟨_, rfl⟩
      have q6 := hb6.size
      have HX6 := Lib.hid hx6; clear hx6
      have E1_6 := Lib.hid c1_5; replace c1_6 := c1_6.trans c1_5
      have z1_6 := isRow_lt r1_6
      clear r1_5 c1_5 z1_5 hb5 hvO_5
      by_cases hlt6 : i < n
      · skip
        have i0_6 : (0 : Int) ≤ (i : Int) := by omega
        have i8_6 : (i : Int) < 8 := by omega
        have k8_6 : i < 8 := by omega
        have m8_6 : i * 8 + 8 ≤ 64 := by omega
        have m64_6 : i * 64 + 64 ≤ 512 := by omega
        have l1_6 : 10 + i * 64 + 64 ≤ 522 := by omega
        have HXo := HX6
        go_wp2
        have nw1_W6_0 : (w.heap.size) ≠ W6.heap.size := by omega
        refine atomW fun W7 e7 => ?_
        have hb7 : Below w.heap.size w W7 := by rw [e7]; (repeat (first | exact hb6 | exact Below.refl _ _ | refine Below.alloc ?_ (by first | omega | (simp; try omega)) _ | refine below_setRow ?_ (by omega) _ | refine Below.drew ?_))
        have q7 := hb7.size
        have R7 : IsRow W7 (w.heap.size) ∧ IsRow W7 (W6.heap.size) := by rw [e7]; simp [go_sem, r1_6, c1_6, nw1_W6_0]
        obtain ⟨r1_7, r6_7⟩ := R7
        have C7 := (⟨congrArg (blk · (w.heap.size)) e7, congrArg (blk · (W6.heap.size)) e7⟩ : _ ∧ _); simp [go_sem, r1_6, c1_6, nw1_W6_0] at C7
        obtain ⟨c1_7, c6_7⟩ := C7
        have z1_7 := isRow_lt r1_7; have z6_7 := isRow_lt r6_7
        have n1_6 : (w.heap.size) ≠ (W6.heap.size) := by omega
        have n6_1 : (W6.heap.size) ≠ (w.heap.size) := by omega
        have sz7 : W6.heap.size ≤ W7.heap.size := by rw [e7]; first | omega | (simp; done) | (simp; omega)
        have hvO_7 : VL W7 (W4.heap.size) (UO_6) (aO_6) (mO_6) (cO_6) (fO_6) := by rw [e7]; (repeat (first | exact hvO_6 | refine VL.alloc ?_ _ | refine VL.drew ?_ | refine VL.setRow ?_ (by omega) _))
        clear e7 nw1_W6_0 r1_6 c1_6 z1_6 hvO_6 hb6
        go_loopw [7] (fun s7 wr => ∃ k : Nat, k ≤ n ∧ s7 = .int .i64 k ∧ Below w.heap.size w wr ∧ (IsRow wr (w.heap.size) ∧ blk wr (w.heap.size) = blk W7 (w.heap.size)) ∧ (IsRow wr (W6.heap.size) ∧ blk wr (W6.heap.size) = row 64 (rowsK (cenA p f i) k)) ∧ VL wr (W4.heap.size) (UO_6) (aO_6) (mO_6) (cO_6) (fO_6) ∧ ((W4.heap.size) ≤ (UO_6) ∧ (UO_6) ≤ wr.heap.size)) (fun s7 _ => n - (intOf s7).toNat)
        case atStart => exact ⟨0, by omega, rfl, hb7, ⟨r1_7, rfl⟩, ⟨r6_7, c6_7.trans (rows_zero _)⟩, hvO_7, (by omega)⟩
        case round =>
          obtain ⟨k, hle8, rfl, hb8, ⟨r1_8, c1_8⟩, ⟨r6_8, c6_8⟩, hvO_8, hUO_8⟩ := hrel
          obtain ⟨W8, rfl⟩ : ∃ W8 : World, W8 = wr := ⟨_, rfl⟩
          have q8 := hb8.size
          have E1_8 := Lib.hid c1_7; replace c1_8 := c1_8.trans c1_7
          have z1_8 := isRow_lt r1_8
          have z6_8 := isRow_lt r6_8
          clear r1_7 c1_7 z1_7 r6_7 c6_7 z6_7 hb7 hvO_7
          by_cases hlt8 : k < n
          · skip
            have i0_8 : (0 : Int) ≤ (k : Int) := by omega
            have i8_8 : (k : Int) < 8 := by omega
            have k8_8 : k < 8 := by omega
            have m8_8 : k * 8 + 8 ≤ 64 := by omega
            have m64_8 : k * 64 + 64 ≤ 512 := by omega
            have l1_8 : 10 + k * 64 + 64 ≤ 522 := by omega
            have l2_8i : 10 + i * 64 + k * 8 + 8 ≤ 522 := by omega
            have l3_8i : 10 + k * 64 + i * 8 + 8 ≤ 522 := by omega
            have l4_8i : i * 64 + k * 8 + 8 ≤ 512 := by omega
            have l5_8i : k * 64 + i * 8 + 8 ≤ 512 := by omega
            have l6_8i : i * 8 + k < 64 := by omega
            have l7_8i : k * 8 + i < 64 := by omega
            have hm1 := alg_at8 p n f k i (by omega) (by omega)
            have hm2 := alg_at8 p n f i k (by omega) (by omega)
            have HB1 : Hid (Bytes 8 (mtab f k i)) := Lib.hid (lt_bytes hp' fun t ht => HMT.out k i t (by omega) (by omega) ht)
            have HB2 : Hid (Bytes 8 (mtab f i k)) := Lib.hid (lt_bytes hp' fun t ht => HMT.out i k t (by omega) (by omega) ht)
            go_wp2
            refine wp_quiet_tail 17 (Below W8.heap.size W8) (by kernel_rfl) (by kernel_rfl) (Below.refl _ _).drew ?_
            simp only [List.take_succ_cons, List.take_zero, List.drop_succ_cons, List.drop_zero]
            iterate 15 (refine q_plain rfl ?_; apply Exists.intro; refine ⟨fun W hW => ?_, ?_⟩; (focus (obtain ⟨x1, y1⟩ := keepB hW z1_8 r1_8 c1_8; obtain ⟨x6, y6⟩ := keepB hW z6_8 r6_8 c6_8; go_simp; first | done | rfl)); simp only [Act.put, List.setIfInBounds_toArray, List.set_cons_zero, List.set_cons_succ])
            (refine q_plain rfl ?_; apply Exists.intro; refine ⟨fun W hW => ?_, ?_⟩; (focus (obtain ⟨x1, y1⟩ := keepB hW z1_8 r1_8 c1_8; obtain ⟨x6, y6⟩ := keepB hW z6_8 r6_8 c6_8; go_simp; (go_at_call 36; exact (l01Add_any _ _ _ _ _ hp hp' (by omega) (by omega) HB1.out HB2.out).mono fun e w2 ⟨he, hw2⟩ => ⟨he, hW.trans (hw2.mono hW.size)⟩))); simp only [Act.put, List.setIfInBounds_toArray, List.set_cons_zero, List.set_cons_succ])
            iterate 1 (refine q_plain rfl ?_; apply Exists.intro; refine ⟨fun W hW => ?_, ?_⟩; (focus (obtain ⟨x1, y1⟩ := keepB hW z1_8 r1_8 c1_8; obtain ⟨x6, y6⟩ := keepB hW z6_8 r6_8 c6_8; go_simp; first | done | rfl)); simp only [Act.put, List.setIfInBounds_toArray, List.set_cons_zero, List.set_cons_succ])
            refine wpQuiet_nil ?_
            intro W9 hw9
            obtain ⟨r1_9, c1_9⟩ := keepB hw9 z1_8 r1_8 c1_8
            have z1_9 := isRow_lt r1_9
            obtain ⟨r6_9, c6_9⟩ := keepB hw9 z6_8 r6_8 c6_8
            have z6_9 := isRow_lt r6_9
            have hb9 := hb8.trans (hw9.mono hb8.size)
            have q9 := hb9.size
            have sz9 := hw9.size
            have hvO_9 := hvO_8.below hw9 (by omega)
            clear hw9 hvO_8 r1_8 c1_8 z1_8 r6_8 c6_8 z6_8 hb8
            go_wp2
            go_roundw
            case rel => exact ⟨k + 1, by omega, by go_num, (by (repeat (first | exact hb9 | exact Below.refl _ _ | refine Below.alloc ?_ (by first | omega | (simp; try omega)) _ | refine below_setRow ?_ (by omega) _ | refine Below.drew ?_))), ⟨by simp [go_sem, r1_9, c1_9, n1_6, r6_9, c6_9, n6_1], (by rw [E1_8.out]; first | exact c1_9 | (simp [go_sem, r1_9, c1_9, n1_6, r6_9, c6_9, n6_1]; done))⟩, ⟨by simp [go_sem, r1_9, c1_9, n1_6, r6_9, c6_9, n6_1], (by first | (rw [blk_setRow _ _ _ _ r6_9, if_pos rfl]; exact rows_set (cenA p f i) k (by omega)) | exact (c6_9).trans (rows_set (cenA p f i) k (by omega)) | (simp [go_sem, r1_9, c1_9, n1_6, r6_9, c6_9, n6_1]; exact rows_set (cenA p f i) k (by omega)))⟩, (by (repeat (first | exact hvO_9 | refine VL.alloc ?_ _ | refine VL.drew ?_ | refine VL.setRow ?_ (by omega) _))), (by first | omega | (constructor <;> first | omega | (simp; done) | (simp; omega)))⟩
            case measure => simp [intOf]; try omega
          · skip
            obtain rfl : n = k := by omega
            have HRR : Hid (∀ t, t < 64 → 0 ≤ rowsK (cenA p f i) n t ∧ rowsK (cenA p f i) n t < p) := Lib.hid (rows_range hp (Nat.le_refl _) fun k hk t ht => addm8_range hp _ _ _ t ht)
            go_wp2
            refine wp_quiet_noisy 8 9 _ (PostL p (KerOf p 8 n (cenA p f i)) W8) (by kernel_rfl) rfl rfl (by omega) (by kernel_rfl) (closed_postL _ _ _) ?_
            simp only [List.take_succ_cons, List.take_zero, List.drop_succ_cons, List.drop_zero, List.eraseIdx_cons_succ, List.eraseIdx_cons_zero]
            iterate 8 (refine e_plain rfl ?_; apply Exists.intro; refine ⟨fun D hD hK W hW => ?_, ?_⟩; (focus (obtain ⟨x1, y1⟩ := keepB (hD W hW) z1_8 r1_8 c1_8; obtain ⟨x6, y6⟩ := keepB (hD W hW) z6_8 r6_8 c6_8; unfold Oper.quietAt; go_simp; first | done | rfl)); simp only [Act.put, List.setIfInBounds_toArray, List.set_cons_zero, List.set_cons_succ])
            refine e_nil ?_
            refine ⟨fun W hW => ?_, ?_⟩
            · obtain ⟨x1, y1⟩ := keepB hW z1_8 r1_8 c1_8; obtain ⟨x6, y6⟩ := keepB hW z6_8 r6_8 c6_8; go_simp; go_at_call 55; exact (l01Kernel_any p n (rowsK (cenA p f i) n) _ hp hp' Hpr.out hn HRR.out).mono fun e w2 hh => by obtain ⟨a, m, c, g, rfl, h2, h3, h4⟩ := hh; exact ⟨_, rfl, h2, a, m, c, g, rfl, h3.wider hW.size (Nat.le_refl _), ker_of_rows hn (fun k hk t ht => rows_at hk ht) h4⟩
            intro val10 W10 hw10 hP10
            obtain ⟨aK_10, mK_10, cK_10, fK_10, rfl, hvK_10, hT10⟩ := hP10
            simp only [Act.put, List.setIfInBounds_toArray, List.set_cons_zero, List.set_cons_succ]
            have ltK1n10 : (w.heap.size) < W8.heap.size := z1_8
            have ltK6n10 : (W6.heap.size) < W8.heap.size := z6_8
            obtain ⟨r1_10, c1_10⟩ := keepB hw10 z1_8 r1_8 c1_8
            have z1_10 := isRow_lt r1_10
            obtain ⟨r6_10, c6_10⟩ := keepB hw10 z6_8 r6_8 c6_8
            have z6_10 := isRow_lt r6_10
            have hb10 := hb8.trans (hw10.mono hb8.size)
            have q10 := hb10.size
            have sz10 := hw10.size
            have hvO_10 := hvO_8.below hw10 (by omega)
            clear hw10 hvO_8 r1_8 c1_8 z1_8 r6_8 c6_8 z6_8 hb8
            have HT := Lib.hid hT10; clear hT10
            obtain ⟨lK, hlK⟩ := HT.out.1
            have HlK := Lib.hid hlK; clear hlK
            go_wp2_with fail
            have ltO1n11 : (w.heap.size) < W10.heap.size := z1_10
            refine (l01Meet_any p _ _ _ _ _ (fO_6) _ _ _ _ _ (fK_10) lK _ hp hp' Hpr.out (tells_le HXo.out) (by omega) (by omega) (by omega) (by omega) (tells_rng HXo.out) hvO_10 hvK_10 HlK.out).mono ?_; rintro _ W11 ⟨aO_11, mO_11, cO_11, fO_11, rfl, hw11, hvO_11, hT11⟩
            obtain ⟨r1_11, c1_11⟩ := keepB hw11 z1_10 r1_10 c1_10
            have z1_11 := isRow_lt r1_11
            have hb11 := hb10.trans (hw11.mono hb10.size)
            have q11 := hb11.size
            have sz11 := hw11.size
            have hvK_11 := hvK_10.below hw11 (by omega)
            clear hw11 hvK_10 r1_10 c1_10 z1_10 hb10
            have HTm := Lib.hid hT11; clear hT11
            go_wp2
            go_roundw
            case rel => exact ⟨i + 1, (aO_11), (cO_11), (W11.heap.size), (mO_11), (fO_11), by omega, (by first | rfl | go_num | (simp; done)), by go_num, (by (repeat (first | exact hb11 | exact Below.refl _ _ | refine Below.alloc ?_ (by first | omega | (simp; try omega)) _ | refine below_setRow ?_ (by omega) _ | refine Below.drew ?_))), ⟨by simp [go_sem, r1_11, c1_11, n1_6], (by rw [E1_6.out]; first | exact c1_11 | (simp [go_sem, r1_11, c1_11, n1_6]; done))⟩, (hvO_11).wider (by omega) (Nat.le_refl _), (by first | omega | (constructor <;> first | omega | (simp; done) | (simp; omega))), all_more HXo.out HT.out HTm.out⟩
            case measure => simp [intOf]; try omega
      · skip
        obtain rfl : n = i := by omega
        have HE := Lib.hid (tel_of hp2 HX6.out)
        go_wp2_with fail
        go_ret2
        exact ⟨aO_6, cO_6, by rw [HY.out, HE.out.1]; rfl, (by (repeat (first | exact hb6 | exact Below.refl _ _ | refine Below.alloc ?_ (by first | omega | (simp; try omega)) _ | refine below_setRow ?_ (by omega) _ | refine Below.drew ?_))), ((hvO_6).same (HE.out.1.trans HY.out.symm) HE.out.2).wider (by omega) (by omega)⟩

set_option maxRecDepth 100000 in
set_option maxHeartbeats 2000000 in
theorem lawCentreOf (fp fn : Int) (f : Nat → Int) (w : World) (_wfp : (Lit.int .i64 fp).wf = true) (_wfn : (Lit.int .i64 fn).wf = true) (hf : Bytes 520 f) :
    Calls Try.prog 5 #[.agg (alg fp fn f)] w fun e w' => e = .returned (.bool true) ∧ Below w.heap.size w w' := by
  have Hf := Lib.hid hf; clear hf
  have hm : cenN fp fn f ≤ 1000000 := Nat.le_trans (cen_le fp fn f) (by omega)
  go_enter Try.func5, Try.ntmps5
  go_wp2_with fail
  refine atomC fun W1 e1 => ?_
  have hb1 : Below w.heap.size w W1 := by rw [e1]; (repeat (first | exact Below.refl _ _ | refine Below.alloc ?_ (by first | omega | (simp; try omega)) _ | refine below_setRow ?_ (by omega) _ | refine Below.drew ?_))
  have q1 := hb1.size
  have r1_1 : IsRow W1 (w.heap.size) := by rw [e1]; simp [go_sem]
  have c1_1 := congrArg (fun x => blk x (w.heap.size)) e1; simp [go_sem] at c1_1
  have z1_1 := isRow_lt r1_1
  clear e1
  refine (toAlgebra_any _ _ _ _).mono ?_; rintro _ W2 ⟨rfl, hw2⟩
  obtain ⟨r1_2, c1_2⟩ := keepB hw2 z1_1 r1_1 c1_1
  have z1_2 := isRow_lt r1_2
  have hb2 := hb1.trans (hw2.mono hb1.size)
  have q2 := hb2.size
  clear hw2 r1_1 c1_1 z1_1 hb1
  go_wp2_with fail
  have ltS1n3 : (w.heap.size) < W2.heap.size := z1_2
  refine (specCentreOf_any _ _ _ _ Hf.out).mono ?_; rintro _ W3 ⟨aS_3, cS_3, rfl, hw3, hvS_3⟩
  have sz3 := hw3.size
  obtain ⟨r1_3, c1_3⟩ := keepB hw3 z1_2 r1_2 c1_2
  have z1_3 := isRow_lt r1_3
  have hb3 := hb2.trans (hw3.mono hb2.size)
  have q3 := hb3.size
  clear hw3 r1_2 c1_2 z1_2 hb2
  go_wp2_with fail
  refine (toAlgebra_any _ _ _ _).mono ?_; rintro _ W4 ⟨rfl, hw4⟩
  obtain ⟨r1_4, c1_4⟩ := keepB hw4 z1_3 r1_3 c1_3
  have z1_4 := isRow_lt r1_4
  have hb4 := hb3.trans (hw4.mono hb3.size)
  have q4 := hb4.size
  have sz4 := hw4.size
  have hvS_4 := hvS_3.below hw4 (by omega)
  clear hw4 hvS_3 r1_3 c1_3 z1_3 hb3
  go_wp2_with fail
  have ltG1n5 : (w.heap.size) < W4.heap.size := z1_4
  refine (centreOf_any _ _ _ _ Hf.out).mono ?_; rintro _ W5 ⟨aG_5, cG_5, rfl, hw5, hvG_5⟩
  obtain ⟨r1_5, c1_5⟩ := keepB hw5 z1_4 r1_4 c1_4
  have z1_5 := isRow_lt r1_5
  have hb5 := hb4.trans (hw5.mono hb4.size)
  have q5 := hb5.size
  have sz5 := hw5.size
  have hvS_5 := hvS_4.below hw5 (by omega)
  clear hw5 hvS_4 r1_4 c1_4 z1_4 hb4
  go_wp2_with fail
  refine (eqVectorS_any hm hvG_5 hvS_5).mono ?_; rintro _ W6 ⟨rfl, hw6⟩
  obtain ⟨r1_6, c1_6⟩ := keepB hw6 z1_5 r1_5 c1_5
  have z1_6 := isRow_lt r1_6
  have hb6 := hb5.trans (hw6.mono hb5.size)
  have q6 := hb6.size
  have sz6 := hw6.size
  have hvS_6 := hvS_5.below hw6 (by omega)
  have hvG_6 := hvG_5.below hw6 (by omega)
  clear hw6 hvS_5 hvG_5 r1_5 c1_5 z1_5 hb5
  go_wp2_with fail
  refine (markVectorS_any hm (by omega) (by omega) (by omega) hvG_6).mono ?_; rintro _ W7 ⟨rfl, hw7, hvG_7⟩
  obtain ⟨r1_7, c1_7⟩ := keepB hw7 (by have := z1_6; omega) r1_6 c1_6
  have z1_7 := isRow_lt r1_7
  have hb7 := hb6.trans (hw7.mono (by omega))
  have q7 := hb7.size
  have sz7 := hw7.size
  have hvS_7 := hvS_6.below hw7 (by omega)
  clear hw7 hvG_6 hvS_6 r1_6 c1_6 z1_6 hb6
  go_wp2_with fail
  refine (heldVectorS_any hm (by omega) (by omega) hvG_7).mono ?_; rintro _ W8 ⟨rfl, hw8⟩
  obtain ⟨r1_8, c1_8⟩ := keepB hw8 z1_7 r1_7 c1_7
  have z1_8 := isRow_lt r1_8
  have hb8 := hb7.trans (hw8.mono hb7.size)
  have q8 := hb8.size
  have sz8 := hw8.size
  have hvS_8 := hvS_7.below hw8 (by omega)
  have hvG_8 := hvG_7.below hw8 (by omega)
  clear hw8 hvS_7 hvG_7 r1_7 c1_7 z1_7 hb7
  go_wp2_with fail
  refine (toAlgebra_any _ _ _ _).mono ?_; rintro _ W9 ⟨rfl, hw9⟩
  have hb9 := hb8.trans (hw9.mono hb8.size)
  have q9 := hb9.size
  have sz9 := hw9.size
  have hvS_9 := hvS_8.below hw9 (by omega)
  have hvG_9 := hvG_8.below hw9 (by omega)
  clear hw9 hvS_8 hvG_8 hb8
  go_wp2_with fail
  refine (centreOf_any _ _ _ _ Hf.out).mono ?_; rintro _ W10 ⟨aH_10, cH_10, rfl, hw10, hvH_10⟩
  have hb10 := hb9.trans (hw10.mono hb9.size)
  have q10 := hb10.size
  have sz10 := hw10.size
  have hvS_10 := hvS_9.below hw10 (by omega)
  have hvG_10 := hvG_9.below hw10 (by omega)
  clear hw10 hvS_9 hvG_9 hb9
  go_wp2_with fail
  refine (eqVectorS_any hm hvH_10 hvS_10).mono ?_; rintro _ W11 ⟨rfl, hw11⟩
  have hb11 := hb10.trans (hw11.mono hb10.size)
  have q11 := hb11.size
  have sz11 := hw11.size
  have hvS_11 := hvS_10.below hw11 (by omega)
  have hvG_11 := hvG_10.below hw11 (by omega)
  have hvH_11 := hvH_10.below hw11 (by omega)
  clear hw11 hvS_10 hvG_10 hvH_10 hb10
  go_wp2_with fail
  refine (heldVectorS_any hm (by omega) (by omega) hvG_11).mono ?_; rintro _ W12 ⟨rfl, hw12⟩
  have hb12 := hb11.trans (hw12.mono hb11.size)
  have q12 := hb12.size
  have sz12 := hw12.size
  have hvS_12 := hvS_11.below hw12 (by omega)
  have hvG_12 := hvG_11.below hw12 (by omega)
  have hvH_12 := hvH_11.below hw12 (by omega)
  clear hw12 hvS_11 hvG_11 hvH_11 hb11
  go_wp2_with fail
  go_ret
  exact ⟨rfl, (by (repeat (first | exact hb12 | exact Below.refl _ _ | refine Below.alloc ?_ (by first | omega | (simp; try omega)) _ | refine below_setRow ?_ (by omega) _ | refine Below.drew ?_)))⟩

end Go.Proofs.Ytjpdpnplnelgcaa
