/- Primitive vectors: both programs, and the law. -/
import Derived.Test.YtfmhgfnadgaiaaaMN
import Derived.Test.YtfmhgfnadgaiaaaL7
import Derived.Test.YtfmhgfnadgaiaaaQ10
import Derived.Test.YtfmhgfnadgaiaaaRegionF
import Derived.Test.YtfmhgfnadgaiaaaRegionH
namespace Go.Proofs.Ytfmhgfnadgaiaaa
open Go.RowKit
set_option linter.unusedSimpArgs false
set_option linter.unusedVariables false
attribute [local irreducible] wpQuiet wpQE

/-! ### primitive vectors -/
/-- table i of the coproducts -/
def comR (f : Nat → Int) (i : Nat) : Nat → Int := fun t => tab f (i * 64 + t)
theorem alg_at64 (p n : Int) (f : Nat → Int) (i : Nat) (hi : i < 8) : (alg p n f).extract (10 + i * 64) (10 + i * 64 + 64) = row 64 (comR f i) := by
  rw [alg_part p n f (10 + i * 64) 64 (by omega) (by omega)]
  exact row_congr fun t _ => by unfold comR tab; congr 1; omega
def priX (f v u : Nat → Int) (j k i : Nat) : Int := mtab f i j k - (if i = j then v k else 0) - (if i = k then u j else 0)
def prA (p : Int) (n : Nat) (f v u : Nat → Int) (j k : Nat) : Nat → Int := genF p (priX f v u j k) n
def PrS (p : Int) (n : Nat) (f v u : Nat → Int) : (Nat → Int) → Prop := AllDot p n n (prA p n f v u)
def priI (p : Int) (f v u : Nat → Int) (i : Nat) : Nat → Int := pairK p (pairK p (comR f i) (-1 % p) (ebas i) v 8) (-1 % p) u (ebas i) 8
theorem com_range {p : Int} {n : Nat} {f : Nat → Int} (h : shapeB p n f = true) (hF : Bytes 520 f) (i : Nat) (hi : i < 8) : ∀ t, t < 64 → 0 ≤ comR f i t ∧ comR f i t < p := fun t ht => by
  have h1 := shape_entry h i (t / 8) (t % 8) hi (by omega) (by omega)
  have h2 := tab_bytes hF (i * 64 + t) (by omega)
  have e : mtab f i (t / 8) (t % 8) = comR f i t := by unfold mtab comR; congr 1; omega
  rw [e] at h1
  unfold comR at h1 ⊢
  exact ⟨h2.1, h1.1⟩
theorem neg_part (p a b : Int) : (-1 % p * a % p * b) % p = (-(a * b)) % p := by
  have e : (-1 % p * a % p * b) % p = (-1 * a * b) % p := emod_mul_congr ((Int.emod_emod _ _).trans (emod_mul_congr (Int.emod_emod _ _) rfl)) rfl
  rw [e]
  congr 1
  rw [Int.neg_mul, Int.one_mul, Int.neg_mul]
theorem pri_at {p : Int} {f v u : Nat → Int} {i j k : Nat} (hj : j < 8) (hk : k < 8) : priI p f v u i (j * 8 + k) % p = priX f v u j k i % p := by
  unfold priI pairK
  rw [if_pos (show (j * 8 + k) / 8 < 8 by omega), if_pos (show (j * 8 + k) / 8 < 8 by omega), show (j * 8 + k) / 8 = j by omega, show (j * 8 + k) % 8 = k by omega, Int.emod_emod, Int.emod_add_emod,
    emod_add_congr (emod_add_congr (rfl : comR f i (j * 8 + k) % p = _) (neg_part p (ebas i j) (v k))) (neg_part p (u j) (ebas i k))]
  congr 1
  have e0 : comR f i (j * 8 + k) = mtab f i j k := rfl
  rw [e0]
  have e1 : ebas i j * v k = if i = j then v k else 0 := by
    unfold ebas upd zf
    by_cases h : i = j
    · rw [if_pos h, if_pos h.symm, Int.one_mul]
    · rw [if_neg h, if_neg (fun e => h e.symm), Int.zero_mul]
  have e2 : u j * ebas i k = if i = k then u j else 0 := by
    unfold ebas upd zf
    by_cases h : i = k
    · rw [if_pos h, if_pos h.symm, Int.mul_one]
    · rw [if_neg h, if_neg (fun e => h e.symm), Int.mul_zero]
  rw [e1, e2]
  unfold priX
  omega
theorem pri_out {p : Int} {n : Nat} {f v u : Nat → Int} (h : shapeB p n f = true) (hv : ∀ t, n ≤ t → t < 8 → v t = 0) (hu : ∀ t, n ≤ t → t < 8 → u t = 0) {i j k : Nat} (hi : i < n) (hn : n ≤ 8) (hj : j < 8) (hk : k < 8) (ho : ¬ (j < n ∧ k < n)) : priX f v u j k i = 0 := by
  have h0 : mtab f i j k = 0 := by
    have := (shape_entry h i j k (by omega) hj hk).2
    omega
  unfold priX
  rw [h0]
  have e1 : (if i = j then v k else 0) = 0 := by
    split
    · exact hv k (by omega) hk
    · rfl
  have e2 : (if i = k then u j else 0) = 0 := by
    split
    · exact hu j (by omega) hj
    · rfl
  rw [e1, e2]
  rfl
theorem pri_ker {p : Int} {n : Nat} {f v u : Nat → Int} (hn : n ≤ 8) (h : shapeB p n f = true) (hv : ∀ t, n ≤ t → t < 8 → v t = 0) (hu : ∀ t, n ≤ t → t < 8 → u t = 0) (x : Nat → Int) : KerOf p 64 n (priI p f v u) x ↔ PrS p n f v u x := by
  have e : ∀ j k, j < n → k < n → dotF n x (prA p n f v u j k) % p = sumTo (fun i => x i * priI p f v u i (j * 8 + k)) n % p := fun j k hj hk => dot_gen fun i _ => pri_at (by omega) (by omega)
  unfold KerOf PrS AllDot
  constructor
  · rintro ⟨h1, h2⟩
    exact ⟨fun j hj k hk => by rw [e j k hj hk]; exact h1 (j * 8 + k) (by omega), h2⟩
  · rintro ⟨h1, h2⟩
    refine ⟨fun t ht => ?_, h2⟩
    by_cases ho : t / 8 < n ∧ t % 8 < n
    · have := h1 (t / 8) ho.1 (t % 8) ho.2
      rw [e _ _ ho.1 ho.2, show t / 8 * 8 + t % 8 = t by omega] at this
      exact this
    · rw [sum_mod p _ (fun _ => 0) n fun i hi => ?_, sumTo_zero n fun _ _ => rfl]
      · simp
      · have h3 := pri_at (p := p) (f := f) (v := v) (u := u) (i := i) (j := t / 8) (k := t % 8) (by omega) (by omega)
        rw [show t / 8 * 8 + t % 8 = t by omega, pri_out h hv hu hi hn (by omega) (by omega) ho] at h3
        show x i * priI p f v u i t % p = 0 % p
        rw [Int.mul_emod, h3, Int.zero_emod, Int.mul_zero, Int.zero_emod]
theorem ok2_far {p : Int} {n : Nat} {f v u : Nat → Int} (h : okC p n f 2 (nth (pair v u)) = true) : (∀ t, n ≤ t → t < 8 → v t = 0) ∧ ∀ t, n ≤ t → t < 8 → u t = 0 := by
  unfold okC at h
  simp only [Bool.and_eq_true] at h
  have h0 := all_get h.2 0 (by omega)
  have h1 := all_get h.2 1 (by omega)
  rw [vecB_iff] at h0 h1
  refine ⟨fun t ht ht8 => ?_, fun t ht ht8 => ?_⟩
  · have e : nth (pair v u) 0 t = v t := by unfold nth pair; rw [if_pos (by omega)]; congr 1; omega
    have := (h0 t ht8).2
    rw [e] at this
    omega
  · have e : nth (pair v u) 1 t = u t := by unfold nth pair; rw [if_neg (by omega)]; congr 1; omega
    have := (h1 t ht8).2
    rw [e] at this
    omega
def stB (p : Int) (f v u : Nat → Int) : Bool := grpB p f v && grpB p f u
noncomputable def prN (p n : Int) (f v u : Nat → Int) : Nat := if okC p n f 2 (nth (pair v u)) && stB p f v u then telN p (PrS p n.toNat f v u) else 0
noncomputable def prG (p n : Int) (f v u : Nat → Int) : Nat → Nat → Int := telG p (PrS p n.toNat f v u)
def prC (p n : Int) (f v u : Nat → Int) : Int := if okC p n f 2 (nth (pair v u)) then if stB p f v u then 0 else 5 else 1
theorem pr_bad {p n : Int} {f v u : Nat → Int} (h : okC p n f 2 (nth (pair v u)) = false) : prN p n f v u = 0 ∧ prC p n f v u = 1 := by unfold prN prC; rw [h]; exact ⟨rfl, rfl⟩
theorem pr_st {p n : Int} {f v u : Nat → Int} (h : okC p n f 2 (nth (pair v u)) = true) (h2 : stB p f v u = false) : prN p n f v u = 0 ∧ prC p n f v u = 5 := by unfold prN prC; rw [h, h2]; exact ⟨rfl, rfl⟩
theorem pr_yes {p : Int} {n : Nat} {f v u : Nat → Int} (h : okC p n f 2 (nth (pair v u)) = true) (h2 : stB p f v u = true) : prN p n f v u = telN p (PrS p n f v u) ∧ prC p n f v u = 0 := by unfold prN prC; rw [h, h2]; exact ⟨rfl, rfl⟩
theorem st_v {p : Int} {f v u : Nat → Int} (h : grpB p f v = false) : stB p f v u = false := by unfold stB; rw [h]; rfl
theorem st_u {p : Int} {f v u : Nat → Int} (h : grpB p f u = false) : stB p f v u = false := by unfold stB; rw [h]; exact Bool.and_false _
theorem st_yes {p : Int} {f v u : Nat → Int} (h : grpB p f v = true) (h2 : grpB p f u = true) : stB p f v u = true := by unfold stB; rw [h, h2]; rfl
theorem pr_le (p n : Int) (f v u : Nat → Int) : prN p n f v u ≤ 8 := by
  unfold prN
  split
  · exact tel_le _ _
  · omega

set_option maxRecDepth 100000 in
set_option maxHeartbeats 4000000 in
theorem l02Primitive_any (p : Int) (n : Nat) (f v u : Nat → Int) (w : World) (hp : 0 < p) (hp' : p ≤ 255) (hpr : prime31 p = true) (hn : n ≤ 8) (hF : Bytes 520 f) (hv : Bytes 8 v) (hu : Bytes 8 u) :
    Calls Try.prog 43 #[.agg (alg p n f), .agg (row 8 v), .agg (row 8 u)] w fun e w' => ∃ a c, e = .returned (.slice a (telN p (PrS p n f v u)) c) ∧ Below w.heap.size w w' ∧ VL w' w.heap.size w'.heap.size a (telN p (PrS p n f v u)) c (telG p (PrS p n f v u)) := by
 have Hpr := Lib.hid hpr; clear hpr
 have HF := Lib.hid hF; clear hF
 have Hv := Lib.hid hv; clear hv
 have Hu := Lib.hid hu; clear hu
 go_enter Try.func43, Try.ntmps43
 go_wp2
 refine atomW fun W1 e1 => ?_
 have hb1 : Below w.heap.size w W1 := by rw [e1]; exact bt
 have q1 := hb1.size
 have R1 : IsRow W1 (w.heap.size) ∧ IsRow W1 (w.heap.size + 1) ∧ IsRow W1 (w.heap.size + 2) ∧ IsRow W1 (w.heap.size + 3) := by rw [e1]; simp [go_sem]
 obtain ⟨r3_1, r4_1, r5_1, r13_1⟩ := R1
 have C1 := (⟨congrArg (blk · (w.heap.size)) e1, congrArg (blk · (w.heap.size + 1)) e1, congrArg (blk · (w.heap.size + 2)) e1, congrArg (blk · (w.heap.size + 3)) e1⟩ : _ ∧ _ ∧ _ ∧ _); simp [go_sem] at C1
 obtain ⟨c3_1, c4_1, c5_1, c13_1⟩ := C1
 have z3_1 := isRow_lt r3_1; have z4_1 := isRow_lt r4_1; have z5_1 := isRow_lt r5_1; have z13_1 := isRow_lt r13_1
 have lt73n1 : (w.heap.size) < (w.heap.size + 3) := by omega
 have lt74n1 : (w.heap.size + 1) < (w.heap.size + 3) := by omega
 have lt75n1 : (w.heap.size + 2) < (w.heap.size + 3) := by omega
 have hv7_1 := VL.empty (U := W1.heap.size) (Nat.le_refl _) z13_1 r13_1 c13_1 fun _ _ => 0
 have sz7_1 := z13_1
 clear e1
 go_loopw [7, 8] (fun s7 s8 wr => ∃ j : Nat, ∃ a7_2 : Option Addr, ∃ c7_2 : Nat, ∃ U7_2 : Nat, ∃ m7_2 : Nat, ∃ f7_2 : Nat → Nat → Int, j ≤ n ∧ s7 = .slice a7_2 (m7_2) c7_2 ∧ s8 = .int .i64 j ∧ Below w.heap.size w wr ∧ (IsRow wr (w.heap.size) ∧ blk wr (w.heap.size) = blk W1 (w.heap.size)) ∧ (IsRow wr (w.heap.size + 1) ∧ blk wr (w.heap.size + 1) = blk W1 (w.heap.size + 1)) ∧ (IsRow wr (w.heap.size + 2) ∧ blk wr (w.heap.size + 2) = blk W1 (w.heap.size + 2)) ∧ VL wr (w.heap.size + 3) (U7_2) (a7_2) (m7_2) (c7_2) (f7_2) ∧ ((w.heap.size + 3) ≤ (U7_2) ∧ (U7_2) ≤ wr.heap.size) ∧ PriInv p n (prA p n f v u) j 0 (m7_2) (f7_2)) (fun _ s8 _ => n - (intOf s8).toNat)
 case atStart => exact ⟨0, some ⟨w.heap.size + 3, 0, none⟩, 0, W1.heap.size, 0, fun _ _ => 0, by omega, (by first | rfl | (simp; done) | go_num), rfl, hb1, ⟨r3_1, rfl⟩, ⟨r4_1, rfl⟩, ⟨r5_1, rfl⟩, hv7_1, (by omega), pri_start _ _ _ _⟩
 case round =>
  obtain ⟨j, a7_2, c7_2, U7_2, m7_2, f7_2, hle2, rfl, rfl, hb2, ⟨r3_2, c3_2⟩, ⟨r4_2, c4_2⟩, ⟨r5_2, c5_2⟩, hv7_2, hU7_2, hx2⟩ := hrel
  obtain ⟨W2, rfl⟩ : ∃ W2 : World, W2 = wr := ⟨_, rfl⟩
  have q2 := hb2.size
  have HX2 := Lib.hid hx2; clear hx2
  have E3_2 := Lib.hid c3_1; replace c3_2 := c3_2.trans c3_1
  have z3_2 := isRow_lt r3_2
  have E4_2 := Lib.hid c4_1; replace c4_2 := c4_2.trans c4_1
  have z4_2 := isRow_lt r4_2
  have E5_2 := Lib.hid c5_1; replace c5_2 := c5_2.trans c5_1
  have z5_2 := isRow_lt r5_2
  clear r3_1 c3_1 z3_1 r4_1 c4_1 z4_1 r5_1 c5_1 z5_1 hb1 hv7_1
  by_cases hlt2 : j < n
  ·
   have i0_2 : (0 : Int) ≤ (j : Int) := by omega
   have i8_2 : (j : Int) < 8 := by omega
   have k8_2 : j < 8 := by omega
   have m8_2 : j * 8 + 8 ≤ 64 := by omega
   have m64_2 : j * 64 + 64 ≤ 512 := by omega
   have l1_2 : 10 + j * 64 + 64 ≤ 522 := by omega
   go_wp2
   go_loopw [7, 9] (fun s7 s9 wr => ∃ k : Nat, ∃ a7_3 : Option Addr, ∃ c7_3 : Nat, ∃ U7_3 : Nat, ∃ m7_3 : Nat, ∃ f7_3 : Nat → Nat → Int, k ≤ n ∧ s7 = .slice a7_3 (m7_3) c7_3 ∧ s9 = .int .i64 k ∧ Below w.heap.size w wr ∧ (IsRow wr (w.heap.size) ∧ blk wr (w.heap.size) = blk W2 (w.heap.size)) ∧ (IsRow wr (w.heap.size + 1) ∧ blk wr (w.heap.size + 1) = blk W2 (w.heap.size + 1)) ∧ (IsRow wr (w.heap.size + 2) ∧ blk wr (w.heap.size + 2) = blk W2 (w.heap.size + 2)) ∧ VL wr (w.heap.size + 3) (U7_3) (a7_3) (m7_3) (c7_3) (f7_3) ∧ ((w.heap.size + 3) ≤ (U7_3) ∧ (U7_3) ≤ wr.heap.size) ∧ PriInv p n (prA p n f v u) j k (m7_3) (f7_3)) (fun _ s9 _ => n - (intOf s9).toNat)
   case atStart => exact ⟨0, a7_2, c7_2, U7_2, m7_2, f7_2, by omega, (by first | rfl | (simp; done) | go_num), rfl, hb2, ⟨r3_2, rfl⟩, ⟨r4_2, rfl⟩, ⟨r5_2, rfl⟩, hv7_2, (by omega), HX2.out⟩
   case round =>
    obtain ⟨k, a7_3, c7_3, U7_3, m7_3, f7_3, hle3, rfl, rfl, hb3, ⟨r3_3, c3_3⟩, ⟨r4_3, c4_3⟩, ⟨r5_3, c5_3⟩, hv7_3, hU7_3, hx3⟩ := hrel
    obtain ⟨W3, rfl⟩ : ∃ W3 : World, W3 = wr := ⟨_, rfl⟩
    have q3 := hb3.size
    have HX3 := Lib.hid hx3; clear hx3
    have E3_3 := Lib.hid c3_2; replace c3_3 := c3_3.trans c3_2
    have z3_3 := isRow_lt r3_3
    have E4_3 := Lib.hid c4_2; replace c4_3 := c4_3.trans c4_2
    have z4_3 := isRow_lt r4_3
    have E5_3 := Lib.hid c5_2; replace c5_3 := c5_3.trans c5_2
    have z5_3 := isRow_lt r5_3
    clear r3_2 c3_2 z3_2 r4_2 c4_2 z4_2 r5_2 c5_2 z5_2 hb2 hv7_2
    by_cases hlt3 : k < n
    ·
     have i0_3 : (0 : Int) ≤ (k : Int) := by omega
     have i8_3 : (k : Int) < 8 := by omega
     have k8_3 : k < 8 := by omega
     have m8_3 : k * 8 + 8 ≤ 64 := by omega
     have m64_3 : k * 64 + 64 ≤ 512 := by omega
     have l1_3 : 10 + k * 64 + 64 ≤ 522 := by omega
     have l2_3j : 10 + j * 64 + k * 8 + 8 ≤ 522 := by omega
     have l3_3j : 10 + k * 64 + j * 8 + 8 ≤ 522 := by omega
     have l4_3j : j * 64 + k * 8 + 8 ≤ 512 := by omega
     have l5_3j : k * 64 + j * 8 + 8 ≤ 512 := by omega
     have l6_3j : j * 8 + k < 64 := by omega
     have l7_3j : k * 8 + j < 64 := by omega
     have HXk := HX3
     have hltk := hlt3
     have hMk := HXk.out.1
     have HAb : Hid (Bytes 8 (prA p n f v u j k)) := Lib.hid fun t _ => by have := gen_range hp (priX f v u j k) n t; unfold prA; omega
     go_wp2
     have nw3_W3_0 : (w.heap.size) ≠ W3.heap.size := by omega
     have nw4_W3_0 : (w.heap.size + 1) ≠ W3.heap.size := by omega
     have nw5_W3_0 : (w.heap.size + 2) ≠ W3.heap.size := by omega
     refine atomW fun W4 e4 => ?_
     have hb4 : Below w.heap.size w W4 := by rw [e4]; exact bt
     have q4 := hb4.size
     have R4 : IsRow W4 (w.heap.size) ∧ IsRow W4 (w.heap.size + 1) ∧ IsRow W4 (w.heap.size + 2) ∧ IsRow W4 (W3.heap.size) := by rw [e4]; simp [go_sem, r3_3, c3_3, r4_3, c4_3, r5_3, c5_3, nw3_W3_0, nw4_W3_0, nw5_W3_0]
     obtain ⟨r3_4, r4_4, r5_4, r10_4⟩ := R4
     have C4 := (⟨congrArg (blk · (w.heap.size)) e4, congrArg (blk · (w.heap.size + 1)) e4, congrArg (blk · (w.heap.size + 2)) e4, congrArg (blk · (W3.heap.size)) e4⟩ : _ ∧ _ ∧ _ ∧ _); simp [go_sem, r3_3, c3_3, r4_3, c4_3, r5_3, c5_3, nw3_W3_0, nw4_W3_0, nw5_W3_0] at C4
     obtain ⟨c3_4, c4_4, c5_4, c10_4⟩ := C4
     have z3_4 := isRow_lt r3_4; have z4_4 := isRow_lt r4_4; have z5_4 := isRow_lt r5_4; have z10_4 := isRow_lt r10_4
     have n3_10 : (w.heap.size) ≠ (W3.heap.size) := by omega
     have n4_10 : (w.heap.size + 1) ≠ (W3.heap.size) := by omega
     have n5_10 : (w.heap.size + 2) ≠ (W3.heap.size) := by omega
     have n10_3 : (W3.heap.size) ≠ (w.heap.size) := by omega
     have n10_4 : (W3.heap.size) ≠ (w.heap.size + 1) := by omega
     have n10_5 : (W3.heap.size) ≠ (w.heap.size + 2) := by omega
     have hv7_4 : VL W4 (w.heap.size + 3) (U7_3) (a7_3) (m7_3) (c7_3) (f7_3) := by rw [e4]; exact vtV
     clear e4 nw3_W3_0 nw4_W3_0 nw5_W3_0 r3_3 c3_3 z3_3 r4_3 c4_3 z4_3 r5_3 c5_3 z5_3 hv7_3 hb3
     go_loopw [11] (fun s11 wr => ∃ i : Nat, i ≤ n ∧ s11 = .int .i64 i ∧ Below w.heap.size w wr ∧ (IsRow wr (w.heap.size) ∧ blk wr (w.heap.size) = blk W4 (w.heap.size)) ∧ (IsRow wr (w.heap.size + 1) ∧ blk wr (w.heap.size + 1) = blk W4 (w.heap.size + 1)) ∧ (IsRow wr (w.heap.size + 2) ∧ blk wr (w.heap.size + 2) = blk W4 (w.heap.size + 2)) ∧ (IsRow wr (W3.heap.size) ∧ blk wr (W3.heap.size) = row 8 (genF p (priX f v u j k) i)) ∧ VL wr (w.heap.size + 3) (U7_3) (a7_3) (m7_3) (c7_3) (f7_3) ∧ ((w.heap.size + 3) ≤ (U7_3) ∧ (U7_3) ≤ wr.heap.size)) (fun s11 _ => n - (intOf s11).toNat)
     case atStart => exact ⟨0, by omega, rfl, hb4, ⟨r3_4, rfl⟩, ⟨r4_4, rfl⟩, ⟨r5_4, rfl⟩, ⟨r10_4, c10_4.trans (gen_zero p (priX f v u j k))⟩, hv7_4, (by omega)⟩
     case round =>
      obtain ⟨i, hle5, rfl, hb5, ⟨r3_5, c3_5⟩, ⟨r4_5, c4_5⟩, ⟨r5_5, c5_5⟩, ⟨r10_5, c10_5⟩, hv7_5, hU7_5⟩ := hrel
      obtain ⟨W5, rfl⟩ : ∃ W5 : World, W5 = wr := ⟨_, rfl⟩
      have q5 := hb5.size
      have E3_5 := Lib.hid c3_4; replace c3_5 := c3_5.trans c3_4
      have z3_5 := isRow_lt r3_5
      have E4_5 := Lib.hid c4_4; replace c4_5 := c4_5.trans c4_4
      have z4_5 := isRow_lt r4_5
      have E5_5 := Lib.hid c5_4; replace c5_5 := c5_5.trans c5_4
      have z5_5 := isRow_lt r5_5
      have z10_5 := isRow_lt r10_5
      clear r3_4 c3_4 z3_4 r4_4 c4_4 z4_4 r5_4 c5_4 z5_4 r10_4 c10_4 z10_4 hb4 hv7_4
      by_cases hlt5 : i < n
      ·
       have i0_5 : (0 : Int) ≤ (i : Int) := by omega
       have i8_5 : (i : Int) < 8 := by omega
       have k8_5 : i < 8 := by omega
       have m8_5 : i * 8 + 8 ≤ 64 := by omega
       have m64_5 : i * 64 + 64 ≤ 512 := by omega
       have l1_5 : 10 + i * 64 + 64 ≤ 522 := by omega
       have l2_5j : 10 + j * 64 + i * 8 + 8 ≤ 522 := by omega
       have l3_5j : 10 + i * 64 + j * 8 + 8 ≤ 522 := by omega
       have l4_5j : j * 64 + i * 8 + 8 ≤ 512 := by omega
       have l5_5j : i * 64 + j * 8 + 8 ≤ 512 := by omega
       have l6_5j : j * 8 + i < 64 := by omega
       have l7_5j : i * 8 + j < 64 := by omega
       have l2_5k : 10 + k * 64 + i * 8 + 8 ≤ 522 := by omega
       have l3_5k : 10 + i * 64 + k * 8 + 8 ≤ 522 := by omega
       have l4_5k : k * 64 + i * 8 + 8 ≤ 512 := by omega
       have l5_5k : i * 64 + k * 8 + 8 ≤ 512 := by omega
       have l6_5k : k * 8 + i < 64 := by omega
       have l7_5k : i * 8 + k < 64 := by omega
       by_cases h1 : i = j
       ·
        by_cases h2 : i = k
        ·
         have e1 := alg_at p n f i j k (by omega) (by omega) (by omega)
         have e2 := fun hh => alg_el p n f i j k (by omega) (by omega) (by omega) hh
         have l9 : 10 + i * 64 + j * 8 + k < 522 := by omega
         have b1 := (mtab_bytes HF.out i j (by omega) (by omega) k (by omega)).1
         have b2 := (mtab_bytes HF.out i j (by omega) (by omega) k (by omega)).2
         have b3 := (Hv.out k (by omega)).1
         have b4 := (Hv.out k (by omega)).2
         have b5 := (Hu.out j (by omega)).1
         have b6 := (Hu.out j (by omega)).2
         have q1 : IntKind.i64.wrap (mtab f i j k) = mtab f i j k := IntWalk.i64_in _ (by omega)
         have q2 : IntKind.i64.wrap (v k) = v k := IntWalk.i64_in _ (by omega)
         have q3 : IntKind.i64.wrap (u j) = u j := IntWalk.i64_in _ (by omega)
         have q4 : IntKind.i64.wrap (mtab f i j k - v k) = mtab f i j k - v k := IntWalk.i64_in _ (by omega)
         have q5 : IntKind.i64.wrap (mtab f i j k - v k - u j) = mtab f i j k - v k - u j := IntWalk.i64_in _ (by omega)
         have HOwn : Hid ((mtab f i j k - v k - u j) % p = priX f v u j k i % p) := Lib.hid (by unfold priX; rw [if_pos h1, if_pos h2])
         have h11 : (((i : Nat) : Int) == ((j : Nat) : Int)) = true := by rw [h1]; exact beq_self_eq_true _
         have h12 : decide (((i : Nat) : Int) = ((j : Nat) : Int)) = true := decide_eq_true (by rw [h1])
         have h21 : (((i : Nat) : Int) == ((k : Nat) : Int)) = true := by rw [h2]; exact beq_self_eq_true _
         have h22 : decide (((i : Nat) : Int) = ((k : Nat) : Int)) = true := decide_eq_true (by rw [h2])
         have H1 := Lib.hid h1; clear h1
         have H2 := Lib.hid h2; clear h2
         go_wp2_with fail
         refine (l01Mod_any p (mtab f i j k - v k - u j) _ hp hp' (by omega) (by omega)).mono ?_; rintro _ _ ⟨rfl, rfl⟩
         go_wp2
         go_roundw
         case rel => exact ⟨i + 1, by omega, by go_num, bt, ⟨by simp [go_sem, r3_5, c3_5, n3_10, r4_5, c4_5, n4_10, r5_5, c5_5, n5_10, r10_5, c10_5, n10_3, n10_4, n10_5], (by rw [E3_5.out]; first | exact c3_5 | (simp [go_sem, r3_5, c3_5, n3_10, r4_5, c4_5, n4_10, r5_5, c5_5, n5_10, r10_5, c10_5, n10_3, n10_4, n10_5]; done))⟩, ⟨by simp [go_sem, r3_5, c3_5, n3_10, r4_5, c4_5, n4_10, r5_5, c5_5, n5_10, r10_5, c10_5, n10_3, n10_4, n10_5], (by rw [E4_5.out]; first | exact c4_5 | (simp [go_sem, r3_5, c3_5, n3_10, r4_5, c4_5, n4_10, r5_5, c5_5, n5_10, r10_5, c10_5, n10_3, n10_4, n10_5]; done))⟩, ⟨by simp [go_sem, r3_5, c3_5, n3_10, r4_5, c4_5, n4_10, r5_5, c5_5, n5_10, r10_5, c10_5, n10_3, n10_4, n10_5], (by rw [E5_5.out]; first | exact c5_5 | (simp [go_sem, r3_5, c3_5, n3_10, r4_5, c4_5, n4_10, r5_5, c5_5, n5_10, r10_5, c10_5, n10_3, n10_4, n10_5]; done))⟩, ⟨by simp [go_sem, r3_5, c3_5, n3_10, r4_5, c4_5, n4_10, r5_5, c5_5, n5_10, r10_5, c10_5, n10_3, n10_4, n10_5], (by first | (rw [blk_setRow _ _ _ _ r10_5, if_pos rfl]; exact gen_step HOwn.out) | exact (c10_5).trans (gen_step HOwn.out) | (simp [go_sem, r3_5, c3_5, n3_10, r4_5, c4_5, n4_10, r5_5, c5_5, n5_10, r10_5, c10_5, n10_3, n10_4, n10_5]; exact gen_step HOwn.out))⟩, vtV, bu⟩
         case measure => simp [intOf]; try omega
        ·
         have e1 := alg_at p n f i j k (by omega) (by omega) (by omega)
         have e2 := fun hh => alg_el p n f i j k (by omega) (by omega) (by omega) hh
         have l9 : 10 + i * 64 + j * 8 + k < 522 := by omega
         have b1 := (mtab_bytes HF.out i j (by omega) (by omega) k (by omega)).1
         have b2 := (mtab_bytes HF.out i j (by omega) (by omega) k (by omega)).2
         have b3 := (Hv.out k (by omega)).1
         have b4 := (Hv.out k (by omega)).2
         have b5 := (Hu.out j (by omega)).1
         have b6 := (Hu.out j (by omega)).2
         have q1 : IntKind.i64.wrap (mtab f i j k) = mtab f i j k := IntWalk.i64_in _ (by omega)
         have q2 : IntKind.i64.wrap (v k) = v k := IntWalk.i64_in _ (by omega)
         have q3 : IntKind.i64.wrap (u j) = u j := IntWalk.i64_in _ (by omega)
         have q4 : IntKind.i64.wrap (mtab f i j k - v k) = mtab f i j k - v k := IntWalk.i64_in _ (by omega)
         have HOwn : Hid ((mtab f i j k - v k) % p = priX f v u j k i % p) := Lib.hid (by unfold priX; rw [if_pos h1, if_neg h2, Int.sub_zero])
         have h11 : (((i : Nat) : Int) == ((j : Nat) : Int)) = true := by rw [h1]; exact beq_self_eq_true _
         have h12 : decide (((i : Nat) : Int) = ((j : Nat) : Int)) = true := decide_eq_true (by rw [h1])
         have h21 : (((i : Nat) : Int) == ((k : Nat) : Int)) = false := by rw [beq_eq_false_iff_ne]; omega
         have h22 : decide (((i : Nat) : Int) = ((k : Nat) : Int)) = false := decide_eq_false (by omega)
         have H1 := Lib.hid h1; clear h1
         have H2 := Lib.hid h2; clear h2
         go_wp2_with fail
         refine (l01Mod_any p (mtab f i j k - v k) _ hp hp' (by omega) (by omega)).mono ?_; rintro _ _ ⟨rfl, rfl⟩
         go_wp2
         go_roundw
         case rel => exact ⟨i + 1, by omega, by go_num, bt, ⟨by simp [go_sem, r3_5, c3_5, n3_10, r4_5, c4_5, n4_10, r5_5, c5_5, n5_10, r10_5, c10_5, n10_3, n10_4, n10_5], (by rw [E3_5.out]; first | exact c3_5 | (simp [go_sem, r3_5, c3_5, n3_10, r4_5, c4_5, n4_10, r5_5, c5_5, n5_10, r10_5, c10_5, n10_3, n10_4, n10_5]; done))⟩, ⟨by simp [go_sem, r3_5, c3_5, n3_10, r4_5, c4_5, n4_10, r5_5, c5_5, n5_10, r10_5, c10_5, n10_3, n10_4, n10_5], (by rw [E4_5.out]; first | exact c4_5 | (simp [go_sem, r3_5, c3_5, n3_10, r4_5, c4_5, n4_10, r5_5, c5_5, n5_10, r10_5, c10_5, n10_3, n10_4, n10_5]; done))⟩, ⟨by simp [go_sem, r3_5, c3_5, n3_10, r4_5, c4_5, n4_10, r5_5, c5_5, n5_10, r10_5, c10_5, n10_3, n10_4, n10_5], (by rw [E5_5.out]; first | exact c5_5 | (simp [go_sem, r3_5, c3_5, n3_10, r4_5, c4_5, n4_10, r5_5, c5_5, n5_10, r10_5, c10_5, n10_3, n10_4, n10_5]; done))⟩, ⟨by simp [go_sem, r3_5, c3_5, n3_10, r4_5, c4_5, n4_10, r5_5, c5_5, n5_10, r10_5, c10_5, n10_3, n10_4, n10_5], (by first | (rw [blk_setRow _ _ _ _ r10_5, if_pos rfl]; exact gen_step HOwn.out) | exact (c10_5).trans (gen_step HOwn.out) | (simp [go_sem, r3_5, c3_5, n3_10, r4_5, c4_5, n4_10, r5_5, c5_5, n5_10, r10_5, c10_5, n10_3, n10_4, n10_5]; exact gen_step HOwn.out))⟩, vtV, bu⟩
         case measure => simp [intOf]; try omega
       ·
        by_cases h2 : i = k
        ·
         have e1 := alg_at p n f i j k (by omega) (by omega) (by omega)
         have e2 := fun hh => alg_el p n f i j k (by omega) (by omega) (by omega) hh
         have l9 : 10 + i * 64 + j * 8 + k < 522 := by omega
         have b1 := (mtab_bytes HF.out i j (by omega) (by omega) k (by omega)).1
         have b2 := (mtab_bytes HF.out i j (by omega) (by omega) k (by omega)).2
         have b3 := (Hv.out k (by omega)).1
         have b4 := (Hv.out k (by omega)).2
         have b5 := (Hu.out j (by omega)).1
         have b6 := (Hu.out j (by omega)).2
         have q1 : IntKind.i64.wrap (mtab f i j k) = mtab f i j k := IntWalk.i64_in _ (by omega)
         have q2 : IntKind.i64.wrap (v k) = v k := IntWalk.i64_in _ (by omega)
         have q3 : IntKind.i64.wrap (u j) = u j := IntWalk.i64_in _ (by omega)
         have q5 : IntKind.i64.wrap (mtab f i j k - u j) = mtab f i j k - u j := IntWalk.i64_in _ (by omega)
         have HOwn : Hid ((mtab f i j k - u j) % p = priX f v u j k i % p) := Lib.hid (by unfold priX; rw [if_neg h1, if_pos h2, Int.sub_zero])
         have h11 : (((i : Nat) : Int) == ((j : Nat) : Int)) = false := by rw [beq_eq_false_iff_ne]; omega
         have h12 : decide (((i : Nat) : Int) = ((j : Nat) : Int)) = false := decide_eq_false (by omega)
         have h21 : (((i : Nat) : Int) == ((k : Nat) : Int)) = true := by rw [h2]; exact beq_self_eq_true _
         have h22 : decide (((i : Nat) : Int) = ((k : Nat) : Int)) = true := decide_eq_true (by rw [h2])
         have H1 := Lib.hid h1; clear h1
         have H2 := Lib.hid h2; clear h2
         go_wp2_with fail
         refine (l01Mod_any p (mtab f i j k - u j) _ hp hp' (by omega) (by omega)).mono ?_; rintro _ _ ⟨rfl, rfl⟩
         go_wp2
         go_roundw
         case rel => exact ⟨i + 1, by omega, by go_num, bt, ⟨by simp [go_sem, r3_5, c3_5, n3_10, r4_5, c4_5, n4_10, r5_5, c5_5, n5_10, r10_5, c10_5, n10_3, n10_4, n10_5], (by rw [E3_5.out]; first | exact c3_5 | (simp [go_sem, r3_5, c3_5, n3_10, r4_5, c4_5, n4_10, r5_5, c5_5, n5_10, r10_5, c10_5, n10_3, n10_4, n10_5]; done))⟩, ⟨by simp [go_sem, r3_5, c3_5, n3_10, r4_5, c4_5, n4_10, r5_5, c5_5, n5_10, r10_5, c10_5, n10_3, n10_4, n10_5], (by rw [E4_5.out]; first | exact c4_5 | (simp [go_sem, r3_5, c3_5, n3_10, r4_5, c4_5, n4_10, r5_5, c5_5, n5_10, r10_5, c10_5, n10_3, n10_4, n10_5]; done))⟩, ⟨by simp [go_sem, r3_5, c3_5, n3_10, r4_5, c4_5, n4_10, r5_5, c5_5, n5_10, r10_5, c10_5, n10_3, n10_4, n10_5], (by rw [E5_5.out]; first | exact c5_5 | (simp [go_sem, r3_5, c3_5, n3_10, r4_5, c4_5, n4_10, r5_5, c5_5, n5_10, r10_5, c10_5, n10_3, n10_4, n10_5]; done))⟩, ⟨by simp [go_sem, r3_5, c3_5, n3_10, r4_5, c4_5, n4_10, r5_5, c5_5, n5_10, r10_5, c10_5, n10_3, n10_4, n10_5], (by first | (rw [blk_setRow _ _ _ _ r10_5, if_pos rfl]; exact gen_step HOwn.out) | exact (c10_5).trans (gen_step HOwn.out) | (simp [go_sem, r3_5, c3_5, n3_10, r4_5, c4_5, n4_10, r5_5, c5_5, n5_10, r10_5, c10_5, n10_3, n10_4, n10_5]; exact gen_step HOwn.out))⟩, vtV, bu⟩
         case measure => simp [intOf]; try omega
        ·
         have e1 := alg_at p n f i j k (by omega) (by omega) (by omega)
         have e2 := fun hh => alg_el p n f i j k (by omega) (by omega) (by omega) hh
         have l9 : 10 + i * 64 + j * 8 + k < 522 := by omega
         have b1 := (mtab_bytes HF.out i j (by omega) (by omega) k (by omega)).1
         have b2 := (mtab_bytes HF.out i j (by omega) (by omega) k (by omega)).2
         have b3 := (Hv.out k (by omega)).1
         have b4 := (Hv.out k (by omega)).2
         have b5 := (Hu.out j (by omega)).1
         have b6 := (Hu.out j (by omega)).2
         have q1 : IntKind.i64.wrap (mtab f i j k) = mtab f i j k := IntWalk.i64_in _ (by omega)
         have q2 : IntKind.i64.wrap (v k) = v k := IntWalk.i64_in _ (by omega)
         have q3 : IntKind.i64.wrap (u j) = u j := IntWalk.i64_in _ (by omega)
         have HOwn : Hid ((mtab f i j k) % p = priX f v u j k i % p) := Lib.hid (by unfold priX; rw [if_neg h1, if_neg h2, Int.sub_zero, Int.sub_zero])
         have h11 : (((i : Nat) : Int) == ((j : Nat) : Int)) = false := by rw [beq_eq_false_iff_ne]; omega
         have h12 : decide (((i : Nat) : Int) = ((j : Nat) : Int)) = false := decide_eq_false (by omega)
         have h21 : (((i : Nat) : Int) == ((k : Nat) : Int)) = false := by rw [beq_eq_false_iff_ne]; omega
         have h22 : decide (((i : Nat) : Int) = ((k : Nat) : Int)) = false := decide_eq_false (by omega)
         have H1 := Lib.hid h1; clear h1
         have H2 := Lib.hid h2; clear h2
         go_wp2_with fail
         refine (l01Mod_any p (mtab f i j k) _ hp hp' (by omega) (by omega)).mono ?_; rintro _ _ ⟨rfl, rfl⟩
         go_wp2
         go_roundw
         case rel => exact ⟨i + 1, by omega, by go_num, bt, ⟨by simp [go_sem, r3_5, c3_5, n3_10, r4_5, c4_5, n4_10, r5_5, c5_5, n5_10, r10_5, c10_5, n10_3, n10_4, n10_5], (by rw [E3_5.out]; first | exact c3_5 | (simp [go_sem, r3_5, c3_5, n3_10, r4_5, c4_5, n4_10, r5_5, c5_5, n5_10, r10_5, c10_5, n10_3, n10_4, n10_5]; done))⟩, ⟨by simp [go_sem, r3_5, c3_5, n3_10, r4_5, c4_5, n4_10, r5_5, c5_5, n5_10, r10_5, c10_5, n10_3, n10_4, n10_5], (by rw [E4_5.out]; first | exact c4_5 | (simp [go_sem, r3_5, c3_5, n3_10, r4_5, c4_5, n4_10, r5_5, c5_5, n5_10, r10_5, c10_5, n10_3, n10_4, n10_5]; done))⟩, ⟨by simp [go_sem, r3_5, c3_5, n3_10, r4_5, c4_5, n4_10, r5_5, c5_5, n5_10, r10_5, c10_5, n10_3, n10_4, n10_5], (by rw [E5_5.out]; first | exact c5_5 | (simp [go_sem, r3_5, c3_5, n3_10, r4_5, c4_5, n4_10, r5_5, c5_5, n5_10, r10_5, c10_5, n10_3, n10_4, n10_5]; done))⟩, ⟨by simp [go_sem, r3_5, c3_5, n3_10, r4_5, c4_5, n4_10, r5_5, c5_5, n5_10, r10_5, c10_5, n10_3, n10_4, n10_5], (by first | (rw [blk_setRow _ _ _ _ r10_5, if_pos rfl]; exact gen_step HOwn.out) | exact (c10_5).trans (gen_step HOwn.out) | (simp [go_sem, r3_5, c3_5, n3_10, r4_5, c4_5, n4_10, r5_5, c5_5, n5_10, r10_5, c10_5, n10_3, n10_4, n10_5]; exact gen_step HOwn.out))⟩, vtV, bu⟩
         case measure => simp [intOf]; try omega
      ·
       obtain rfl : n = i := by omega
       go_wp2_with (at_builtin; refine atomL ?_)
       have nw3_W5_0 : (w.heap.size) ≠ W5.heap.size := by omega
       have nw4_W5_0 : (w.heap.size + 1) ≠ W5.heap.size := by omega
       have nw5_W5_0 : (w.heap.size + 2) ≠ W5.heap.size := by omega
       intro W6 e6
       have hb6 : Below w.heap.size w W6 := by rw [e6]; exact bt
       have q6 := hb6.size
       have R6 : IsRow W6 (w.heap.size) ∧ IsRow W6 (w.heap.size + 1) ∧ IsRow W6 (w.heap.size + 2) ∧ IsRow W6 (W5.heap.size) := by rw [e6]; simp [go_sem, r3_5, c3_5, n3_10, r4_5, c4_5, n4_10, r5_5, c5_5, n5_10, nw3_W5_0, nw4_W5_0, nw5_W5_0, r10_5]
       obtain ⟨r3_6, r4_6, r5_6, r68_6⟩ := R6
       have C6 := (⟨congrArg (blk · (w.heap.size)) e6, congrArg (blk · (w.heap.size + 1)) e6, congrArg (blk · (w.heap.size + 2)) e6, congrArg (blk · (W5.heap.size)) e6⟩ : _ ∧ _ ∧ _ ∧ _); simp [go_sem, r3_5, c3_5, n3_10, r4_5, c4_5, n4_10, r5_5, c5_5, n5_10, nw3_W5_0, nw4_W5_0, nw5_W5_0, r10_5] at C6
       obtain ⟨c3_6, c4_6, c5_6, c68_6⟩ := C6
       have z3_6 := isRow_lt r3_6; have z4_6 := isRow_lt r4_6; have z5_6 := isRow_lt r5_6; have z68_6 := isRow_lt r68_6
       have n3_68 : (w.heap.size) ≠ (W5.heap.size) := by omega
       have n4_68 : (w.heap.size + 1) ≠ (W5.heap.size) := by omega
       have n5_68 : (w.heap.size + 2) ≠ (W5.heap.size) := by omega
       have n68_3 : (W5.heap.size) ≠ (w.heap.size) := by omega
       have n68_4 : (W5.heap.size) ≠ (w.heap.size + 1) := by omega
       have n68_5 : (W5.heap.size) ≠ (w.heap.size + 2) := by omega
       have hv7_6 : VL W6 (w.heap.size + 3) (U7_3) (a7_3) (m7_3) (c7_3) (f7_3) := by rw [e6]; exact vtV
       clear e6 nw3_W5_0 nw4_W5_0 nw5_W5_0 r3_5 c3_5 z3_5 r4_5 c4_5 z4_5 r5_5 c5_5 z5_5 hv7_5 hb5
       refine appendV _ rfl _ _ rfl hv7_6 (by omega) (by omega) rfl _ _ (prA p n f v u j k) rfl c68_6 HAb.out ?_
       intro a7_7 c7_7 W7 hg7 ha7 hv7_7
       obtain ⟨r3_7, c3_7⟩ := keepG hg7 (hv7_6.ne (by omega)) r3_6 c3_6
       have z3_7 := isRow_lt r3_7
       obtain ⟨r4_7, c4_7⟩ := keepG hg7 (hv7_6.ne (by omega)) r4_6 c4_6
       have z4_7 := isRow_lt r4_7
       obtain ⟨r5_7, c5_7⟩ := keepG hg7 (hv7_6.ne (by omega)) r5_6 c5_6
       have z5_7 := isRow_lt r5_7
       have hb7 := below_own hb6 hv7_6 hg7 (by omega) (by omega)
       have q7 := hb7.size
       have sz7 := hg7.size
       clear hg7 ha7 r3_6 c3_6 z3_6 r4_6 c4_6 z4_6 r5_6 c5_6 z5_6 hv7_6 hb6
       go_wp2
       go_roundw
       case rel => exact ⟨k + 1, (a7_7), (c7_7), (W7.heap.size), (m7_3 + 1), (addV (f7_3) (m7_3) (prA p n f v u j k)), by omega, (by first | rfl | go_num | (simp; done)), by go_num, bt, ⟨by simp [go_sem, r3_7, c3_7, r4_7, c4_7, r5_7, c5_7], (by rw [E3_3.out]; first | exact c3_7 | (simp [go_sem, r3_7, c3_7, r4_7, c4_7, r5_7, c5_7]; done))⟩, ⟨by simp [go_sem, r3_7, c3_7, r4_7, c4_7, r5_7, c5_7], (by rw [E4_3.out]; first | exact c4_7 | (simp [go_sem, r3_7, c3_7, r4_7, c4_7, r5_7, c5_7]; done))⟩, ⟨by simp [go_sem, r3_7, c3_7, r4_7, c4_7, r5_7, c5_7], (by rw [E5_3.out]; first | exact c5_7 | (simp [go_sem, r3_7, c3_7, r4_7, c4_7, r5_7, c5_7]; done))⟩, vtV, bu, pri_more hltk (fun t _ => gen_range hp _ _ t) (fun t ht _ => gen_far ht) HXk.out⟩
       case measure => simp [intOf]; try omega
    ·
     obtain rfl : n = k := by omega
     go_wp2
     go_roundw
     case rel => exact ⟨j + 1, (a7_3), (c7_3), (U7_3), (m7_3), (f7_3), by omega, (by first | rfl | go_num | (simp; done)), by go_num, bt, ⟨by simp [go_sem, r3_3, c3_3, r4_3, c4_3, r5_3, c5_3], (by rw [E3_2.out]; first | exact c3_3 | (simp [go_sem, r3_3, c3_3, r4_3, c4_3, r5_3, c5_3]; done))⟩, ⟨by simp [go_sem, r3_3, c3_3, r4_3, c4_3, r5_3, c5_3], (by rw [E4_2.out]; first | exact c4_3 | (simp [go_sem, r3_3, c3_3, r4_3, c4_3, r5_3, c5_3]; done))⟩, ⟨by simp [go_sem, r3_3, c3_3, r4_3, c4_3, r5_3, c5_3], (by rw [E5_2.out]; first | exact c5_3 | (simp [go_sem, r3_3, c3_3, r4_3, c4_3, r5_3, c5_3]; done))⟩, vtV, bu, pri_row hn HX3.out⟩
     case measure => simp [intOf]; try omega
  ·
   obtain rfl : n = j := by omega
   have HXe := HX2
   have hMe := HXe.out.1
   go_wp2_with fail
   refine (l02Null_any p n _ _ _ _ _ (f7_2) _ hp hp' Hpr.out hn (by omega) (by omega) (by omega) (fun q hq => (HXe.out.2.1 q hq).1) (fun q hq => (HXe.out.2.1 q hq).2) hv7_2).mono ?_; rintro _ W8 ⟨aK_8, mK_8, cK_8, fK_8, rfl, hw8, hvK_8, hT8⟩
   obtain ⟨hb8, q8⟩ := bN hb2 hw8
   have sz8 := hw8.size
   have hv7_8 := hv7_2.below hw8 (by omega)
   clear hw8 hv7_2 hb2
   have HE := Lib.hid (tel_of (p2_of Hpr.out) (tells_iff hT8 (pri_null HXe.out))); clear hT8
   go_wp2_with fail
   go_ret
   exact ⟨aK_8, cK_8, by first | (rw [HE.out.1]; done) | (rw [HE.out.1]; rfl), bt, ((hvK_8).same HE.out.1 HE.out.2).wider (by omega) (by omega)⟩

set_option maxRecDepth 100000 in
set_option maxHeartbeats 1000000 in
theorem primitiveSpace_any (p n : Int) (f v u : Nat → Int) (w : World) (hF : Bytes 520 f) (hv : Bytes 8 v) (hu : Bytes 8 u) :
    Calls Try.prog 21 #[.agg (alg p n f), .agg (row 8 v), .agg (row 8 u)] w fun e w' => ∃ a c, e = .returned (.tuple #[.slice a (prN p n f v u) c, .int .i64 (prC p n f v u)]) ∧ Below w.heap.size w w' ∧ VL w' w.heap.size w'.heap.size a (prN p n f v u) c (prG p n f v u) := by
 have HF := Lib.hid hF; clear hF
 have Hv := Lib.hid hv; clear hv
 have Hu := Lib.hid hu; clear hu
 cases hc : okC p n f 2 (nth (pair v u))
 ·
  have HR := Lib.hid (pr_bad hc)
  go_enter Try.func21, Try.ntmps21
  go_wp2_with fail
  refine atomC fun W1 e1 => ?_
  have hb1 : Below w.heap.size w W1 := by rw [e1]; exact bt
  have q1 := hb1.size
  have R1 : IsRow W1 (w.heap.size) ∧ IsRow W1 (w.heap.size + 1) ∧ IsRow W1 (w.heap.size + 2) ∧ IsRow W1 (w.heap.size + 3) := by rw [e1]; simp [go_sem]
  obtain ⟨r3_1, r4_1, r5_1, r16_1⟩ := R1
  have C1 := (⟨congrArg (blk · (w.heap.size)) e1, congrArg (blk · (w.heap.size + 1)) e1, congrArg (blk · (w.heap.size + 2)) e1, congrArg (blk · (w.heap.size + 3)) e1⟩ : _ ∧ _ ∧ _ ∧ _); simp [go_sem] at C1
  obtain ⟨c3_1, c4_1, c5_1, c16_1⟩ := C1
  have z3_1 := isRow_lt r3_1; have z4_1 := isRow_lt r4_1; have z5_1 := isRow_lt r5_1; have z16_1 := isRow_lt r16_1
  clear e1
  refine (isCoWith_any _ _ _ _ 0 2 2 (nth (pair v u)) _ HF.out (by omega) r16_1 (vecs_two c16_1 Hv.out Hu.out)).mono ?_; rintro _ W2 ⟨rfl, hw2⟩
  obtain ⟨r3_2, c3_2, z3_2⟩ := keepZ hw2 z3_1 r3_1 c3_1
  obtain ⟨r4_2, c4_2, z4_2⟩ := keepZ hw2 z4_1 r4_1 c4_1
  obtain ⟨r5_2, c5_2, z5_2⟩ := keepZ hw2 z5_1 r5_1 c5_1
  obtain ⟨r16_2, c16_2, z16_2⟩ := keepZ hw2 z16_1 r16_1 c16_1
  obtain ⟨hb2, q2⟩ := bN hb1 hw2
  clear hw2 r3_1 c3_1 z3_1 r4_1 c4_1 z4_1 r5_1 c5_1 z5_1 r16_1 c16_1 z16_1 hb1
  go_wp2_with fail
  go_ret2
  exact ⟨none, 0, by rw [HR.out.1, HR.out.2]; rfl, bt, VL.nilOf (HR.out.1)⟩
 ·
  cases hg : grpB p f v
  ·
   have HR := Lib.hid (pr_st hc (st_v hg))
   have hsz := co_sizes (okC_co hc)
   obtain ⟨hp2, hp31, hn1, hn8⟩ := sizes_range hsz
   have Hpr : Hid (prime31 p = true) := Lib.hid (by unfold sizesB at hsz; simp only [Bool.and_eq_true] at hsz; exact hsz.1)
   clear hsz
   obtain ⟨n, rfl⟩ := Int.eq_ofNat_of_zero_le (show 0 ≤ n by omega)
   have hn : n ≤ 8 := by omega
   have hp : 0 < p := by omega
   have hp' : p ≤ 255 := by omega
   have HS := Lib.hid (co_shape (okC_co hc))
   have HC := Lib.hid hc
   go_enter Try.func21, Try.ntmps21
   go_wp2_with fail
   refine atomC fun W3 e3 => ?_
   have hb3 : Below w.heap.size w W3 := by rw [e3]; exact bt
   have q3 := hb3.size
   have R3 : IsRow W3 (w.heap.size) ∧ IsRow W3 (w.heap.size + 1) ∧ IsRow W3 (w.heap.size + 2) ∧ IsRow W3 (w.heap.size + 3) := by rw [e3]; simp [go_sem]
   obtain ⟨r3_3, r4_3, r5_3, r16_3⟩ := R3
   have C3 := (⟨congrArg (blk · (w.heap.size)) e3, congrArg (blk · (w.heap.size + 1)) e3, congrArg (blk · (w.heap.size + 2)) e3, congrArg (blk · (w.heap.size + 3)) e3⟩ : _ ∧ _ ∧ _ ∧ _); simp [go_sem] at C3
   obtain ⟨c3_3, c4_3, c5_3, c16_3⟩ := C3
   have z3_3 := isRow_lt r3_3; have z4_3 := isRow_lt r4_3; have z5_3 := isRow_lt r5_3; have z16_3 := isRow_lt r16_3
   clear e3
   refine (isCoWith_any _ _ _ _ 0 2 2 (nth (pair v u)) _ HF.out (by omega) r16_3 (vecs_two c16_3 Hv.out Hu.out)).mono ?_; rintro _ W4 ⟨rfl, hw4⟩
   obtain ⟨r3_4, c3_4, z3_4⟩ := keepZ hw4 z3_3 r3_3 c3_3
   obtain ⟨r4_4, c4_4, z4_4⟩ := keepZ hw4 z4_3 r4_3 c4_3
   obtain ⟨r5_4, c5_4, z5_4⟩ := keepZ hw4 z5_3 r5_3 c5_3
   obtain ⟨r16_4, c16_4, z16_4⟩ := keepZ hw4 z16_3 r16_3 c16_3
   obtain ⟨hb4, q4⟩ := bN hb3 hw4
   clear hw4 r3_3 c3_3 z3_3 r4_3 c4_3 z4_3 r5_3 c5_3 z5_3 r16_3 c16_3 z16_3 hb3
   go_wp2_with fail
   refine (isGrp_any _ _ _ _ _ hp hp' HF.out Hv.out).mono ?_; rintro _ W5 ⟨rfl, hw5⟩
   obtain ⟨r3_5, c3_5, z3_5⟩ := keepZ hw5 z3_4 r3_4 c3_4
   obtain ⟨r4_5, c4_5, z4_5⟩ := keepZ hw5 z4_4 r4_4 c4_4
   obtain ⟨r5_5, c5_5, z5_5⟩ := keepZ hw5 z5_4 r5_4 c5_4
   obtain ⟨hb5, q5⟩ := bN hb4 hw5
   clear hw5 r3_4 c3_4 z3_4 r4_4 c4_4 z4_4 r5_4 c5_4 z5_4 hb4
   go_wp2_with fail
   go_ret2
   exact ⟨none, 0, by rw [HR.out.1, HR.out.2]; rfl, bt, VL.nilOf (HR.out.1)⟩
  ·
   cases hh : grpB p f u
   ·
    have HR := Lib.hid (pr_st hc (st_u hh))
    have hsz := co_sizes (okC_co hc)
    obtain ⟨hp2, hp31, hn1, hn8⟩ := sizes_range hsz
    have Hpr : Hid (prime31 p = true) := Lib.hid (by unfold sizesB at hsz; simp only [Bool.and_eq_true] at hsz; exact hsz.1)
    clear hsz
    obtain ⟨n, rfl⟩ := Int.eq_ofNat_of_zero_le (show 0 ≤ n by omega)
    have hn : n ≤ 8 := by omega
    have hp : 0 < p := by omega
    have hp' : p ≤ 255 := by omega
    have HS := Lib.hid (co_shape (okC_co hc))
    have HC := Lib.hid hc
    go_enter Try.func21, Try.ntmps21
    go_wp2_with fail
    refine atomC fun W6 e6 => ?_
    have hb6 : Below w.heap.size w W6 := by rw [e6]; exact bt
    have q6 := hb6.size
    have R6 : IsRow W6 (w.heap.size) ∧ IsRow W6 (w.heap.size + 1) ∧ IsRow W6 (w.heap.size + 2) ∧ IsRow W6 (w.heap.size + 3) := by rw [e6]; simp [go_sem]
    obtain ⟨r3_6, r4_6, r5_6, r16_6⟩ := R6
    have C6 := (⟨congrArg (blk · (w.heap.size)) e6, congrArg (blk · (w.heap.size + 1)) e6, congrArg (blk · (w.heap.size + 2)) e6, congrArg (blk · (w.heap.size + 3)) e6⟩ : _ ∧ _ ∧ _ ∧ _); simp [go_sem] at C6
    obtain ⟨c3_6, c4_6, c5_6, c16_6⟩ := C6
    have z3_6 := isRow_lt r3_6; have z4_6 := isRow_lt r4_6; have z5_6 := isRow_lt r5_6; have z16_6 := isRow_lt r16_6
    clear e6
    refine (isCoWith_any _ _ _ _ 0 2 2 (nth (pair v u)) _ HF.out (by omega) r16_6 (vecs_two c16_6 Hv.out Hu.out)).mono ?_; rintro _ W7 ⟨rfl, hw7⟩
    obtain ⟨r3_7, c3_7, z3_7⟩ := keepZ hw7 z3_6 r3_6 c3_6
    obtain ⟨r4_7, c4_7, z4_7⟩ := keepZ hw7 z4_6 r4_6 c4_6
    obtain ⟨r5_7, c5_7, z5_7⟩ := keepZ hw7 z5_6 r5_6 c5_6
    obtain ⟨r16_7, c16_7, z16_7⟩ := keepZ hw7 z16_6 r16_6 c16_6
    obtain ⟨hb7, q7⟩ := bN hb6 hw7
    clear hw7 r3_6 c3_6 z3_6 r4_6 c4_6 z4_6 r5_6 c5_6 z5_6 r16_6 c16_6 z16_6 hb6
    go_wp2_with fail
    refine (isGrp_any _ _ _ _ _ hp hp' HF.out Hv.out).mono ?_; rintro _ W8 ⟨rfl, hw8⟩
    obtain ⟨r3_8, c3_8, z3_8⟩ := keepZ hw8 z3_7 r3_7 c3_7
    obtain ⟨r4_8, c4_8, z4_8⟩ := keepZ hw8 z4_7 r4_7 c4_7
    obtain ⟨r5_8, c5_8, z5_8⟩ := keepZ hw8 z5_7 r5_7 c5_7
    obtain ⟨hb8, q8⟩ := bN hb7 hw8
    clear hw8 r3_7 c3_7 z3_7 r4_7 c4_7 z4_7 r5_7 c5_7 z5_7 hb7
    go_wp2_with fail
    refine (isGrp_any _ _ _ _ _ hp hp' HF.out Hu.out).mono ?_; rintro _ W9 ⟨rfl, hw9⟩
    obtain ⟨r3_9, c3_9, z3_9⟩ := keepZ hw9 z3_8 r3_8 c3_8
    obtain ⟨r4_9, c4_9, z4_9⟩ := keepZ hw9 z4_8 r4_8 c4_8
    obtain ⟨r5_9, c5_9, z5_9⟩ := keepZ hw9 z5_8 r5_8 c5_8
    obtain ⟨hb9, q9⟩ := bN hb8 hw9
    clear hw9 r3_8 c3_8 z3_8 r4_8 c4_8 z4_8 r5_8 c5_8 z5_8 hb8
    go_wp2_with fail
    go_ret2
    exact ⟨none, 0, by rw [HR.out.1, HR.out.2]; rfl, bt, VL.nilOf (HR.out.1)⟩
   ·
    have hsz := co_sizes (okC_co hc)
    obtain ⟨hp2, hp31, hn1, hn8⟩ := sizes_range hsz
    have Hpr : Hid (prime31 p = true) := Lib.hid (by unfold sizesB at hsz; simp only [Bool.and_eq_true] at hsz; exact hsz.1)
    clear hsz
    obtain ⟨n, rfl⟩ := Int.eq_ofNat_of_zero_le (show 0 ≤ n by omega)
    have hn : n ≤ 8 := by omega
    have hp : 0 < p := by omega
    have hp' : p ≤ 255 := by omega
    have HS := Lib.hid (co_shape (okC_co hc))
    have HR := Lib.hid (pr_yes hc (st_yes hg hh))
    have HC := Lib.hid hc
    go_enter Try.func21, Try.ntmps21
    go_wp2_with fail
    refine atomC fun W10 e10 => ?_
    have hb10 : Below w.heap.size w W10 := by rw [e10]; exact bt
    have q10 := hb10.size
    have R10 : IsRow W10 (w.heap.size) ∧ IsRow W10 (w.heap.size + 1) ∧ IsRow W10 (w.heap.size + 2) ∧ IsRow W10 (w.heap.size + 3) := by rw [e10]; simp [go_sem]
    obtain ⟨r3_10, r4_10, r5_10, r16_10⟩ := R10
    have C10 := (⟨congrArg (blk · (w.heap.size)) e10, congrArg (blk · (w.heap.size + 1)) e10, congrArg (blk · (w.heap.size + 2)) e10, congrArg (blk · (w.heap.size + 3)) e10⟩ : _ ∧ _ ∧ _ ∧ _); simp [go_sem] at C10
    obtain ⟨c3_10, c4_10, c5_10, c16_10⟩ := C10
    have z3_10 := isRow_lt r3_10; have z4_10 := isRow_lt r4_10; have z5_10 := isRow_lt r5_10; have z16_10 := isRow_lt r16_10
    clear e10
    refine (isCoWith_any _ _ _ _ 0 2 2 (nth (pair v u)) _ HF.out (by omega) r16_10 (vecs_two c16_10 Hv.out Hu.out)).mono ?_; rintro _ W11 ⟨rfl, hw11⟩
    obtain ⟨r3_11, c3_11, z3_11⟩ := keepZ hw11 z3_10 r3_10 c3_10
    obtain ⟨r4_11, c4_11, z4_11⟩ := keepZ hw11 z4_10 r4_10 c4_10
    obtain ⟨r5_11, c5_11, z5_11⟩ := keepZ hw11 z5_10 r5_10 c5_10
    obtain ⟨r16_11, c16_11, z16_11⟩ := keepZ hw11 z16_10 r16_10 c16_10
    obtain ⟨hb11, q11⟩ := bN hb10 hw11
    clear hw11 r3_10 c3_10 z3_10 r4_10 c4_10 z4_10 r5_10 c5_10 z5_10 r16_10 c16_10 z16_10 hb10
    go_wp2_with fail
    refine (isGrp_any _ _ _ _ _ hp hp' HF.out Hv.out).mono ?_; rintro _ W12 ⟨rfl, hw12⟩
    obtain ⟨r3_12, c3_12, z3_12⟩ := keepZ hw12 z3_11 r3_11 c3_11
    obtain ⟨r4_12, c4_12, z4_12⟩ := keepZ hw12 z4_11 r4_11 c4_11
    obtain ⟨r5_12, c5_12, z5_12⟩ := keepZ hw12 z5_11 r5_11 c5_11
    obtain ⟨hb12, q12⟩ := bN hb11 hw12
    clear hw12 r3_11 c3_11 z3_11 r4_11 c4_11 z4_11 r5_11 c5_11 z5_11 hb11
    go_wp2_with fail
    refine (isGrp_any _ _ _ _ _ hp hp' HF.out Hu.out).mono ?_; rintro _ W13 ⟨rfl, hw13⟩
    obtain ⟨r3_13, c3_13, z3_13⟩ := keepZ hw13 z3_12 r3_12 c3_12
    obtain ⟨r4_13, c4_13, z4_13⟩ := keepZ hw13 z4_12 r4_12 c4_12
    obtain ⟨r5_13, c5_13, z5_13⟩ := keepZ hw13 z5_12 r5_12 c5_12
    obtain ⟨hb13, q13⟩ := bN hb12 hw13
    clear hw13 r3_12 c3_12 z3_12 r4_12 c4_12 z4_12 r5_12 c5_12 z5_12 hb12
    go_wp2_with fail
    refine (negativeNumber_any p 1 _ hp hp' (by omega) (by omega)).mono ?_; rintro _ _ ⟨rfl, rfl⟩
    go_wp2
    have ltR3n14 : (w.heap.size) < W13.heap.size := z3_13
    have ltR4n14 : (w.heap.size + 1) < W13.heap.size := z4_13
    have ltR5n14 : (w.heap.size + 2) < W13.heap.size := z5_13
    go_loopw [9, 34] (fun s9 s34 wr => ∃ i : Nat, ∃ aR_14 : Option Addr, ∃ cR_14 : Nat, ∃ UR_14 : Nat, i ≤ n ∧ s9 = .slice aR_14 (i) cR_14 ∧ s34 = .int .i64 i ∧ Below w.heap.size w wr ∧ (IsRow wr (w.heap.size) ∧ blk wr (w.heap.size) = blk W13 (w.heap.size)) ∧ (IsRow wr (w.heap.size + 1) ∧ blk wr (w.heap.size + 1) = blk W13 (w.heap.size + 1)) ∧ (IsRow wr (w.heap.size + 2) ∧ blk wr (w.heap.size + 2) = blk W13 (w.heap.size + 2)) ∧ RL wr (W13.heap.size) (UR_14) (aR_14) (i) (cR_14) (64) ((priI p f v u)) ∧ ((W13.heap.size) ≤ (UR_14) ∧ (UR_14) ≤ wr.heap.size)) (fun _ s34 _ => n - (intOf s34).toNat)
    case atStart => exact ⟨0, none, 0, W13.heap.size, by omega, rfl, rfl, hb13, ⟨r3_13, rfl⟩, ⟨r4_13, rfl⟩, ⟨r5_13, rfl⟩, RL.nil _ _ _ _, (by omega)⟩
    case round =>
     obtain ⟨i, aR_14, cR_14, UR_14, hle14, rfl, rfl, hb14, ⟨r3_14, c3_14⟩, ⟨r4_14, c4_14⟩, ⟨r5_14, c5_14⟩, hvR_14, hUR_14⟩ := hrel
     obtain ⟨W14, rfl⟩ : ∃ W14 : World, W14 = wr := ⟨_, rfl⟩
     have q14 := hb14.size
     have E3_14 := Lib.hid c3_13; replace c3_14 := c3_14.trans c3_13
     have z3_14 := isRow_lt r3_14
     have E4_14 := Lib.hid c4_13; replace c4_14 := c4_14.trans c4_13
     have z4_14 := isRow_lt r4_14
     have E5_14 := Lib.hid c5_13; replace c5_14 := c5_14.trans c5_13
     have z5_14 := isRow_lt r5_14
     clear r3_13 c3_13 z3_13 r4_13 c4_13 z4_13 r5_13 c5_13 z5_13 hb13
     by_cases hlt14 : i < n
     ·
      have i0_14 : (0 : Int) ≤ (i : Int) := by omega
      have i8_14 : (i : Int) < 8 := by omega
      have k8_14 : i < 8 := by omega
      have m8_14 : i * 8 + 8 ≤ 64 := by omega
      have m64_14 : i * 64 + 64 ≤ 512 := by omega
      have l1_14 : 10 + i * 64 + 64 ≤ 522 := by omega
      have hm1 := alg_at64 p n f i (by omega)
      have HC0 := Lib.hid (com_range HS.out HF.out i (by omega))
      have HC1 : Hid (∀ t, t < 64 → 0 ≤ (pairK p (comR f i) (-1 % p) (ebas i) v 8) t ∧ (pairK p (comR f i) (-1 % p) (ebas i) v 8) t < p) := Lib.hid fun t ht => pair_range hp _ _ _ _ HC0.out t ht
      have HPB : Hid (Bytes 64 (priI p f v u i)) := Lib.hid fun t ht => by have := pair_range hp (-1 % p) u (ebas i) 8 HC1.out t ht; unfold priI; omega
      have b1 : 0 ≤ -1 % p := Int.emod_nonneg _ (by omega)
      have b2 : -1 % p ≤ 255 := by have := Int.emod_lt_of_pos (-1) hp; omega
      go_wp2
      refine wp_quiet_made2s 6 1 _ _ _ (row 8 zf) (row 64 zf) 37 39 37 11 38 (by kernel_rfl) rfl rfl rfl rfl rfl rfl rfl (by simp) rfl (by kernel_rfl) (fun a W => (xallocVec _ _ _ _ _ _ _).trans (allocVec W)) (fun a W => (xallocLin _ _ _ _ _ _ _).trans (allocLin W)) (fun A W => rfl) ?_
      simp only [List.take_succ_cons, List.take_zero, List.drop_succ_cons, List.drop_zero, List.eraseIdx_cons_succ, List.eraseIdx_cons_zero]
      iterate 1 (refine e_plain rfl ?_; apply Exists.intro; refine ⟨fun D hD hK W hW => ?_, ?_⟩; (focus (obtain ⟨x3, y3⟩ := keepB (hD W hW) z3_14 r3_14 c3_14; obtain ⟨x4, y4⟩ := keepB (hD W hW) z4_14 r4_14 c4_14; obtain ⟨x5, y5⟩ := keepB (hD W hW) z5_14 r5_14 c5_14; unfold Oper.quietAt; go_simp; first | done | rfl)); simp only [Act.put, List.setIfInBounds_toArray, List.set_cons_zero, List.set_cons_succ])
      (refine e_plain rfl ?_; apply Exists.intro; refine ⟨fun D hD hK W hW => ?_, ?_⟩; (focus (obtain ⟨x3, y3⟩ := keepB (hD W hW) z3_14 r3_14 c3_14; obtain ⟨x4, y4⟩ := keepB (hD W hW) z4_14 r4_14 c4_14; obtain ⟨x5, y5⟩ := keepB (hD W hW) z5_14 r5_14 c5_14; unfold Oper.quietAt; go_simp; (go_at_call 48; exact (basisAt i (by omega) _).mono fun e w2 ⟨he, hw2⟩ => ⟨he, hK _ _ hW hw2⟩))); simp only [Act.put, List.setIfInBounds_toArray, List.set_cons_zero, List.set_cons_succ])
      iterate 4 (refine e_plain rfl ?_; apply Exists.intro; refine ⟨fun D hD hK W hW => ?_, ?_⟩; (focus (obtain ⟨x3, y3⟩ := keepB (hD W hW) z3_14 r3_14 c3_14; obtain ⟨x4, y4⟩ := keepB (hD W hW) z4_14 r4_14 c4_14; obtain ⟨x5, y5⟩ := keepB (hD W hW) z5_14 r5_14 c5_14; unfold Oper.quietAt; go_simp; first | done | rfl)); simp only [Act.put, List.setIfInBounds_toArray, List.set_cons_zero, List.set_cons_succ])
      refine e_nil ?_
      refine ⟨row 8 (ebas i), fun b W hr hc => ?_, ?_⟩
      · simp [go_sem, hr, hc, Act.eval]
      intro a15 b15 W15 hw15 mk1_15 mk2_15 hne15
      obtain ⟨hl1_15, m1_15, m2_15⟩ := mk1_15; obtain ⟨hl2_15, m3_15, m4_15⟩ := mk2_15
      have n3_11 : (w.heap.size) ≠ (a15) := by have := z3_14; omega
      have n11_3 : (a15) ≠ (w.heap.size) := by have := z3_14; omega
      have n3_12 : (w.heap.size) ≠ (b15) := by have := z3_14; omega
      have n12_3 : (b15) ≠ (w.heap.size) := by have := z3_14; omega
      have n4_11 : (w.heap.size + 1) ≠ (a15) := by have := z4_14; omega
      have n11_4 : (a15) ≠ (w.heap.size + 1) := by have := z4_14; omega
      have n4_12 : (w.heap.size + 1) ≠ (b15) := by have := z4_14; omega
      have n12_4 : (b15) ≠ (w.heap.size + 1) := by have := z4_14; omega
      have n5_11 : (w.heap.size + 2) ≠ (a15) := by have := z5_14; omega
      have n11_5 : (a15) ≠ (w.heap.size + 2) := by have := z5_14; omega
      have n5_12 : (w.heap.size + 2) ≠ (b15) := by have := z5_14; omega
      have n12_5 : (b15) ≠ (w.heap.size + 2) := by have := z5_14; omega
      obtain ⟨r3_15, c3_15, z3_15⟩ := keepZ hw15 z3_14 r3_14 c3_14
      obtain ⟨r4_15, c4_15, z4_15⟩ := keepZ hw15 z4_14 r4_14 c4_14
      obtain ⟨r5_15, c5_15, z5_15⟩ := keepZ hw15 z5_14 r5_14 c5_14
      obtain ⟨hb15, q15⟩ := bN hb14 hw15
      have sz15 := hw15.size
      have hvR_15 := hvR_14.below hw15 (by omega)
      clear hw15 hvR_14 r3_14 c3_14 z3_14 r4_14 c4_14 z4_14 r5_14 c5_14 z5_14 hb14
      have n11_12 : (a15) ≠ (b15) := hne15
      have n12_11 : (b15) ≠ (a15) := Ne.symm hne15
      have z11_15 := isRow_lt m1_15
      have z12_15 := isRow_lt m3_15
      simp only [Act.put, List.setIfInBounds_toArray, List.set_cons_zero, List.set_cons_succ]
      go_wp2_with fail
      refine atomC fun W16 e16 => ?_
      have hb16 : Below w.heap.size w W16 := by rw [e16]; exact bt
      have q16 := hb16.size
      have R16 : IsRow W16 (w.heap.size) ∧ IsRow W16 (w.heap.size + 1) ∧ IsRow W16 (w.heap.size + 2) ∧ IsRow W16 (a15) ∧ IsRow W16 (b15) := by rw [e16]; simp [go_sem, r3_15, c3_15, n3_11, n3_12, r4_15, c4_15, n4_11, n4_12, r5_15, c5_15, n5_11, n5_12, m1_15, m2_15, n11_3, n11_4, n11_5, n11_12, m3_15, m4_15, n12_3, n12_4, n12_5, n12_11]
      obtain ⟨r3_16, r4_16, r5_16, r11_16, r12_16⟩ := R16
      have C16 := (⟨congrArg (blk · (w.heap.size)) e16, congrArg (blk · (w.heap.size + 1)) e16, congrArg (blk · (w.heap.size + 2)) e16, congrArg (blk · (a15)) e16, congrArg (blk · (b15)) e16⟩ : _ ∧ _ ∧ _ ∧ _ ∧ _); simp [go_sem, r3_15, c3_15, n3_11, n3_12, r4_15, c4_15, n4_11, n4_12, r5_15, c5_15, n5_11, n5_12, m1_15, m2_15, n11_3, n11_4, n11_5, n11_12, m3_15, m4_15, n12_3, n12_4, n12_5, n12_11] at C16
      obtain ⟨c3_16, c4_16, c5_16, c11_16, c12_16⟩ := C16
      have z3_16 := isRow_lt r3_16; have z4_16 := isRow_lt r4_16; have z5_16 := isRow_lt r5_16; have z11_16 := isRow_lt r11_16; have z12_16 := isRow_lt r12_16
      have sz16 : W15.heap.size ≤ W16.heap.size := by rw [e16]; first | omega | (simp; done) | (simp; omega)
      have hvR_16 : RL W16 (W13.heap.size) (UR_14) (aR_14) (i) (cR_14) (64) ((priI p f v u)) := by rw [e16]; exact vtR
      clear e16 r3_15 c3_15 z3_15 r4_15 c4_15 z4_15 r5_15 c5_15 z5_15 m1_15 m2_15 z11_15 m3_15 m4_15 z12_15 hvR_15 hb15
      refine (addPair_any p (-1 % p) _ (comR f i) (ebas i) v _ hp hp' b1 b2 HC0.out (ebas_bytes i) Hv.out r12_16 c12_16).mono ?_; rintro _ W17 ⟨rfl, hw17, r12_17, c12_17⟩
      obtain ⟨r3_17, c3_17⟩ := keepA hw17 z3_16 (by first | assumption | (simp; done) | omega) r3_16 c3_16
      have z3_17 := isRow_lt r3_17
      obtain ⟨r4_17, c4_17⟩ := keepA hw17 z4_16 (by first | assumption | (simp; done) | omega) r4_16 c4_16
      have z4_17 := isRow_lt r4_17
      obtain ⟨r5_17, c5_17⟩ := keepA hw17 z5_16 (by first | assumption | (simp; done) | omega) r5_16 c5_16
      have z5_17 := isRow_lt r5_17
      obtain ⟨r11_17, c11_17⟩ := keepA hw17 z11_16 (by first | assumption | (simp; done) | omega) r11_16 c11_16
      have z11_17 := isRow_lt r11_17
      have z12_17 := isRow_lt r12_17
      have hvR_17 := hvR_16.aside hw17 (by omega) (by omega)
      have hb17 := Below.aside hb16 hw17 (by omega)
      have q17 := hb17.size
      clear hw17 hvR_16 r3_16 c3_16 z3_16 r4_16 c4_16 z4_16 r5_16 c5_16 z5_16 r11_16 c11_16 z11_16 r12_16 c12_16 z12_16 hb16
      go_wp2_with fail
      refine (addPair_any p (-1 % p) _ (pairK p (comR f i) (-1 % p) (ebas i) v 8) u (ebas i) _ hp hp' b1 b2 HC1.out Hu.out (ebas_bytes i) r12_17 c12_17).mono ?_; rintro _ W18 ⟨rfl, hw18, r12_18, c12_18⟩
      obtain ⟨r3_18, c3_18⟩ := keepA hw18 z3_17 (by first | assumption | (simp; done) | omega) r3_17 c3_17
      have z3_18 := isRow_lt r3_18
      obtain ⟨r4_18, c4_18⟩ := keepA hw18 z4_17 (by first | assumption | (simp; done) | omega) r4_17 c4_17
      have z4_18 := isRow_lt r4_18
      obtain ⟨r5_18, c5_18⟩ := keepA hw18 z5_17 (by first | assumption | (simp; done) | omega) r5_17 c5_17
      have z5_18 := isRow_lt r5_18
      have z12_18 := isRow_lt r12_18
      have hvR_18 := hvR_17.aside hw18 (by omega) (by omega)
      have hb18 := Below.aside hb17 hw18 (by omega)
      have q18 := hb18.size
      clear hw18 hvR_17 r3_17 c3_17 z3_17 r4_17 c4_17 z4_17 r5_17 c5_17 z5_17 r12_17 c12_17 z12_17 hb17
      go_wp2_with fail
      have ltB3n19 : (w.heap.size) < W18.heap.size := z3_18
      have ltB4n19 : (w.heap.size + 1) < W18.heap.size := z4_18
      have ltB5n19 : (w.heap.size + 2) < W18.heap.size := z5_18
      refine (flatLinear_any (priI p f v u i) _ HPB.out).mono ?_; rintro _ W19 ⟨aB_19, cB_19, rfl, hw19, hvB_19⟩
      obtain ⟨r3_19, c3_19, z3_19⟩ := keepZ hw19 z3_18 r3_18 c3_18
      obtain ⟨r4_19, c4_19, z4_19⟩ := keepZ hw19 z4_18 r4_18 c4_18
      obtain ⟨r5_19, c5_19, z5_19⟩ := keepZ hw19 z5_18 r5_18 c5_18
      obtain ⟨hb19, q19⟩ := bN hb18 hw19
      have sz19 := hw19.size
      have hvR_19 := hvR_18.below hw19 (by omega)
      clear hw19 hvR_18 r3_18 c3_18 z3_18 r4_18 c4_18 z4_18 r5_18 c5_18 z5_18 hb18
      obtain ⟨gB_20, FB_20, eaB_20, gBB_20, gUB_20, rBx_20, hcB_20, hmB_20, cBx_20, hFbB_20, hFB_20⟩ := hvB_19.some (by omega)
      subst eaB_20
      have HFB_20 := Lib.hid hFB_20; clear hFB_20
      have HBB_20 := Lib.hid hFbB_20; clear hFbB_20
      have zBx_20 := isRow_lt rBx_20
      have n3_Bx : (w.heap.size) ≠ (gB_20) := by omega
      have n4_Bx : (w.heap.size + 1) ≠ (gB_20) := by omega
      have n5_Bx : (w.heap.size + 2) ≠ (gB_20) := by omega
      have nBx_3 : (gB_20) ≠ (w.heap.size) := by omega
      have nBx_4 : (gB_20) ≠ (w.heap.size + 1) := by omega
      have nBx_5 : (gB_20) ≠ (w.heap.size + 2) := by omega
      go_wp2_with (at_builtin; refine atomL ?_)
      have nw3_W19_0 : (w.heap.size) ≠ W19.heap.size := by omega
      have nw4_W19_0 : (w.heap.size + 1) ≠ W19.heap.size := by omega
      have nw5_W19_0 : (w.heap.size + 2) ≠ W19.heap.size := by omega
      have nwBx_W19_0 : (gB_20) ≠ W19.heap.size := by omega
      intro W21 e21
      have hb21 : Below w.heap.size w W21 := by rw [e21]; exact bt
      have q21 := hb21.size
      have R21 : IsRow W21 (w.heap.size) ∧ IsRow W21 (w.heap.size + 1) ∧ IsRow W21 (w.heap.size + 2) ∧ IsRow W21 (gB_20) ∧ IsRow W21 (W19.heap.size) := by rw [e21]; simp [go_sem, r3_19, c3_19, n3_Bx, r4_19, c4_19, n4_Bx, r5_19, c5_19, n5_Bx, rBx_20, cBx_20, nBx_3, nBx_4, nBx_5, nw3_W19_0, nw4_W19_0, nw5_W19_0, nwBx_W19_0]
      obtain ⟨r3_21, r4_21, r5_21, rBx_21, r58_21⟩ := R21
      have C21 := (⟨congrArg (blk · (w.heap.size)) e21, congrArg (blk · (w.heap.size + 1)) e21, congrArg (blk · (w.heap.size + 2)) e21, congrArg (blk · (gB_20)) e21, congrArg (blk · (W19.heap.size)) e21⟩ : _ ∧ _ ∧ _ ∧ _ ∧ _); simp [go_sem, r3_19, c3_19, n3_Bx, r4_19, c4_19, n4_Bx, r5_19, c5_19, n5_Bx, rBx_20, cBx_20, nBx_3, nBx_4, nBx_5, nw3_W19_0, nw4_W19_0, nw5_W19_0, nwBx_W19_0] at C21
      obtain ⟨c3_21, c4_21, c5_21, cBx_21, c58_21⟩ := C21
      have z3_21 := isRow_lt r3_21; have z4_21 := isRow_lt r4_21; have z5_21 := isRow_lt r5_21; have zBx_21 := isRow_lt rBx_21; have z58_21 := isRow_lt r58_21
      have n3_58 : (w.heap.size) ≠ (W19.heap.size) := by omega
      have n4_58 : (w.heap.size + 1) ≠ (W19.heap.size) := by omega
      have n5_58 : (w.heap.size + 2) ≠ (W19.heap.size) := by omega
      have nBx_58 : (gB_20) ≠ (W19.heap.size) := by omega
      have n58_3 : (W19.heap.size) ≠ (w.heap.size) := by omega
      have n58_4 : (W19.heap.size) ≠ (w.heap.size + 1) := by omega
      have n58_5 : (W19.heap.size) ≠ (w.heap.size + 2) := by omega
      have n58_Bx : (W19.heap.size) ≠ (gB_20) := by omega
      have sz21 : W19.heap.size ≤ W21.heap.size := by rw [e21]; first | omega | (simp; done) | (simp; omega)
      have hvR_21 : RL W21 (W13.heap.size) (UR_14) (aR_14) (i) (cR_14) (64) ((priI p f v u)) := by rw [e21]; exact vtR
      clear e21 nw3_W19_0 nw4_W19_0 nw5_W19_0 nwBx_W19_0 r3_19 c3_19 z3_19 r4_19 c4_19 z4_19 r5_19 c5_19 z5_19 rBx_20 cBx_20 zBx_20 hvR_19 hb19
      refine appendR _ rfl _ _ rfl hvR_21 (by omega) (by omega) rfl _ _ (FB_20) rfl c58_21 ⟨⟨by omega, rBx_21, cBx_21, HBB_20.out, hcB_20⟩, by omega⟩ ?_
      intro aR_22 cR_22 W22 hg22 ha22 hvR_22
      obtain ⟨r3_22, c3_22⟩ := keepG hg22 (hvR_21.ne (by omega)) r3_21 c3_21
      have z3_22 := isRow_lt r3_22
      obtain ⟨r4_22, c4_22⟩ := keepG hg22 (hvR_21.ne (by omega)) r4_21 c4_21
      have z4_22 := isRow_lt r4_22
      obtain ⟨r5_22, c5_22⟩ := keepG hg22 (hvR_21.ne (by omega)) r5_21 c5_21
      have z5_22 := isRow_lt r5_22
      obtain ⟨rBx_22, cBx_22⟩ := keepG hg22 (hvR_21.ne (by omega)) rBx_21 cBx_21
      have zBx_22 := isRow_lt rBx_22
      have hb22 := below_ownR hb21 hvR_21 hg22 (by omega) (by omega)
      have q22 := hb22.size
      have sz22 := hg22.size
      clear hg22 ha22 r3_21 c3_21 z3_21 r4_21 c4_21 z4_21 r5_21 c5_21 z5_21 rBx_21 cBx_21 zBx_21 hvR_21 hb21
      go_wp2
      go_roundw
      case rel => exact ⟨i + 1, (aR_22), (cR_22), (W22.heap.size), by omega, (by first | rfl | go_num | (simp; done)), by go_num, bt, ⟨by simp [go_sem, r3_22, c3_22, n3_Bx, r4_22, c4_22, n4_Bx, r5_22, c5_22, n5_Bx, rBx_22, cBx_22, nBx_3, nBx_4, nBx_5], (by rw [E3_14.out]; first | exact c3_22 | (simp [go_sem, r3_22, c3_22, n3_Bx, r4_22, c4_22, n4_Bx, r5_22, c5_22, n5_Bx, rBx_22, cBx_22, nBx_3, nBx_4, nBx_5]; done))⟩, ⟨by simp [go_sem, r3_22, c3_22, n3_Bx, r4_22, c4_22, n4_Bx, r5_22, c5_22, n5_Bx, rBx_22, cBx_22, nBx_3, nBx_4, nBx_5], (by rw [E4_14.out]; first | exact c4_22 | (simp [go_sem, r3_22, c3_22, n3_Bx, r4_22, c4_22, n4_Bx, r5_22, c5_22, n5_Bx, rBx_22, cBx_22, nBx_3, nBx_4, nBx_5]; done))⟩, ⟨by simp [go_sem, r3_22, c3_22, n3_Bx, r4_22, c4_22, n4_Bx, r5_22, c5_22, n5_Bx, rBx_22, cBx_22, nBx_3, nBx_4, nBx_5], (by rw [E5_14.out]; first | exact c5_22 | (simp [go_sem, r3_22, c3_22, n3_Bx, r4_22, c4_22, n4_Bx, r5_22, c5_22, n5_Bx, rBx_22, cBx_22, nBx_3, nBx_4, nBx_5]; done))⟩, (hvR_22).same rfl rfl (addV_row fun t ht => HFB_20.out t ht 0 (by omega)), bu⟩
      case measure => simp [intOf]; try omega
     ·
      obtain rfl : n = i := by omega
      have HRI : Hid (∀ i, i < n → ∀ t, t < 64 → 0 ≤ priI p f v u i t ∧ priI p f v u i t < p) := Lib.hid fun i hi t ht => pair_range hp _ _ _ _ (fun t ht => pair_range hp _ _ _ _ (com_range HS.out HF.out i (by omega)) t ht) t ht
      go_wp2_with fail
      refine (kernelOf_to p _ _ _ n _ 64 (priI p f v u) (PrS p n f v u) _ hp hp' Hpr.out (by omega) hn (by omega) (by omega) (by omega) HRI.out hvR_14 (pri_ker hn HS.out (ok2_far HC.out).1 (ok2_far HC.out).2)).mono ?_; rintro _ W23 ⟨aK_23, cK_23, rfl, hw23, hvK_23⟩
      obtain ⟨hb23, q23⟩ := bN hb14 hw23
      have sz23 := hw23.size
      have hvR_23 := hvR_14.below hw23 (by omega)
      clear hw23 hvR_14 hb14
      go_wp2_with fail
      go_ret2
      exact ⟨aK_23, cK_23, by rw [HR.out.1, HR.out.2]; rfl, bt, ((hvK_23).same HR.out.1.symm fun _ _ _ _ => rfl).wider (by omega) (by omega)⟩

set_option maxRecDepth 100000 in
set_option maxHeartbeats 1000000 in
theorem specPrimitiveSpace_any (p n : Int) (f v u : Nat → Int) (w : World) (hF : Bytes 520 f) (hv : Bytes 8 v) (hu : Bytes 8 u) :
    Calls Try.prog 18 #[.agg (alg p n f), .agg (row 8 v), .agg (row 8 u)] w fun e w' => ∃ a c, e = .returned (.tuple #[.slice a (prN p n f v u) c, .int .i64 (prC p n f v u)]) ∧ Below w.heap.size w w' ∧ VL w' w.heap.size w'.heap.size a (prN p n f v u) c (prG p n f v u) := by
 have HF := Lib.hid hF; clear hF
 have Hv := Lib.hid hv; clear hv
 have Hu := Lib.hid hu; clear hu
 cases hc : okC p n f 2 (nth (pair v u))
 ·
  have HR := Lib.hid (pr_bad hc)
  have hc1 : codeB false = 1 := rfl
  go_enter Try.func18, Try.ntmps18
  go_wp2_with fail
  refine atomC fun W1 e1 => ?_
  have hb1 : Below w.heap.size w W1 := by rw [e1]; exact bt
  have q1 := hb1.size
  have R1 : IsRow W1 (w.heap.size) ∧ IsRow W1 (w.heap.size + 1) ∧ IsRow W1 (w.heap.size + 2) ∧ IsRow W1 (w.heap.size + 3) := by rw [e1]; simp [go_sem]
  obtain ⟨r3_1, r4_1, r5_1, r12_1⟩ := R1
  have C1 := (⟨congrArg (blk · (w.heap.size)) e1, congrArg (blk · (w.heap.size + 1)) e1, congrArg (blk · (w.heap.size + 2)) e1, congrArg (blk · (w.heap.size + 3)) e1⟩ : _ ∧ _ ∧ _ ∧ _); simp [go_sem] at C1
  obtain ⟨c3_1, c4_1, c5_1, c12_1⟩ := C1
  have z3_1 := isRow_lt r3_1; have z4_1 := isRow_lt r4_1; have z5_1 := isRow_lt r5_1; have z12_1 := isRow_lt r12_1
  clear e1
  refine (l02Code_any _ _ _ _ 0 2 2 (nth (pair v u)) _ HF.out (by omega) r12_1 (vecs_two c12_1 Hv.out Hu.out)).mono ?_; rintro _ W2 ⟨rfl, hw2⟩
  obtain ⟨r3_2, c3_2, z3_2⟩ := keepZ hw2 z3_1 r3_1 c3_1
  obtain ⟨r4_2, c4_2, z4_2⟩ := keepZ hw2 z4_1 r4_1 c4_1
  obtain ⟨r5_2, c5_2, z5_2⟩ := keepZ hw2 z5_1 r5_1 c5_1
  obtain ⟨r12_2, c12_2, z12_2⟩ := keepZ hw2 z12_1 r12_1 c12_1
  obtain ⟨hb2, q2⟩ := bN hb1 hw2
  clear hw2 r3_1 c3_1 z3_1 r4_1 c4_1 z4_1 r5_1 c5_1 z5_1 r12_1 c12_1 z12_1 hb1
  go_wp2_with fail
  go_ret2
  exact ⟨none, 0, by rw [HR.out.1, HR.out.2]; rfl, bt, VL.nilOf (HR.out.1)⟩
 ·
  cases hg : grpB p f v
  ·
   have HR := Lib.hid (pr_st hc (st_v hg))
   have hsz := co_sizes (okC_co hc)
   obtain ⟨hp2, hp31, hn1, hn8⟩ := sizes_range hsz
   have Hpr : Hid (prime31 p = true) := Lib.hid (by unfold sizesB at hsz; simp only [Bool.and_eq_true] at hsz; exact hsz.1)
   clear hsz
   obtain ⟨n, rfl⟩ := Int.eq_ofNat_of_zero_le (show 0 ≤ n by omega)
   have hn : n ≤ 8 := by omega
   have hp : 0 < p := by omega
   have hp' : p ≤ 255 := by omega
   have HS := Lib.hid (co_shape (okC_co hc))
   have hc1 : codeB true = 0 := rfl
   go_enter Try.func18, Try.ntmps18
   go_wp2_with fail
   refine atomC fun W3 e3 => ?_
   have hb3 : Below w.heap.size w W3 := by rw [e3]; exact bt
   have q3 := hb3.size
   have R3 : IsRow W3 (w.heap.size) ∧ IsRow W3 (w.heap.size + 1) ∧ IsRow W3 (w.heap.size + 2) ∧ IsRow W3 (w.heap.size + 3) := by rw [e3]; simp [go_sem]
   obtain ⟨r3_3, r4_3, r5_3, r12_3⟩ := R3
   have C3 := (⟨congrArg (blk · (w.heap.size)) e3, congrArg (blk · (w.heap.size + 1)) e3, congrArg (blk · (w.heap.size + 2)) e3, congrArg (blk · (w.heap.size + 3)) e3⟩ : _ ∧ _ ∧ _ ∧ _); simp [go_sem] at C3
   obtain ⟨c3_3, c4_3, c5_3, c12_3⟩ := C3
   have z3_3 := isRow_lt r3_3; have z4_3 := isRow_lt r4_3; have z5_3 := isRow_lt r5_3; have z12_3 := isRow_lt r12_3
   clear e3
   refine (l02Code_any _ _ _ _ 0 2 2 (nth (pair v u)) _ HF.out (by omega) r12_3 (vecs_two c12_3 Hv.out Hu.out)).mono ?_; rintro _ W4 ⟨rfl, hw4⟩
   obtain ⟨r3_4, c3_4, z3_4⟩ := keepZ hw4 z3_3 r3_3 c3_3
   obtain ⟨r4_4, c4_4, z4_4⟩ := keepZ hw4 z4_3 r4_3 c4_3
   obtain ⟨r5_4, c5_4, z5_4⟩ := keepZ hw4 z5_3 r5_3 c5_3
   obtain ⟨r12_4, c12_4, z12_4⟩ := keepZ hw4 z12_3 r12_3 c12_3
   obtain ⟨hb4, q4⟩ := bN hb3 hw4
   clear hw4 r3_3 c3_3 z3_3 r4_3 c4_3 z4_3 r5_3 c5_3 z5_3 r12_3 c12_3 z12_3 hb3
   go_wp2_with fail
   refine (l02Group_any _ _ _ _ _ hp hp' hn HF.out Hv.out HS.out).mono ?_; rintro _ W5 ⟨rfl, hw5⟩
   obtain ⟨r3_5, c3_5, z3_5⟩ := keepZ hw5 z3_4 r3_4 c3_4
   obtain ⟨r4_5, c4_5, z4_5⟩ := keepZ hw5 z4_4 r4_4 c4_4
   obtain ⟨r5_5, c5_5, z5_5⟩ := keepZ hw5 z5_4 r5_4 c5_4
   obtain ⟨hb5, q5⟩ := bN hb4 hw5
   clear hw5 r3_4 c3_4 z3_4 r4_4 c4_4 z4_4 r5_4 c5_4 z5_4 hb4
   go_wp2_with fail
   go_ret2
   exact ⟨none, 0, by rw [HR.out.1, HR.out.2]; rfl, bt, VL.nilOf (HR.out.1)⟩
  ·
   cases hh : grpB p f u
   ·
    have HR := Lib.hid (pr_st hc (st_u hh))
    have hsz := co_sizes (okC_co hc)
    obtain ⟨hp2, hp31, hn1, hn8⟩ := sizes_range hsz
    have Hpr : Hid (prime31 p = true) := Lib.hid (by unfold sizesB at hsz; simp only [Bool.and_eq_true] at hsz; exact hsz.1)
    clear hsz
    obtain ⟨n, rfl⟩ := Int.eq_ofNat_of_zero_le (show 0 ≤ n by omega)
    have hn : n ≤ 8 := by omega
    have hp : 0 < p := by omega
    have hp' : p ≤ 255 := by omega
    have HS := Lib.hid (co_shape (okC_co hc))
    have hc1 : codeB true = 0 := rfl
    go_enter Try.func18, Try.ntmps18
    go_wp2_with fail
    refine atomC fun W6 e6 => ?_
    have hb6 : Below w.heap.size w W6 := by rw [e6]; exact bt
    have q6 := hb6.size
    have R6 : IsRow W6 (w.heap.size) ∧ IsRow W6 (w.heap.size + 1) ∧ IsRow W6 (w.heap.size + 2) ∧ IsRow W6 (w.heap.size + 3) := by rw [e6]; simp [go_sem]
    obtain ⟨r3_6, r4_6, r5_6, r12_6⟩ := R6
    have C6 := (⟨congrArg (blk · (w.heap.size)) e6, congrArg (blk · (w.heap.size + 1)) e6, congrArg (blk · (w.heap.size + 2)) e6, congrArg (blk · (w.heap.size + 3)) e6⟩ : _ ∧ _ ∧ _ ∧ _); simp [go_sem] at C6
    obtain ⟨c3_6, c4_6, c5_6, c12_6⟩ := C6
    have z3_6 := isRow_lt r3_6; have z4_6 := isRow_lt r4_6; have z5_6 := isRow_lt r5_6; have z12_6 := isRow_lt r12_6
    clear e6
    refine (l02Code_any _ _ _ _ 0 2 2 (nth (pair v u)) _ HF.out (by omega) r12_6 (vecs_two c12_6 Hv.out Hu.out)).mono ?_; rintro _ W7 ⟨rfl, hw7⟩
    obtain ⟨r3_7, c3_7, z3_7⟩ := keepZ hw7 z3_6 r3_6 c3_6
    obtain ⟨r4_7, c4_7, z4_7⟩ := keepZ hw7 z4_6 r4_6 c4_6
    obtain ⟨r5_7, c5_7, z5_7⟩ := keepZ hw7 z5_6 r5_6 c5_6
    obtain ⟨r12_7, c12_7, z12_7⟩ := keepZ hw7 z12_6 r12_6 c12_6
    obtain ⟨hb7, q7⟩ := bN hb6 hw7
    clear hw7 r3_6 c3_6 z3_6 r4_6 c4_6 z4_6 r5_6 c5_6 z5_6 r12_6 c12_6 z12_6 hb6
    go_wp2_with fail
    refine (l02Group_any _ _ _ _ _ hp hp' hn HF.out Hv.out HS.out).mono ?_; rintro _ W8 ⟨rfl, hw8⟩
    obtain ⟨r3_8, c3_8, z3_8⟩ := keepZ hw8 z3_7 r3_7 c3_7
    obtain ⟨r4_8, c4_8, z4_8⟩ := keepZ hw8 z4_7 r4_7 c4_7
    obtain ⟨r5_8, c5_8, z5_8⟩ := keepZ hw8 z5_7 r5_7 c5_7
    obtain ⟨hb8, q8⟩ := bN hb7 hw8
    clear hw8 r3_7 c3_7 z3_7 r4_7 c4_7 z4_7 r5_7 c5_7 z5_7 hb7
    go_wp2_with fail
    refine (l02Group_any _ _ _ _ _ hp hp' hn HF.out Hu.out HS.out).mono ?_; rintro _ W9 ⟨rfl, hw9⟩
    obtain ⟨r3_9, c3_9, z3_9⟩ := keepZ hw9 z3_8 r3_8 c3_8
    obtain ⟨r4_9, c4_9, z4_9⟩ := keepZ hw9 z4_8 r4_8 c4_8
    obtain ⟨r5_9, c5_9, z5_9⟩ := keepZ hw9 z5_8 r5_8 c5_8
    obtain ⟨hb9, q9⟩ := bN hb8 hw9
    clear hw9 r3_8 c3_8 z3_8 r4_8 c4_8 z4_8 r5_8 c5_8 z5_8 hb8
    go_wp2_with fail
    go_ret2
    exact ⟨none, 0, by rw [HR.out.1, HR.out.2]; rfl, bt, VL.nilOf (HR.out.1)⟩
   ·
    have hsz := co_sizes (okC_co hc)
    obtain ⟨hp2, hp31, hn1, hn8⟩ := sizes_range hsz
    have Hpr : Hid (prime31 p = true) := Lib.hid (by unfold sizesB at hsz; simp only [Bool.and_eq_true] at hsz; exact hsz.1)
    clear hsz
    obtain ⟨n, rfl⟩ := Int.eq_ofNat_of_zero_le (show 0 ≤ n by omega)
    have hn : n ≤ 8 := by omega
    have hp : 0 < p := by omega
    have hp' : p ≤ 255 := by omega
    have HS := Lib.hid (co_shape (okC_co hc))
    have HR := Lib.hid (pr_yes hc (st_yes hg hh))
    have hc1 : codeB true = 0 := rfl
    go_enter Try.func18, Try.ntmps18
    go_wp2_with fail
    refine atomC fun W10 e10 => ?_
    have hb10 : Below w.heap.size w W10 := by rw [e10]; exact bt
    have q10 := hb10.size
    have R10 : IsRow W10 (w.heap.size) ∧ IsRow W10 (w.heap.size + 1) ∧ IsRow W10 (w.heap.size + 2) ∧ IsRow W10 (w.heap.size + 3) := by rw [e10]; simp [go_sem]
    obtain ⟨r3_10, r4_10, r5_10, r12_10⟩ := R10
    have C10 := (⟨congrArg (blk · (w.heap.size)) e10, congrArg (blk · (w.heap.size + 1)) e10, congrArg (blk · (w.heap.size + 2)) e10, congrArg (blk · (w.heap.size + 3)) e10⟩ : _ ∧ _ ∧ _ ∧ _); simp [go_sem] at C10
    obtain ⟨c3_10, c4_10, c5_10, c12_10⟩ := C10
    have z3_10 := isRow_lt r3_10; have z4_10 := isRow_lt r4_10; have z5_10 := isRow_lt r5_10; have z12_10 := isRow_lt r12_10
    clear e10
    refine (l02Code_any _ _ _ _ 0 2 2 (nth (pair v u)) _ HF.out (by omega) r12_10 (vecs_two c12_10 Hv.out Hu.out)).mono ?_; rintro _ W11 ⟨rfl, hw11⟩
    obtain ⟨r3_11, c3_11, z3_11⟩ := keepZ hw11 z3_10 r3_10 c3_10
    obtain ⟨r4_11, c4_11, z4_11⟩ := keepZ hw11 z4_10 r4_10 c4_10
    obtain ⟨r5_11, c5_11, z5_11⟩ := keepZ hw11 z5_10 r5_10 c5_10
    obtain ⟨r12_11, c12_11, z12_11⟩ := keepZ hw11 z12_10 r12_10 c12_10
    obtain ⟨hb11, q11⟩ := bN hb10 hw11
    clear hw11 r3_10 c3_10 z3_10 r4_10 c4_10 z4_10 r5_10 c5_10 z5_10 r12_10 c12_10 z12_10 hb10
    go_wp2_with fail
    refine (l02Group_any _ _ _ _ _ hp hp' hn HF.out Hv.out HS.out).mono ?_; rintro _ W12 ⟨rfl, hw12⟩
    obtain ⟨r3_12, c3_12, z3_12⟩ := keepZ hw12 z3_11 r3_11 c3_11
    obtain ⟨r4_12, c4_12, z4_12⟩ := keepZ hw12 z4_11 r4_11 c4_11
    obtain ⟨r5_12, c5_12, z5_12⟩ := keepZ hw12 z5_11 r5_11 c5_11
    obtain ⟨hb12, q12⟩ := bN hb11 hw12
    clear hw12 r3_11 c3_11 z3_11 r4_11 c4_11 z4_11 r5_11 c5_11 z5_11 hb11
    go_wp2_with fail
    refine (l02Group_any _ _ _ _ _ hp hp' hn HF.out Hu.out HS.out).mono ?_; rintro _ W13 ⟨rfl, hw13⟩
    obtain ⟨r3_13, c3_13, z3_13⟩ := keepZ hw13 z3_12 r3_12 c3_12
    obtain ⟨r4_13, c4_13, z4_13⟩ := keepZ hw13 z4_12 r4_12 c4_12
    obtain ⟨r5_13, c5_13, z5_13⟩ := keepZ hw13 z5_12 r5_12 c5_12
    obtain ⟨hb13, q13⟩ := bN hb12 hw13
    clear hw13 r3_12 c3_12 z3_12 r4_12 c4_12 z4_12 r5_12 c5_12 z5_12 hb12
    go_wp2_with fail
    refine (l02Primitive_any p n f v u _ hp hp' Hpr.out hn HF.out Hv.out Hu.out).mono ?_; rintro _ W14 ⟨aK_14, cK_14, rfl, hw14, hvK_14⟩
    have sz14 := hw14.size
    obtain ⟨hb14, q14⟩ := bN hb13 hw14
    clear hw14 hb13
    go_wp2_with fail
    go_ret2
    exact ⟨aK_14, cK_14, by rw [HR.out.1, HR.out.2]; rfl, bt, ((hvK_14).same HR.out.1.symm fun _ _ _ _ => rfl).wider (by omega) (by omega)⟩

set_option maxRecDepth 100000 in
set_option maxHeartbeats 2000000 in
theorem lawPrimitiveSpace (fp fn : Int) (f : Nat → Int) (v : Nat → Int) (u : Nat → Int) (w : World) (_wfp : (Lit.int .i64 fp).wf = true) (_wfn : (Lit.int .i64 fn).wf = true) (hf : Bytes 520 f) (hv : Bytes 8 v) (hu : Bytes 8 u) :
    Calls Try.prog 4 #[.agg (alg fp fn f), .agg (row 8 v), .agg (row 8 u)] w fun e w' => e = .returned (.bool true) ∧ Below w.heap.size w w' := by
 have Hf := Lib.hid hf; clear hf
 have Hv := Lib.hid hv; clear hv
 have Hu := Lib.hid hu; clear hu
 have hm : prN fp fn f v u ≤ 1000000 := Nat.le_trans (pr_le fp fn f v u) (by omega)
 go_enter Try.func4, Try.ntmps4
 go_wp2
 refine atomW fun W1 e1 => ?_
 have hb1 : Below w.heap.size w W1 := by rw [e1]; exact bt
 have q1 := hb1.size
 have R1 : IsRow W1 (w.heap.size) ∧ IsRow W1 (w.heap.size + 1) ∧ IsRow W1 (w.heap.size + 2) := by rw [e1]; simp [go_sem]
 obtain ⟨r3_1, r4_1, r5_1⟩ := R1
 have C1 := (⟨congrArg (blk · (w.heap.size)) e1, congrArg (blk · (w.heap.size + 1)) e1, congrArg (blk · (w.heap.size + 2)) e1⟩ : _ ∧ _ ∧ _); simp [go_sem] at C1
 obtain ⟨c3_1, c4_1, c5_1⟩ := C1
 have z3_1 := isRow_lt r3_1; have z4_1 := isRow_lt r4_1; have z5_1 := isRow_lt r5_1
 clear e1
 refine wp_quiet_tail_two 6 8 _ (by kernel_rfl) (by omega) (by kernel_rfl) (by kernel_rfl) (by kernel_rfl) (fun c a w d v h => by cases d <;> exact h) (Below.refl W1.heap.size W1).drew ?_
 simp only [List.take_succ_cons, List.take_zero, List.drop_succ_cons, List.drop_zero]
 iterate 1 (refine q_plain rfl ?_; apply Exists.intro; refine ⟨fun W hW => ?_, ?_⟩; (focus (obtain ⟨x3, y3⟩ := keepB hW z3_1 r3_1 c3_1; obtain ⟨x4, y4⟩ := keepB hW z4_1 r4_1 c4_1; obtain ⟨x5, y5⟩ := keepB hW z5_1 r5_1 c5_1; go_simp; first | done | rfl)); simp only [Act.put, List.setIfInBounds_toArray, List.set_cons_zero, List.set_cons_succ])
 (refine q_plain rfl ?_; apply Exists.intro; refine ⟨fun W hW => ?_, ?_⟩; (focus (obtain ⟨x3, y3⟩ := keepB hW z3_1 r3_1 c3_1; obtain ⟨x4, y4⟩ := keepB hW z4_1 r4_1 c4_1; obtain ⟨x5, y5⟩ := keepB hW z5_1 r5_1 c5_1; go_simp; (go_at_call 19; exact (toCoalgebra_any _ _ _ _).mono fun e w2 ⟨he, hw2⟩ => ⟨he, hW.trans (hw2.mono hW.size)⟩))); simp only [Act.put, List.setIfInBounds_toArray, List.set_cons_zero, List.set_cons_succ])
 iterate 1 (refine q_plain rfl ?_; apply Exists.intro; refine ⟨fun W hW => ?_, ?_⟩; (focus (obtain ⟨x3, y3⟩ := keepB hW z3_1 r3_1 c3_1; obtain ⟨x4, y4⟩ := keepB hW z4_1 r4_1 c4_1; obtain ⟨x5, y5⟩ := keepB hW z5_1 r5_1 c5_1; go_simp; first | done | rfl)); simp only [Act.put, List.setIfInBounds_toArray, List.set_cons_zero, List.set_cons_succ])
 (refine q_plain rfl ?_; apply Exists.intro; refine ⟨fun W hW => ?_, ?_⟩; (focus (obtain ⟨x3, y3⟩ := keepB hW z3_1 r3_1 c3_1; obtain ⟨x4, y4⟩ := keepB hW z4_1 r4_1 c4_1; obtain ⟨x5, y5⟩ := keepB hW z5_1 r5_1 c5_1; go_simp; (go_at_call 20; exact (toVector_any _ _).mono fun e w2 ⟨he, hw2⟩ => ⟨he, hW.trans (hw2.mono hW.size)⟩))); simp only [Act.put, List.setIfInBounds_toArray, List.set_cons_zero, List.set_cons_succ])
 iterate 1 (refine q_plain rfl ?_; apply Exists.intro; refine ⟨fun W hW => ?_, ?_⟩; (focus (obtain ⟨x3, y3⟩ := keepB hW z3_1 r3_1 c3_1; obtain ⟨x4, y4⟩ := keepB hW z4_1 r4_1 c4_1; obtain ⟨x5, y5⟩ := keepB hW z5_1 r5_1 c5_1; go_simp; first | done | rfl)); simp only [Act.put, List.setIfInBounds_toArray, List.set_cons_zero, List.set_cons_succ])
 (refine q_plain rfl ?_; apply Exists.intro; refine ⟨fun W hW => ?_, ?_⟩; (focus (obtain ⟨x3, y3⟩ := keepB hW z3_1 r3_1 c3_1; obtain ⟨x4, y4⟩ := keepB hW z4_1 r4_1 c4_1; obtain ⟨x5, y5⟩ := keepB hW z5_1 r5_1 c5_1; go_simp; (go_at_call 20; exact (toVector_any _ _).mono fun e w2 ⟨he, hw2⟩ => ⟨he, hW.trans (hw2.mono hW.size)⟩))); simp only [Act.put, List.setIfInBounds_toArray, List.set_cons_zero, List.set_cons_succ])
 refine wpQuiet_nil ?_
 intro W2 hw2
 obtain ⟨r3_2, c3_2, z3_2⟩ := keepZ hw2 z3_1 r3_1 c3_1
 obtain ⟨r4_2, c4_2, z4_2⟩ := keepZ hw2 z4_1 r4_1 c4_1
 obtain ⟨r5_2, c5_2, z5_2⟩ := keepZ hw2 z5_1 r5_1 c5_1
 obtain ⟨hb2, q2⟩ := bN hb1 hw2
 clear hw2 r3_1 c3_1 z3_1 r4_1 c4_1 z4_1 r5_1 c5_1 z5_1 hb1
 go_wp2_with fail
 have ltS3n3 : (w.heap.size) < W2.heap.size := z3_2
 have ltS4n3 : (w.heap.size + 1) < W2.heap.size := z4_2
 have ltS5n3 : (w.heap.size + 2) < W2.heap.size := z5_2
 refine (specPrimitiveSpace_any _ _ _ _ _ _ Hf.out Hv.out Hu.out).mono ?_; rintro _ W3 ⟨aS_3, cS_3, rfl, hw3, hvS_3⟩
 have sz3 := hw3.size
 obtain ⟨r3_3, c3_3, z3_3⟩ := keepZ hw3 z3_2 r3_2 c3_2
 obtain ⟨r4_3, c4_3, z4_3⟩ := keepZ hw3 z4_2 r4_2 c4_2
 obtain ⟨r5_3, c5_3, z5_3⟩ := keepZ hw3 z5_2 r5_2 c5_2
 obtain ⟨hb3, q3⟩ := bN hb2 hw3
 clear hw3 r3_2 c3_2 z3_2 r4_2 c4_2 z4_2 r5_2 c5_2 z5_2 hb2
 go_wp2
 refine wp_quiet_tail_two 6 8 _ (by kernel_rfl) (by omega) (by kernel_rfl) (by kernel_rfl) (by kernel_rfl) (fun c a w d v h => by cases d <;> exact h) (Below.refl W3.heap.size W3).drew ?_
 simp only [List.take_succ_cons, List.take_zero, List.drop_succ_cons, List.drop_zero]
 iterate 1 (refine q_plain rfl ?_; apply Exists.intro; refine ⟨fun W hW => ?_, ?_⟩; (focus (obtain ⟨x3, y3⟩ := keepB hW z3_3 r3_3 c3_3; obtain ⟨x4, y4⟩ := keepB hW z4_3 r4_3 c4_3; obtain ⟨x5, y5⟩ := keepB hW z5_3 r5_3 c5_3; go_simp; first | done | rfl)); simp only [Act.put, List.setIfInBounds_toArray, List.set_cons_zero, List.set_cons_succ])
 (refine q_plain rfl ?_; apply Exists.intro; refine ⟨fun W hW => ?_, ?_⟩; (focus (obtain ⟨x3, y3⟩ := keepB hW z3_3 r3_3 c3_3; obtain ⟨x4, y4⟩ := keepB hW z4_3 r4_3 c4_3; obtain ⟨x5, y5⟩ := keepB hW z5_3 r5_3 c5_3; go_simp; (go_at_call 19; exact (toCoalgebra_any _ _ _ _).mono fun e w2 ⟨he, hw2⟩ => ⟨he, hW.trans (hw2.mono hW.size)⟩))); simp only [Act.put, List.setIfInBounds_toArray, List.set_cons_zero, List.set_cons_succ])
 iterate 1 (refine q_plain rfl ?_; apply Exists.intro; refine ⟨fun W hW => ?_, ?_⟩; (focus (obtain ⟨x3, y3⟩ := keepB hW z3_3 r3_3 c3_3; obtain ⟨x4, y4⟩ := keepB hW z4_3 r4_3 c4_3; obtain ⟨x5, y5⟩ := keepB hW z5_3 r5_3 c5_3; go_simp; first | done | rfl)); simp only [Act.put, List.setIfInBounds_toArray, List.set_cons_zero, List.set_cons_succ])
 (refine q_plain rfl ?_; apply Exists.intro; refine ⟨fun W hW => ?_, ?_⟩; (focus (obtain ⟨x3, y3⟩ := keepB hW z3_3 r3_3 c3_3; obtain ⟨x4, y4⟩ := keepB hW z4_3 r4_3 c4_3; obtain ⟨x5, y5⟩ := keepB hW z5_3 r5_3 c5_3; go_simp; (go_at_call 20; exact (toVector_any _ _).mono fun e w2 ⟨he, hw2⟩ => ⟨he, hW.trans (hw2.mono hW.size)⟩))); simp only [Act.put, List.setIfInBounds_toArray, List.set_cons_zero, List.set_cons_succ])
 iterate 1 (refine q_plain rfl ?_; apply Exists.intro; refine ⟨fun W hW => ?_, ?_⟩; (focus (obtain ⟨x3, y3⟩ := keepB hW z3_3 r3_3 c3_3; obtain ⟨x4, y4⟩ := keepB hW z4_3 r4_3 c4_3; obtain ⟨x5, y5⟩ := keepB hW z5_3 r5_3 c5_3; go_simp; first | done | rfl)); simp only [Act.put, List.setIfInBounds_toArray, List.set_cons_zero, List.set_cons_succ])
 (refine q_plain rfl ?_; apply Exists.intro; refine ⟨fun W hW => ?_, ?_⟩; (focus (obtain ⟨x3, y3⟩ := keepB hW z3_3 r3_3 c3_3; obtain ⟨x4, y4⟩ := keepB hW z4_3 r4_3 c4_3; obtain ⟨x5, y5⟩ := keepB hW z5_3 r5_3 c5_3; go_simp; (go_at_call 20; exact (toVector_any _ _).mono fun e w2 ⟨he, hw2⟩ => ⟨he, hW.trans (hw2.mono hW.size)⟩))); simp only [Act.put, List.setIfInBounds_toArray, List.set_cons_zero, List.set_cons_succ])
 refine wpQuiet_nil ?_
 intro W4 hw4
 obtain ⟨r3_4, c3_4, z3_4⟩ := keepZ hw4 z3_3 r3_3 c3_3
 obtain ⟨r4_4, c4_4, z4_4⟩ := keepZ hw4 z4_3 r4_3 c4_3
 obtain ⟨r5_4, c5_4, z5_4⟩ := keepZ hw4 z5_3 r5_3 c5_3
 obtain ⟨hb4, q4⟩ := bN hb3 hw4
 have sz4 := hw4.size
 have hvS_4 := hvS_3.below hw4 (by omega)
 clear hw4 hvS_3 r3_3 c3_3 z3_3 r4_3 c4_3 z4_3 r5_3 c5_3 z5_3 hb3
 go_wp2_with fail
 have ltG3n5 : (w.heap.size) < W4.heap.size := z3_4
 have ltG4n5 : (w.heap.size + 1) < W4.heap.size := z4_4
 have ltG5n5 : (w.heap.size + 2) < W4.heap.size := z5_4
 refine (primitiveSpace_any _ _ _ _ _ _ Hf.out Hv.out Hu.out).mono ?_; rintro _ W5 ⟨aG_5, cG_5, rfl, hw5, hvG_5⟩
 obtain ⟨r3_5, c3_5, z3_5⟩ := keepZ hw5 z3_4 r3_4 c3_4
 obtain ⟨r4_5, c4_5, z4_5⟩ := keepZ hw5 z4_4 r4_4 c4_4
 obtain ⟨r5_5, c5_5, z5_5⟩ := keepZ hw5 z5_4 r5_4 c5_4
 obtain ⟨hb5, q5⟩ := bN hb4 hw5
 have sz5 := hw5.size
 have hvS_5 := hvS_4.below hw5 (by omega)
 clear hw5 hvS_4 r3_4 c3_4 z3_4 r4_4 c4_4 z4_4 r5_4 c5_4 z5_4 hb4
 go_wp2_with fail
 refine (eqVectorS_any hm hvG_5 hvS_5).mono ?_; rintro _ W6 ⟨rfl, hw6⟩
 obtain ⟨r3_6, c3_6, z3_6⟩ := keepZ hw6 z3_5 r3_5 c3_5
 obtain ⟨r4_6, c4_6, z4_6⟩ := keepZ hw6 z4_5 r4_5 c4_5
 obtain ⟨r5_6, c5_6, z5_6⟩ := keepZ hw6 z5_5 r5_5 c5_5
 obtain ⟨hb6, q6⟩ := bN hb5 hw6
 have sz6 := hw6.size
 have hvS_6 := hvS_5.below hw6 (by omega)
 have hvG_6 := hvG_5.below hw6 (by omega)
 clear hw6 hvS_5 hvG_5 r3_5 c3_5 z3_5 r4_5 c4_5 z4_5 r5_5 c5_5 z5_5 hb5
 go_wp2_with fail
 refine (markVectorS_any hm (by omega) (by omega) (by omega) hvG_6).mono ?_; rintro _ W7 ⟨rfl, hw7, hvG_7⟩
 obtain ⟨r3_7, c3_7⟩ := keepB hw7 (by have := z3_6; omega) r3_6 c3_6
 have z3_7 := isRow_lt r3_7
 obtain ⟨r4_7, c4_7⟩ := keepB hw7 (by have := z4_6; omega) r4_6 c4_6
 have z4_7 := isRow_lt r4_7
 obtain ⟨r5_7, c5_7⟩ := keepB hw7 (by have := z5_6; omega) r5_6 c5_6
 have z5_7 := isRow_lt r5_7
 have hb7 := hb6.trans (hw7.mono (by omega))
 have q7 := hb7.size
 have sz7 := hw7.size
 have hvS_7 := hvS_6.below hw7 (by omega)
 clear hw7 hvG_6 hvS_6 r3_6 c3_6 z3_6 r4_6 c4_6 z4_6 r5_6 c5_6 z5_6 hb6
 go_wp2_with fail
 refine (heldVectorS_any hm (by omega) (by omega) hvG_7).mono ?_; rintro _ W8 ⟨rfl, hw8⟩
 obtain ⟨r3_8, c3_8, z3_8⟩ := keepZ hw8 z3_7 r3_7 c3_7
 obtain ⟨r4_8, c4_8, z4_8⟩ := keepZ hw8 z4_7 r4_7 c4_7
 obtain ⟨r5_8, c5_8, z5_8⟩ := keepZ hw8 z5_7 r5_7 c5_7
 obtain ⟨hb8, q8⟩ := bN hb7 hw8
 have sz8 := hw8.size
 have hvS_8 := hvS_7.below hw8 (by omega)
 have hvG_8 := hvG_7.below hw8 (by omega)
 clear hw8 hvS_7 hvG_7 r3_7 c3_7 z3_7 r4_7 c4_7 z4_7 r5_7 c5_7 z5_7 hb7
 go_wp2
 refine wp_quiet_tail_two 6 8 _ (by kernel_rfl) (by omega) (by kernel_rfl) (by kernel_rfl) (by kernel_rfl) (fun c a w d v h => by cases d <;> exact h) (Below.refl W8.heap.size W8).drew ?_
 simp only [List.take_succ_cons, List.take_zero, List.drop_succ_cons, List.drop_zero]
 iterate 1 (refine q_plain rfl ?_; apply Exists.intro; refine ⟨fun W hW => ?_, ?_⟩; (focus (obtain ⟨x3, y3⟩ := keepB hW z3_8 r3_8 c3_8; obtain ⟨x4, y4⟩ := keepB hW z4_8 r4_8 c4_8; obtain ⟨x5, y5⟩ := keepB hW z5_8 r5_8 c5_8; go_simp; first | done | rfl)); simp only [Act.put, List.setIfInBounds_toArray, List.set_cons_zero, List.set_cons_succ])
 (refine q_plain rfl ?_; apply Exists.intro; refine ⟨fun W hW => ?_, ?_⟩; (focus (obtain ⟨x3, y3⟩ := keepB hW z3_8 r3_8 c3_8; obtain ⟨x4, y4⟩ := keepB hW z4_8 r4_8 c4_8; obtain ⟨x5, y5⟩ := keepB hW z5_8 r5_8 c5_8; go_simp; (go_at_call 19; exact (toCoalgebra_any _ _ _ _).mono fun e w2 ⟨he, hw2⟩ => ⟨he, hW.trans (hw2.mono hW.size)⟩))); simp only [Act.put, List.setIfInBounds_toArray, List.set_cons_zero, List.set_cons_succ])
 iterate 1 (refine q_plain rfl ?_; apply Exists.intro; refine ⟨fun W hW => ?_, ?_⟩; (focus (obtain ⟨x3, y3⟩ := keepB hW z3_8 r3_8 c3_8; obtain ⟨x4, y4⟩ := keepB hW z4_8 r4_8 c4_8; obtain ⟨x5, y5⟩ := keepB hW z5_8 r5_8 c5_8; go_simp; first | done | rfl)); simp only [Act.put, List.setIfInBounds_toArray, List.set_cons_zero, List.set_cons_succ])
 (refine q_plain rfl ?_; apply Exists.intro; refine ⟨fun W hW => ?_, ?_⟩; (focus (obtain ⟨x3, y3⟩ := keepB hW z3_8 r3_8 c3_8; obtain ⟨x4, y4⟩ := keepB hW z4_8 r4_8 c4_8; obtain ⟨x5, y5⟩ := keepB hW z5_8 r5_8 c5_8; go_simp; (go_at_call 20; exact (toVector_any _ _).mono fun e w2 ⟨he, hw2⟩ => ⟨he, hW.trans (hw2.mono hW.size)⟩))); simp only [Act.put, List.setIfInBounds_toArray, List.set_cons_zero, List.set_cons_succ])
 iterate 1 (refine q_plain rfl ?_; apply Exists.intro; refine ⟨fun W hW => ?_, ?_⟩; (focus (obtain ⟨x3, y3⟩ := keepB hW z3_8 r3_8 c3_8; obtain ⟨x4, y4⟩ := keepB hW z4_8 r4_8 c4_8; obtain ⟨x5, y5⟩ := keepB hW z5_8 r5_8 c5_8; go_simp; first | done | rfl)); simp only [Act.put, List.setIfInBounds_toArray, List.set_cons_zero, List.set_cons_succ])
 (refine q_plain rfl ?_; apply Exists.intro; refine ⟨fun W hW => ?_, ?_⟩; (focus (obtain ⟨x3, y3⟩ := keepB hW z3_8 r3_8 c3_8; obtain ⟨x4, y4⟩ := keepB hW z4_8 r4_8 c4_8; obtain ⟨x5, y5⟩ := keepB hW z5_8 r5_8 c5_8; go_simp; (go_at_call 20; exact (toVector_any _ _).mono fun e w2 ⟨he, hw2⟩ => ⟨he, hW.trans (hw2.mono hW.size)⟩))); simp only [Act.put, List.setIfInBounds_toArray, List.set_cons_zero, List.set_cons_succ])
 refine wpQuiet_nil ?_
 intro W9 hw9
 obtain ⟨r3_9, c3_9, z3_9⟩ := keepZ hw9 z3_8 r3_8 c3_8
 obtain ⟨r4_9, c4_9, z4_9⟩ := keepZ hw9 z4_8 r4_8 c4_8
 obtain ⟨r5_9, c5_9, z5_9⟩ := keepZ hw9 z5_8 r5_8 c5_8
 obtain ⟨hb9, q9⟩ := bN hb8 hw9
 have sz9 := hw9.size
 have hvS_9 := hvS_8.below hw9 (by omega)
 have hvG_9 := hvG_8.below hw9 (by omega)
 clear hw9 hvS_8 hvG_8 r3_8 c3_8 z3_8 r4_8 c4_8 z4_8 r5_8 c5_8 z5_8 hb8
 go_wp2_with fail
 refine (primitiveSpace_any _ _ _ _ _ _ Hf.out Hv.out Hu.out).mono ?_; rintro _ W10 ⟨aH_10, cH_10, rfl, hw10, hvH_10⟩
 obtain ⟨hb10, q10⟩ := bN hb9 hw10
 have sz10 := hw10.size
 have hvS_10 := hvS_9.below hw10 (by omega)
 have hvG_10 := hvG_9.below hw10 (by omega)
 clear hw10 hvS_9 hvG_9 hb9
 go_wp2_with fail
 refine (eqVectorS_any hm hvH_10 hvS_10).mono ?_; rintro _ W11 ⟨rfl, hw11⟩
 obtain ⟨hb11, q11⟩ := bN hb10 hw11
 have sz11 := hw11.size
 have hvS_11 := hvS_10.below hw11 (by omega)
 have hvG_11 := hvG_10.below hw11 (by omega)
 have hvH_11 := hvH_10.below hw11 (by omega)
 clear hw11 hvS_10 hvG_10 hvH_10 hb10
 go_wp2_with fail
 refine (heldVectorS_any hm (by omega) (by omega) hvG_11).mono ?_; rintro _ W12 ⟨rfl, hw12⟩
 obtain ⟨hb12, q12⟩ := bN hb11 hw12
 have sz12 := hw12.size
 have hvS_12 := hvS_11.below hw12 (by omega)
 have hvG_12 := hvG_11.below hw12 (by omega)
 have hvH_12 := hvH_11.below hw12 (by omega)
 clear hw12 hvS_11 hvG_11 hvH_11 hb11
 go_wp2_with fail
 go_ret
 exact ⟨rfl, bt⟩

end Go.Proofs.Ytfmhgfnadgaiaaa
