/- The vectors that have the product 0 with all rows, by the reference model: l02Null. -/
import Derived.Test.YtfmhgfnadgaiaaaGreatL6
namespace Go.Proofs.YtfmhgfnadgaiaaaGreat
open Go.RowKit
set_option linter.unusedSimpArgs false
set_option linter.unusedVariables false
attribute [local irreducible] wpQuiet wpQE

/-! ### eight truths -/
def bls (b : Nat → Bool) : Array Value := #[.bool (b 0), .bool (b 1), .bool (b 2), .bool (b 3), .bool (b 4), .bool (b 5), .bool (b 6), .bool (b 7)]
def updb (b : Nat → Bool) (i : Nat) (y : Bool) : Nat → Bool := fun t => if t = i then y else b t
@[go_sem] theorem bls_size (b : Nat → Bool) : (bls b).size = 8 := rfl
theorem lt8 {i : Nat} (h : i < 8) : i = 0 ∨ i = 1 ∨ i = 2 ∨ i = 3 ∨ i = 4 ∨ i = 5 ∨ i = 6 ∨ i = 7 := by omega
@[go_sem] theorem bls_get? (b : Nat → Bool) (i : Nat) (h : i < 8) : (bls b)[i]? = some (.bool (b i)) := by
  rcases lt8 h with rfl | rfl | rfl | rfl | rfl | rfl | rfl | rfl <;> rfl
@[go_sem] theorem bls_el (b : Nat → Bool) (i : Nat) (h : i < (bls b).size) : (bls b)[i] = .bool (b i) := by
  have h' : i < 8 := h
  have e := bls_get? b i h'
  rw [Array.getElem?_eq_getElem h] at e
  exact Option.some.inj e
@[go_sem] theorem bls_set (b : Nat → Bool) (i : Nat) (y : Bool) : (bls b).setIfInBounds i (.bool y) = bls (updb b i y) := by
  by_cases h : i < 8
  · rcases lt8 h with rfl | rfl | rfl | rfl | rfl | rfl | rfl | rfl <;> rfl
  · have e : (bls b).setIfInBounds i (.bool y) = bls b := by
      unfold Array.setIfInBounds
      rw [dif_neg (by rw [bls_size]; exact h)]
    rw [e]
    unfold bls updb
    rw [if_neg (show ¬ 0 = i by omega), if_neg (show ¬ 1 = i by omega), if_neg (show ¬ 2 = i by omega), if_neg (show ¬ 3 = i by omega), if_neg (show ¬ 4 = i by omega), if_neg (show ¬ 5 = i by omega), if_neg (show ¬ 6 = i by omega), if_neg (show ¬ 7 = i by omega)]
theorem bls_congr {b c : Nat → Bool} (h : ∀ t, t < 8 → b t = c t) : bls b = bls c := by
  unfold bls
  rw [h 0 (by omega), h 1 (by omega), h 2 (by omega), h 3 (by omega), h 4 (by omega), h 5 (by omega), h 6 (by omega), h 7 (by omega)]
@[go_sem] theorem lay_bls (b c : Nat → Bool) : lay (bls b) 0 (bls c) = bls c := by first | rfl | kernel_rfl | (unfold lay bls; simp)
theorem bls_cells (b : Nat → Bool) : (bls b).all (·.oneCell') = true := by first | rfl | (unfold bls; simp; done) | kernel_rfl
theorem aggBls : AggT Tryz.prog 109 8 := ⟨by kernel_rfl, by kernel_rfl⟩
@[go_sem ↓] theorem xallocBls (ρ : Operand → Value) (dst : Option Tmp) (ty : TypeId) (pos : String) (after : Array Edge) (guard : Option (Nat × Bool)) (w : World) :
    (execOp ρ ⟨dst, .alloc 109, ty, pos, after, guard⟩).run Tryz.prog w = allocN Tryz.prog 109 w := rfl
@[go_sem] theorem allocBls (w : World) : allocN Tryz.prog 109 w = .ok (.value (.pointer (some ⟨w.heap.size, 0, none⟩))) (w.alloc (.cells (bls fun _ => false) 109)) := allocN_eq _ (by kernel_rfl) w
@[go_sem ↓] theorem xstoreBls (ρ : Operand → Value) (dst : Option Tmp) (a x : Operand) (ty : TypeId) (pos : String) (after : Array Edge) (guard : Option (Nat × Bool)) (w : World) :
    (execOp ρ ⟨dst, .store 109 a x, ty, pos, after, guard⟩).run Tryz.prog w = storeN Tryz.prog 109 (ρ a) (ρ x) w := rfl
@[go_sem] theorem storeBls (w : World) (b off : Nat) (f : Nat → Bool) (h : Has w b (off + 8)) :
    storeN Tryz.prog 109 (.pointer (some ⟨b, off, none⟩)) (.agg (bls f)) w = .ok .skip (w.setRow b (lay (blk w b) off (bls f))) := storeN_at aggBls w b off _ h rfl (bls_cells f)
@[go_sem ↓] theorem buildBls (ρ : Operand → Value) (dst : Option Tmp) (ty : TypeId) (pos : String) (after : Array Edge) (guard : Option (Nat × Bool)) (w : World) :
    (execOp ρ ⟨dst, .build 109 #[], ty, pos, after, guard⟩).run Tryz.prog w = .ok (.value (.agg (bls fun _ => false))) w := by kernel_rfl
/-! ### first places -/
theorem lead_zero (l : Nat → Nat) : bls (fun _ => false) = bls (isLead 0 l) := bls_congr fun _ _ => rfl
theorem lead_step (l : Nat → Nat) (i : Nat) : bls (updb (isLead i l) (l i) true) = bls (isLead (i + 1) l) := bls_congr fun t _ => by
  unfold updb isLead
  rw [List.range_succ, List.any_append]
  by_cases h : t = l i
  · rw [if_pos h]
    have e : (l i == t) = true := by rw [h]; exact beq_self_eq_true _
    simp only [List.any_cons, List.any_nil, e, Bool.true_or, Bool.or_true]
  · rw [if_neg h]
    have e : (l i == t) = false := by rw [beq_eq_false_iff_ne]; exact fun e => h e.symm
    simp only [List.any_cons, List.any_nil, e, Bool.or_false]
theorem lead_lt {p : Int} {n m R : Nat} {g h : Nat → Nat → Int} {l : Nat → Nat} (hp : 2 ≤ p) (r : Red p 8 R h l) (s : SameSpan p 8 m g R h) (hz : ∀ i, i < m → ∀ t, n ≤ t → t < 8 → g i t = 0) : ∀ i, i < R → l i < n := fun i hi => by
  rcases Nat.lt_or_ge (l i) n with h1 | h1
  · exact h1
  · obtain ⟨c, hc⟩ := s.2 i hi
    have h2 := hc (l i) (r.lt i hi)
    rw [r.one i hi, sumTo_zero m fun j hj => by rw [hz j hj _ h1 (r.lt i hi), Int.mul_zero], Int.zero_emod, Int.emod_eq_of_lt (by omega) (by omega)] at h2
    omega
theorem null_closed {p : Int} {n m M : Nat} {g h : Nat → Nat → Int} {v : Nat → Int} (hn : n ≤ 8) (h1 : ∀ j, j < M → NullOf p n m g (h j)) (hv : InSpan p 8 M h v) : NullOf p n m g v := by
  refine ⟨fun i hi => ?_, fun t ht ht8 => ?_⟩
  · rw [dot_comm]
    exact dot_span hn hv fun j hj => by rw [dot_comm]; exact (h1 j hj).1 i hi
  · obtain ⟨c, hc⟩ := hv
    rw [hc t ht8, sum_mod p _ (fun _ => 0) M fun j hj => by show c j * h j t % p = 0 % p; rw [Int.mul_emod, (h1 j hj).2 t ht ht8, Int.mul_zero], sumTo_zero M fun _ _ => rfl]
    simp
/-- the vectors of the places before k that are no first places are there -/
def NulInv (p : Int) (n m : Nat) (g : Nat → Nat → Int) (l : Nat → Nat) (k M : Nat) (h : Nat → Nat → Int) : Prop :=
  M ≤ k ∧ (∀ j, j < M → NullOf p n m g (h j)) ∧ (∀ j, j < M → ∀ t, t < 8 → 0 ≤ h j t ∧ h j t < p) ∧ ∀ q, q < k → (∀ i, i < m → l i ≠ q) → ∃ j, j < M ∧ ∀ t, t < 8 → h j t = nullG p g l q m t
theorem nul_start (p : Int) (n m : Nat) (g : Nat → Nat → Int) (l : Nat → Nat) (h : Nat → Nat → Int) : NulInv p n m g l 0 0 h := ⟨Nat.le_refl _, fun _ h => by omega, fun _ h => by omega, fun _ h => by omega⟩
theorem nul_skip {p : Int} {n m k M : Nat} {g h : Nat → Nat → Int} {l : Nat → Nat} (I : NulInv p n m g l k M h) (hq : isLead m l k = true) : NulInv p n m g l (k + 1) M h := by
  refine ⟨by have := I.1; omega, I.2.1, I.2.2.1, fun q h1 h2 => I.2.2.2 q ?_ h2⟩
  have : q ≠ k := fun e => by
    obtain ⟨i, hi, hl⟩ := lead_iff.1 hq
    exact h2 i hi (by rw [hl, e])
  omega
theorem nul_more {p : Int} {n m k M : Nat} {g h : Nat → Nat → Int} {l : Nat → Nat} (hp : 2 ≤ p) (r : Red p 8 m g l) (hl : ∀ i, i < m → l i < n) (hk : k < n) (hq : isLead m l k = false) (I : NulInv p n m g l k M h) : NulInv p n m g l (k + 1) (M + 1) (addV h M (nullG p g l k m)) := by
  have hno : ∀ i, i < m → l i ≠ k := fun i hi e => by rw [lead_iff.2 ⟨i, hi, e⟩] at hq; cases hq
  refine ⟨Nat.succ_le_succ I.1, fun j hj => ?_, fun j hj t ht => ?_, fun q hq1 hq2 => ?_⟩
  · by_cases e : j < M
    · rw [addV_old e]; exact I.2.1 j e
    · obtain rfl : j = M := by omega
      rw [addV_new]; exact null_mem r hl hk hno
  · by_cases e : j < M
    · rw [addV_old e]; exact I.2.2.1 j e t ht
    · obtain rfl : j = M := by omega
      rw [addV_new]; exact null_range hp m t
  · by_cases e : q = k
    · subst e; exact ⟨M, by omega, fun t _ => by rw [addV_new]⟩
    · obtain ⟨j, hj, h1⟩ := I.2.2.2 q (by omega) hq2
      exact ⟨j, by omega, fun t ht => by rw [addV_old hj]; exact h1 t ht⟩
theorem nul_tells {p : Int} {n m0 m M R : Nat} {g0 g h h' : Nat → Nat → Int} {l l' : Nat → Nat} (hn : n ≤ 8) (s0 : SameSpan p 8 m0 g0 m g) (r : Red p 8 m g l) (hl : ∀ i, i < m → l i < n) (I : NulInv p n m g l n M h) (r' : Red p 8 R h' l') (s : SameSpan p 8 M h R h') : Tells p 8 R h' (NullOf p n m0 g0) :=
  tells_iff (tells_span r' s) fun v => ⟨fun hv => (null_same hn s0 v).2 (null_closed hn I.2.1 hv), fun hv => null_span hn r hl ((null_same hn s0 v).1 hv) fun k hk hno => by
    obtain ⟨j, hj, e⟩ := I.2.2.2 k hk hno
    exact span_congr (span_self hj) fun t ht => by rw [e t ht]⟩
theorem null0 (p : Int) (g : Nat → Nat → Int) (l : Nat → Nat) (k : Nat) : row 8 (ebas k) = row 8 (nullG p g l k 0) := rfl
theorem null1 (p : Int) (g : Nat → Nat → Int) (l : Nat → Nat) (k i : Nat) : row 8 (upd (nullG p g l k i) (l i) (-(g i k) % p)) = row 8 (nullG p g l k (i + 1)) := rfl

set_option maxRecDepth 100000 in
set_option maxHeartbeats 4000000 in
theorem l02Null_any (p : Int) (n : Nat) (B U : Nat) (a : Option Addr) (m c : Nat) (g : Nat → Nat → Int) (w : World) (hp : 0 < p) (hp' : p ≤ 255) (hpr : prime31 p = true) (hn : n ≤ 8) (hm : m ≤ 1000000) (hU : U ≤ w.heap.size) (hBU : B ≤ U) (hv : ∀ i, i < m → ∀ t, t < 8 → 0 ≤ g i t ∧ g i t < p) (hz : ∀ i, i < m → ∀ t, n ≤ t → t < 8 → g i t = 0) (hg : VL w B U a m c g) :
    Calls Tryz.prog 110 #[.int .i64 p, .int .i64 n, .slice a m c] w fun e w' => ∃ a' m' c' g', e = .returned (.slice a' m' c') ∧ Below w.heap.size w w' ∧ VL w' w.heap.size w'.heap.size a' m' c' g' ∧ Tells p 8 m' g' (NullOf p n m g) := by
 have Hpr := Lib.hid hpr; clear hpr
 have Hv := Lib.hid hv; clear hv
 have Hz := Lib.hid hz; clear hz
 go_enter Tryz.func110, Tryz.ntmps110
 go_wp2_with fail
 refine atomC fun W1 e1 => ?_
 have hb1 : Below w.heap.size w W1 := by rw [e1]; exact bt
 have q1 := hb1.size
 have hv2_1 : VL W1 (B) (U) (a) (m) (c) (g) := by rw [e1]; (repeat (first | exact hg | refine VL.alloc ?_ _ | refine VL.drew ?_ | refine VL.setRow ?_ (by omega) _))
 clear e1 hg
 refine (l01Reduce_any p _ _ _ _ _ _ _ hp hp' Hpr.out (by omega) (by omega) (by omega) Hv.out hv2_1).mono ?_; rintro _ W2 ⟨aR_2, mR_2, cR_2, fR_2, rfl, hw2, hvR_2, hr2, hs2⟩
 obtain ⟨hb2, q2⟩ := bN hb1 hw2
 have sz2 := hw2.size
 have hv2_2 := hv2_1.below hw2 (by omega)
 clear hw2 hv2_1 hb1
 obtain ⟨l, hl⟩ := hr2
 have HRed := Lib.hid hl; clear hl
 have HSame := Lib.hid hs2; clear hs2
 have hm8 : mR_2 ≤ 8 := red_le HRed.out
 have HLn : Hid (∀ i, i < mR_2 → l i < n) := Lib.hid (lead_lt (p2_of Hpr.out) HRed.out HSame.out Hz.out)
 go_wp2
 refine atomW fun W3 e3 => ?_
 have hb3 : Below w.heap.size w W3 := by rw [e3]; exact bt
 have q3 := hb3.size
 have R3 : IsRow W3 (W2.heap.size) ∧ IsRow W3 (W2.heap.size + 1) := by rw [e3]; simp [go_sem]
 obtain ⟨r17_3, r9_3⟩ := R3
 have C3 := (⟨congrArg (blk · (W2.heap.size)) e3, congrArg (blk · (W2.heap.size + 1)) e3⟩ : _ ∧ _); simp [go_sem] at C3
 obtain ⟨c17_3, c9_3⟩ := C3
 have z17_3 := isRow_lt r17_3; have z9_3 := isRow_lt r9_3
 have hvO_3 := VL.empty (U := W2.heap.size + 1) (Nat.le_refl _) (by omega) r17_3 c17_3 fun _ _ => 0
 have szO_3 := z17_3
 have hv2_3 : VL W3 (B) (U) (a) (m) (c) (g) := by rw [e3]; exact vtV
 have hvR_3 : VL W3 (W1.heap.size) (W2.heap.size) (aR_2) (mR_2) (cR_2) (fR_2) := by rw [e3]; exact vtV
 have ap2O_3 := apart_range hv2_3 hvO_3 (by omega)
 have apRO_3 := apart_range hvR_3 hvO_3 (by omega)
 clear e3 hv2_2 hvR_2 hb2
 go_loopw [10] (fun s10 wr => ∃ i : Nat, i ≤ mR_2 ∧ s10 = .int .i64 i ∧ Below w.heap.size w wr ∧ (IsRow wr (W2.heap.size + 1) ∧ blk wr (W2.heap.size + 1) = bls (isLead i l)) ∧ VL wr (W1.heap.size) (W2.heap.size) (aR_2) (mR_2) (cR_2) (fR_2) ∧ ((W1.heap.size) ≤ (W2.heap.size) ∧ (W2.heap.size) ≤ wr.heap.size) ∧ VL wr (W2.heap.size) (W2.heap.size + 1) (some ⟨W2.heap.size, 0, none⟩) (0) (0) (fun _ _ => 0) ∧ ((W2.heap.size) ≤ (W2.heap.size + 1) ∧ (W2.heap.size + 1) ≤ wr.heap.size) ∧ ApartV (some ⟨W2.heap.size, 0, none⟩) (aR_2)) (fun s10 _ => mR_2 - (intOf s10).toNat)
 case atStart => exact ⟨0, by omega, rfl, hb3, ⟨r9_3, c9_3.trans (lead_zero l)⟩, hvR_3, (by omega), hvO_3, (by omega), (apart_symm apRO_3)⟩
 case round =>
  obtain ⟨i, hle4, rfl, hb4, ⟨r9_4, c9_4⟩, hvR_4, hUR_4, hvO_4, hUO_4, apOR_4⟩ := hrel
  obtain ⟨W4, rfl⟩ : ∃ W4 : World, W4 = wr := ⟨_, rfl⟩
  have q4 := hb4.size
  have z9_4 := isRow_lt r9_4
  clear r9_3 c9_3 z9_3 hb3 hvR_3 hvO_3 hv2_3
  by_cases hlt4 : i < mR_2
  ·
   obtain ⟨gR_5, FR_5, eaR_5, gBR_5, gUR_5, rRx_5, hcR_5, hmR_5, cRx_5, hFbR_5, hFR_5⟩ := hvR_4.some (by omega)
   subst eaR_5
   have HFR_5 := Lib.hid hFR_5; clear hFR_5
   have HBR_5 := Lib.hid hFbR_5; clear hFbR_5
   have zRx_5 := isRow_lt rRx_5
   have n9_Rx : (W2.heap.size + 1) ≠ (gR_5) := by omega
   have nRx_9 : (gR_5) ≠ (W2.heap.size + 1) := by omega
   have HR1 : Hid (row 8 (fun t => FR_5 (i * 8 + t)) = row 8 (fR_2 i)) := Lib.hid (row_congr fun t ht => HFR_5.out i (by omega) t ht)
   have hrow := HR1.out
   obtain ⟨e1, e2, e3, e4⟩ := ech_row HRed.out.ech hp' (show i < mR_2 by omega)
   have e1i : ((l i : Nat) : Int) < 8 := by omega
   have HE2 := Lib.hid e2; clear e2
   have HE4 := Lib.hid e4; clear e4
   have hc1 : i * 8 + 8 ≤ cR_2 * 8 := by omega
   go_wp2_with fail
   refine (l01First_at (fR_2 i) (l i) _ e1 HE2.out e3).mono ?_; rintro _ W6 ⟨rfl, hw6⟩
   obtain ⟨r9_6, c9_6, z9_6⟩ := keepZ hw6 z9_4 r9_4 c9_4
   obtain ⟨rRx_6, cRx_6, zRx_6⟩ := keepZ hw6 zRx_5 rRx_5 cRx_5
   obtain ⟨hb6, q6⟩ := bN hb4 hw6
   have sz6 := hw6.size
   have hvR_6 := hvR_4.below hw6 (by omega)
   have hvO_6 := hvO_4.below hw6 (by omega)
   clear hw6 hvR_4 hvO_4 r9_4 c9_4 z9_4 rRx_5 cRx_5 zRx_5 hb4
   go_wp2
   go_roundw
   case rel => exact ⟨i + 1, by omega, by go_num, bt, ⟨by simp [go_sem, r9_6, c9_6, n9_Rx, rRx_6, cRx_6, nRx_9], (by first | (rw [blk_setRow _ _ _ _ r9_6, if_pos rfl]; exact lead_step l i) | exact (c9_6).trans (lead_step l i) | (simp [go_sem, r9_6, c9_6, n9_Rx, rRx_6, cRx_6, nRx_9]; exact lead_step l i))⟩, vtV, bu, vtV, bu, apOR_4⟩
   case measure => simp [intOf]; try omega
  ·
   obtain rfl : mR_2 = i := by omega
   go_wp2
   go_loopw [8, 11] (fun s8 s11 wr => ∃ k : Nat, ∃ aO_7 : Option Addr, ∃ cO_7 : Nat, ∃ UO_7 : Nat, ∃ mO_7 : Nat, ∃ fO_7 : Nat → Nat → Int, k ≤ n ∧ s8 = .slice aO_7 (mO_7) cO_7 ∧ s11 = .int .i64 k ∧ Below w.heap.size w wr ∧ (IsRow wr (W2.heap.size + 1) ∧ blk wr (W2.heap.size + 1) = blk W4 (W2.heap.size + 1)) ∧ VL wr (W1.heap.size) (W2.heap.size) (aR_2) (mR_2) (cR_2) (fR_2) ∧ ((W1.heap.size) ≤ (W2.heap.size) ∧ (W2.heap.size) ≤ wr.heap.size) ∧ VL wr (W2.heap.size) (UO_7) (aO_7) (mO_7) (cO_7) (fO_7) ∧ ((W2.heap.size) ≤ (UO_7) ∧ (UO_7) ≤ wr.heap.size) ∧ ApartV (aO_7) (aR_2) ∧ NulInv p n (mR_2) (fR_2) l k (mO_7) (fO_7) ∧ ownB (aO_7) ≠ some (W2.heap.size + 1)) (fun _ s11 _ => n - (intOf s11).toNat)
   case atStart => exact ⟨0, some ⟨W2.heap.size, 0, none⟩, 0, W2.heap.size + 1, 0, fun _ _ => 0, by omega, (by first | rfl | (simp; done) | go_num), rfl, hb4, ⟨r9_4, rfl⟩, hvR_4, (by omega), hvO_4, (by omega), apOR_4, ⟨nul_start _ _ _ _ _ _, by simp [ownB]⟩⟩
   case round =>
    obtain ⟨k, aO_7, cO_7, UO_7, mO_7, fO_7, hle7, rfl, rfl, hb7, ⟨r9_7, c9_7⟩, hvR_7, hUR_7, hvO_7, hUO_7, apOR_7, hx7⟩ := hrel
    obtain ⟨W7, rfl⟩ : ∃ W7 : World, W7 = wr := ⟨_, rfl⟩
    have q7 := hb7.size
    have HX7 := Lib.hid hx7; clear hx7
    have E9_7 := Lib.hid c9_4; replace c9_7 := c9_7.trans c9_4
    have z9_7 := isRow_lt r9_7
    clear r9_4 c9_4 z9_4 hb4 hvR_4 hvO_4
    by_cases hlt7 : k < n
    ·
     have i0_7 : (0 : Int) ≤ (k : Int) := by omega
     have i8_7 : (k : Int) < 8 := by omega
     have k8_7 : k < 8 := by omega
     have m8_7 : k * 8 + 8 ≤ 64 := by omega
     have m64_7 : k * 64 + 64 ≤ 512 := by omega
     have l1_7 : 10 + k * 64 + 64 ≤ 522 := by omega
     cases hq : isLead (mR_2) l k
     ·
      have HXo := HX7
      have hltK := hlt7
      have hMO : mO_7 ≤ k := HX7.out.1.1
      have HNe : ownB (aO_7) ≠ some (W2.heap.size + 1) := HX7.out.2
      have HNb : Hid (Bytes 8 (nullG p (fR_2) l k (mR_2))) := Lib.hid fun t _ => by have := null_range (g := fR_2) (l := l) (k := k) (p2_of Hpr.out) (mR_2) t; omega
      go_wp2_with fail
      refine (l01BasisAt k (by omega) _).mono ?_; rintro _ W8 ⟨rfl, hw8⟩
      obtain ⟨r9_8, c9_8, z9_8⟩ := keepZ hw8 z9_7 r9_7 c9_7
      obtain ⟨hb8, q8⟩ := bN hb7 hw8
      have sz8 := hw8.size
      have hvR_8 := hvR_7.below hw8 (by omega)
      have hvO_8 := hvO_7.below hw8 (by omega)
      clear hw8 hvR_7 hvO_7 r9_7 c9_7 z9_7 hb7
      go_wp2
      have nw9_W8_0 : (W2.heap.size + 1) ≠ W8.heap.size := by omega
      refine atomW fun W9 e9 => ?_
      have hb9 : Below w.heap.size w W9 := by rw [e9]; exact bt
      have q9 := hb9.size
      have R9 : IsRow W9 (W2.heap.size + 1) ∧ IsRow W9 (W8.heap.size) := by rw [e9]; simp [go_sem, r9_8, c9_8, nw9_W8_0]
      obtain ⟨r9_9, r12_9⟩ := R9
      have C9 := (⟨congrArg (blk · (W2.heap.size + 1)) e9, congrArg (blk · (W8.heap.size)) e9⟩ : _ ∧ _); simp [go_sem, r9_8, c9_8, nw9_W8_0] at C9
      obtain ⟨c9_9, c12_9⟩ := C9
      have z9_9 := isRow_lt r9_9; have z12_9 := isRow_lt r12_9
      have n9_12 : (W2.heap.size + 1) ≠ (W8.heap.size) := by omega
      have n12_9 : (W8.heap.size) ≠ (W2.heap.size + 1) := by omega
      have hvR_9 : VL W9 (W1.heap.size) (W2.heap.size) (aR_2) (mR_2) (cR_2) (fR_2) := by rw [e9]; exact vtV
      have hvO_9 : VL W9 (W2.heap.size) (UO_7) (aO_7) (mO_7) (cO_7) (fO_7) := by rw [e9]; exact vtV
      clear e9 nw9_W8_0 r9_8 c9_8 z9_8 hvR_8 hvO_8 hb8
      go_loopw [13] (fun s13 wr => ∃ i : Nat, i ≤ mR_2 ∧ s13 = .int .i64 i ∧ Below w.heap.size w wr ∧ (IsRow wr (W2.heap.size + 1) ∧ blk wr (W2.heap.size + 1) = blk W9 (W2.heap.size + 1)) ∧ (IsRow wr (W8.heap.size) ∧ blk wr (W8.heap.size) = row 8 (nullG p (fR_2) l k i)) ∧ VL wr (W1.heap.size) (W2.heap.size) (aR_2) (mR_2) (cR_2) (fR_2) ∧ ((W1.heap.size) ≤ (W2.heap.size) ∧ (W2.heap.size) ≤ wr.heap.size) ∧ VL wr (W2.heap.size) (UO_7) (aO_7) (mO_7) (cO_7) (fO_7) ∧ ((W2.heap.size) ≤ (UO_7) ∧ (UO_7) ≤ wr.heap.size) ∧ ApartV (aO_7) (aR_2)) (fun s13 _ => mR_2 - (intOf s13).toNat)
      case atStart => exact ⟨0, by omega, rfl, hb9, ⟨r9_9, rfl⟩, ⟨r12_9, c12_9.trans (null0 p (fR_2) l k)⟩, hvR_9, (by omega), hvO_9, (by omega), apOR_7⟩
      case round =>
       obtain ⟨i, hle10, rfl, hb10, ⟨r9_10, c9_10⟩, ⟨r12_10, c12_10⟩, hvR_10, hUR_10, hvO_10, hUO_10, apOR_10⟩ := hrel
       obtain ⟨W10, rfl⟩ : ∃ W10 : World, W10 = wr := ⟨_, rfl⟩
       have q10 := hb10.size
       have E9_10 := Lib.hid c9_9; replace c9_10 := c9_10.trans c9_9
       have z9_10 := isRow_lt r9_10
       have z12_10 := isRow_lt r12_10
       clear r9_9 c9_9 z9_9 r12_9 c12_9 z12_9 hb9 hvR_9 hvO_9
       by_cases hlt10 : i < mR_2
       ·
        obtain ⟨gR_11, FR_11, eaR_11, gBR_11, gUR_11, rRx_11, hcR_11, hmR_11, cRx_11, hFbR_11, hFR_11⟩ := hvR_10.some (by omega)
        subst eaR_11
        have HFR_11 := Lib.hid hFR_11; clear hFR_11
        have HBR_11 := Lib.hid hFbR_11; clear hFbR_11
        have zRx_11 := isRow_lt rRx_11
        have n9_Rx : (W2.heap.size + 1) ≠ (gR_11) := by omega
        have n12_Rx : (W8.heap.size) ≠ (gR_11) := by omega
        have nRx_9 : (gR_11) ≠ (W2.heap.size + 1) := by omega
        have nRx_12 : (gR_11) ≠ (W8.heap.size) := by omega
        have HR1 : Hid (row 8 (fun t => FR_11 (i * 8 + t)) = row 8 (fR_2 i)) := Lib.hid (row_congr fun t ht => HFR_11.out i (by omega) t ht)
        have hrow := HR1.out
        obtain ⟨e1, e2, e3, e4⟩ := ech_row HRed.out.ech hp' (show i < mR_2 by omega)
        have e1i : ((l i : Nat) : Int) < 8 := by omega
        have HE2 := Lib.hid e2; clear e2
        have HE4 := Lib.hid e4; clear e4
        have hc1 : i * 8 + 8 ≤ cR_2 * 8 := by omega
        have hc2 : i * 8 + k < cR_2 * 8 := by omega
        have hb0 : FR_11 (i * 8 + k) = fR_2 i k := HFR_11.out i (by omega) k (by omega)
        have b1 := (HE4.out k (by omega)).1
        have b2 := (HE4.out k (by omega)).2
        have q1 : IntKind.i64.wrap (fR_2 i k) = fR_2 i k := IntWalk.i64_in _ (by omega)
        have q2 : IntKind.i64.wrap (-fR_2 i k) = -fR_2 i k := IntWalk.i64_in _ (by omega)
        go_wp2
        refine wp_quiet_tail 16 (Below W10.heap.size W10) (by kernel_rfl) (by kernel_rfl) (Below.refl _ _).drew ?_
        simp only [List.take_succ_cons, List.take_zero, List.drop_succ_cons, List.drop_zero]
        iterate 4 (refine q_plain rfl ?_; apply Exists.intro; refine ⟨fun W hW => ?_, ?_⟩; (focus (obtain ⟨x9, y9⟩ := keepB hW z9_10 r9_10 c9_10; obtain ⟨x12, y12⟩ := keepB hW z12_10 r12_10 c12_10; obtain ⟨xRx, yRx⟩ := keepB hW zRx_11 rRx_11 cRx_11; go_simp; first | done | rfl)); simp only [Act.put, List.setIfInBounds_toArray, List.set_cons_zero, List.set_cons_succ])
        (refine q_plain rfl ?_; apply Exists.intro; refine ⟨fun W hW => ?_, ?_⟩; (focus (obtain ⟨x9, y9⟩ := keepB hW z9_10 r9_10 c9_10; obtain ⟨x12, y12⟩ := keepB hW z12_10 r12_10 c12_10; obtain ⟨xRx, yRx⟩ := keepB hW zRx_11 rRx_11 cRx_11; go_simp; (go_at_call 80; exact (l01First_at (fR_2 i) (l i) _ e1 HE2.out e3).mono fun e w2 ⟨he, hw2⟩ => ⟨he, hW.trans (hw2.mono hW.size)⟩))); simp only [Act.put, List.setIfInBounds_toArray, List.set_cons_zero, List.set_cons_succ])
        iterate 9 (refine q_plain rfl ?_; apply Exists.intro; refine ⟨fun W hW => ?_, ?_⟩; (focus (obtain ⟨x9, y9⟩ := keepB hW z9_10 r9_10 c9_10; obtain ⟨x12, y12⟩ := keepB hW z12_10 r12_10 c12_10; obtain ⟨xRx, yRx⟩ := keepB hW zRx_11 rRx_11 cRx_11; go_simp; first | done | rfl)); simp only [Act.put, List.setIfInBounds_toArray, List.set_cons_zero, List.set_cons_succ])
        (refine q_plain rfl ?_; apply Exists.intro; refine ⟨fun W hW => ?_, ?_⟩; (focus (obtain ⟨x9, y9⟩ := keepB hW z9_10 r9_10 c9_10; obtain ⟨x12, y12⟩ := keepB hW z12_10 r12_10 c12_10; obtain ⟨xRx, yRx⟩ := keepB hW zRx_11 rRx_11 cRx_11; go_simp; (go_at_call 68; exact (l01Mod_any p (-fR_2 i k) _ hp hp' (by omega) (by omega)).mono fun e w2 ⟨he, hw2⟩ => ⟨he, hw2 ▸ hW⟩))); simp only [Act.put, List.setIfInBounds_toArray, List.set_cons_zero, List.set_cons_succ])
        iterate 1 (refine q_plain rfl ?_; apply Exists.intro; refine ⟨fun W hW => ?_, ?_⟩; (focus (obtain ⟨x9, y9⟩ := keepB hW z9_10 r9_10 c9_10; obtain ⟨x12, y12⟩ := keepB hW z12_10 r12_10 c12_10; obtain ⟨xRx, yRx⟩ := keepB hW zRx_11 rRx_11 cRx_11; go_simp; first | done | rfl)); simp only [Act.put, List.setIfInBounds_toArray, List.set_cons_zero, List.set_cons_succ])
        refine wpQuiet_nil ?_
        intro W12 hw12
        obtain ⟨r9_12, c9_12, z9_12⟩ := keepZ hw12 z9_10 r9_10 c9_10
        obtain ⟨r12_12, c12_12, z12_12⟩ := keepZ hw12 z12_10 r12_10 c12_10
        obtain ⟨rRx_12, cRx_12, zRx_12⟩ := keepZ hw12 zRx_11 rRx_11 cRx_11
        obtain ⟨hb12, q12⟩ := bN hb10 hw12
        have sz12 := hw12.size
        have hvR_12 := hvR_10.below hw12 (by omega)
        have hvO_12 := hvO_10.below hw12 (by omega)
        clear hw12 hvR_10 hvO_10 r9_10 c9_10 z9_10 r12_10 c12_10 z12_10 rRx_11 cRx_11 zRx_11 hb10
        go_wp2
        go_roundw
        case rel => exact ⟨i + 1, by omega, by go_num, bt, ⟨by simp [go_sem, r9_12, c9_12, n9_12, n9_Rx, r12_12, c12_12, n12_9, n12_Rx, rRx_12, cRx_12, nRx_9, nRx_12], (by rw [E9_10.out]; first | exact c9_12 | (simp [go_sem, r9_12, c9_12, n9_12, n9_Rx, r12_12, c12_12, n12_9, n12_Rx, rRx_12, cRx_12, nRx_9, nRx_12]; done))⟩, ⟨by simp [go_sem, r9_12, c9_12, n9_12, n9_Rx, r12_12, c12_12, n12_9, n12_Rx, rRx_12, cRx_12, nRx_9, nRx_12], (by first | (rw [blk_setRow _ _ _ _ r12_12, if_pos rfl]; exact null1 p (fR_2) l k i) | exact (c12_12).trans (null1 p (fR_2) l k i) | (simp [go_sem, r9_12, c9_12, n9_12, n9_Rx, r12_12, c12_12, n12_9, n12_Rx, rRx_12, cRx_12, nRx_9, nRx_12]; exact null1 p (fR_2) l k i))⟩, vtV, bu, vtV, bu, apOR_10⟩
        case measure => simp [intOf]; try omega
       ·
        obtain rfl : mR_2 = i := by omega
        go_wp2_with (at_builtin; refine atomL ?_)
        have nw9_W10_0 : (W2.heap.size + 1) ≠ W10.heap.size := by omega
        intro W13 e13
        have hb13 : Below w.heap.size w W13 := by rw [e13]; exact bt
        have q13 := hb13.size
        have R13 : IsRow W13 (W2.heap.size + 1) ∧ IsRow W13 (W10.heap.size) := by rw [e13]; simp [go_sem, r9_10, c9_10, n9_12, nw9_W10_0, r12_10]
        obtain ⟨r9_13, r65_13⟩ := R13
        have C13 := (⟨congrArg (blk · (W2.heap.size + 1)) e13, congrArg (blk · (W10.heap.size)) e13⟩ : _ ∧ _); simp [go_sem, r9_10, c9_10, n9_12, nw9_W10_0, r12_10] at C13
        obtain ⟨c9_13, c65_13⟩ := C13
        have z9_13 := isRow_lt r9_13; have z65_13 := isRow_lt r65_13
        have n9_65 : (W2.heap.size + 1) ≠ (W10.heap.size) := by omega
        have n65_9 : (W10.heap.size) ≠ (W2.heap.size + 1) := by omega
        have hvR_13 : VL W13 (W1.heap.size) (W2.heap.size) (aR_2) (mR_2) (cR_2) (fR_2) := by rw [e13]; exact vtV
        have hvO_13 : VL W13 (W2.heap.size) (UO_7) (aO_7) (mO_7) (cO_7) (fO_7) := by rw [e13]; exact vtV
        clear e13 nw9_W10_0 r9_10 c9_10 z9_10 hvR_10 hvO_10 hb10
        refine appendV _ rfl _ _ rfl hvO_13 (by omega) (by omega) rfl _ _ (nullG p (fR_2) l k (mR_2)) rfl c65_13 HNb.out ?_
        intro aO_14 cO_14 W14 hg14 ha14 hvO_14
        obtain ⟨r9_14, c9_14⟩ := keepG hg14 (HNe.symm) r9_13 c9_13
        have z9_14 := isRow_lt r9_14
        have hb14 := below_own hb13 hvO_13 hg14 (by omega) (by omega)
        have q14 := hb14.size
        have sz14 := hg14.size
        have hvR_14 := hvR_13.grown hg14 (apart_symm apOR_10)
        have apRO_14 := apart_new (apart_symm apOR_10) hvR_13 (by omega) ha14
        have HN9 : ownB aO_14 ≠ some (W2.heap.size + 1) := by
         rcases ha14 with h | ⟨g9, h, h9⟩
         · rw [h]; exact HNe
         · rw [h]; intro e; have := Option.some.inj e; omega
        clear hg14 ha14 r9_13 c9_13 z9_13 hvR_13 hvO_13 hb13
        go_wp2
        go_roundw
        case rel => exact ⟨k + 1, (aO_14), (cO_14), (W14.heap.size), (mO_7 + 1), (addV (fO_7) (mO_7) (nullG p (fR_2) l k (mR_2))), by omega, (by first | rfl | go_num | (simp; done)), by go_num, bt, ⟨by simp [go_sem, r9_14, c9_14], (by rw [E9_7.out]; first | exact c9_14 | (simp [go_sem, r9_14, c9_14]; done))⟩, vtV, bu, vtV, bu, (apart_symm apRO_14), ⟨nul_more (p2_of Hpr.out) HRed.out HLn.out hltK hq HXo.out.1, HN9⟩⟩
        case measure => simp [intOf]; try omega
     ·
      go_wp2
      go_roundw
      case rel => exact ⟨k + 1, (aO_7), (cO_7), (UO_7), (mO_7), (fO_7), by omega, (by first | rfl | go_num | (simp; done)), by go_num, bt, ⟨by simp [go_sem, r9_7, c9_7], (by rw [E9_7.out]; first | exact c9_7 | (simp [go_sem, r9_7, c9_7]; done))⟩, vtV, bu, vtV, bu, apOR_7, ⟨nul_skip HX7.out.1 hq, HX7.out.2⟩⟩
      case measure => simp [intOf]; try omega
    ·
     obtain rfl : n = k := by omega
     have HXe := HX7
     have hMO : mO_7 ≤ n := HX7.out.1.1
     have HOr : Hid (∀ i, i < mO_7 → ∀ t, t < 8 → 0 ≤ fO_7 i t ∧ fO_7 i t < p) := Lib.hid HX7.out.1.2.2.1
     go_wp2_with fail
     refine (l01Reduce_any p _ _ _ _ _ _ _ hp hp' Hpr.out (by omega) (by omega) (by omega) HOr.out hvO_7).mono ?_; rintro _ W15 ⟨aS_15, mS_15, cS_15, fS_15, rfl, hw15, hvS_15, hr15, hs15⟩
     obtain ⟨hb15, q15⟩ := bN hb7 hw15
     have sz15 := hw15.size
     have hvR_15 := hvR_7.below hw15 (by omega)
     have hvO_15 := hvO_7.below hw15 (by omega)
     clear hw15 hvR_7 hvO_7 hb7
     obtain ⟨l9, hr9⟩ := hr15
     have HT := Lib.hid (nul_tells hn HSame.out HRed.out HLn.out HXe.out.1 hr9 hs15); clear hr9 hs15
     go_wp2_with fail
     go_ret
     exact ⟨_, _, _, _, rfl, bt, (hvS_15).wider (by omega) (by omega), HT.out⟩

/-! ### rows written down one by one -/
def genF (p : Int) (X : Nat → Int) (c : Nat) : Nat → Int := fun t => if t < c then X t % p else 0
theorem gen_zero (p : Int) (X : Nat → Int) : row 8 zf = row 8 (genF p X 0) := row_congr fun t _ => by unfold genF zf; rw [if_neg (by omega)]
theorem gen_step {p y : Int} {X : Nat → Int} {c : Nat} (e : y = X c % p) : row 8 (upd (genF p X c) c y) = row 8 (genF p X (c + 1)) := row_congr fun t _ => by
  unfold upd genF
  by_cases h : t = c
  · subst h; rw [if_pos rfl, if_pos (by omega), e]
  · rw [if_neg h]
    by_cases h2 : t < c
    · rw [if_pos h2, if_pos (by omega)]
    · rw [if_neg h2, if_neg (by omega)]
theorem gen_range {p : Int} (hp : 0 < p) (X : Nat → Int) (c t : Nat) : 0 ≤ genF p X c t ∧ genF p X c t < p := by
  unfold genF
  split
  · exact ⟨Int.emod_nonneg _ (by omega), Int.emod_lt_of_pos _ hp⟩
  · omega
theorem gen_far {p : Int} {X : Nat → Int} {c t : Nat} (h : c ≤ t) : genF p X c t = 0 := if_neg (by omega)
theorem gen_mod {p : Int} {X : Nat → Int} {c t : Nat} (h : t < c) : genF p X c t % p = X t % p := by unfold genF; rw [if_pos h, Int.emod_emod]
/-- the rows A a b for all pairs before i, j are there -/
def PriInv (p : Int) (d : Nat) (A : Nat → Nat → Nat → Int) (i j M : Nat) (h : Nat → Nat → Int) : Prop :=
  M ≤ i * 8 + j ∧ (∀ q, q < M → (∀ t, t < 8 → 0 ≤ h q t ∧ h q t < p) ∧ ∀ t, d ≤ t → t < 8 → h q t = 0) ∧
  ∀ v : Nat → Int, (∀ q, q < M → dotF d v (h q) % p = 0) ↔ ∀ a b, b < d → (a < i ∨ (a = i ∧ b < j)) → dotF d v (A a b) % p = 0
theorem pri_start (p : Int) (d : Nat) (A : Nat → Nat → Nat → Int) (h : Nat → Nat → Int) : PriInv p d A 0 0 0 h := ⟨by omega, fun q hq => by omega, fun v => ⟨fun _ a b _ h => by omega, fun _ q hq => by omega⟩⟩
theorem pri_more {p : Int} {d : Nat} {A : Nat → Nat → Nat → Int} {i j M : Nat} {h : Nat → Nat → Int} (hj : j < d) (hr : ∀ t, t < 8 → 0 ≤ A i j t ∧ A i j t < p) (hz : ∀ t, d ≤ t → t < 8 → A i j t = 0) (I : PriInv p d A i j M h) : PriInv p d A i (j + 1) (M + 1) (addV h M (A i j)) := by
  refine ⟨by have := I.1; omega, fun q hq => ?_, fun v => ⟨fun H a b hb hab => ?_, fun H q hq => ?_⟩⟩
  · by_cases e : q < M
    · rw [addV_old e]; exact I.2.1 q e
    · obtain rfl : q = M := by omega
      rw [addV_new]; exact ⟨hr, hz⟩
  · by_cases e : a = i ∧ b = j
    · obtain ⟨rfl, rfl⟩ := e
      have := H M (by omega)
      rwa [addV_new] at this
    · exact (I.2.2 v).1 (fun q hq => by have := H q (by omega); rwa [addV_old hq] at this) a b hb (by omega)
  · by_cases e : q < M
    · rw [addV_old e]; exact (I.2.2 v).2 (fun a b hb hab => H a b hb (by omega)) q e
    · obtain rfl : q = M := by omega
      rw [addV_new]; exact H i j hj (by omega)
theorem pri_row {p : Int} {d : Nat} {A : Nat → Nat → Nat → Int} {i M : Nat} {h : Nat → Nat → Int} (hd : d ≤ 8) (I : PriInv p d A i d M h) : PriInv p d A (i + 1) 0 M h :=
  ⟨by have := I.1; omega, I.2.1, fun v => (I.2.2 v).trans ⟨fun H a b hb hab => H a b hb (by omega), fun H a b hb hab => H a b hb (by omega)⟩⟩
def AllDot (p : Int) (n d : Nat) (A : Nat → Nat → Nat → Int) (v : Nat → Int) : Prop := (∀ a, a < n → ∀ b, b < d → dotF d v (A a b) % p = 0) ∧ ∀ t, d ≤ t → t < 8 → v t % p = 0
theorem pri_null {p : Int} {n d : Nat} {A : Nat → Nat → Nat → Int} {M : Nat} {h : Nat → Nat → Int} (I : PriInv p d A n 0 M h) (v : Nat → Int) : NullOf p d M h v ↔ AllDot p n d A v :=
  ⟨fun ⟨h1, h2⟩ => ⟨fun a ha b hb => (I.2.2 v).1 h1 a b hb (by omega), h2⟩, fun ⟨h1, h2⟩ => ⟨(I.2.2 v).2 fun a b hb hab => h1 a (by omega) b hb, h2⟩⟩
/-- sums of rows that agree modulo p -/
theorem dot_gen {p : Int} {d : Nat} {v X : Nat → Int} {G : Nat → Int} (e : ∀ i, i < d → G i % p = X i % p) : dotF d v (genF p X d) % p = sumTo (fun i => v i * G i) d % p := by
  unfold dotF
  exact sum_mod p _ _ d fun i hi => emod_mul_congr rfl ((gen_mod hi).trans (e i hi).symm)

end Go.Proofs.YtfmhgfnadgaiaaaGreat
