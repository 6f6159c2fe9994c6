/- Left integrals. -/
import Derived.Test.YtjpdpnplnelgcaaGreatI1
import Derived.Test.YtjpdpnplnelgcaaGreatWit
namespace Go.Proofs.YtjpdpnplnelgcaaGreat
open Go.RowKit
set_option linter.unusedSimpArgs false
set_option linter.unusedVariables false
attribute [local irreducible] wpQuiet wpQE

/-! ### every space of a kernel has a reduced list -/
theorem red_any {p : Int} {N m : Nat} {g0 : Nat → Nat → Int} (hpr : prime31 p = true) (h : ∀ i, i < m → ∀ t, t < N → 0 ≤ g0 i t ∧ g0 i t < p) : ∃ R g l, Red p N R g l ∧ SameSpan p N m g0 R g := by
  have key : ∀ q, q ≤ N → (∃ R g l, Red p N R g l ∧ SameSpan p N m g0 R g) ∨ ∃ r g l, Stage p N m g0 r q g l := by
    intro q
    induction q with
    | zero => exact fun _ => .inr ⟨0, g0, fun _ => 0, stage_start h⟩
    | succ q ih =>
      intro hq
      rcases ih (by omega) with h1 | ⟨r, g, l, st⟩
      · exact .inl h1
      · by_cases hr : r = m
        · obtain ⟨a, b⟩ := stage_end st (.inl hr)
          exact .inl ⟨r, g, l, a, b⟩
        · have := st.le
          by_cases hz : ∀ i, r ≤ i → i < m → g i q = 0
          · exact .inr ⟨r, g, l, stage_skip st (by omega) hz⟩
          · obtain ⟨s, s1, s2, s3, _⟩ := first_row hz
            exact .inr ⟨_, _, _, stage_step' hpr st (by omega) (by omega) s1 s2 s3⟩
  rcases key N (Nat.le_refl _) with h1 | ⟨r, g, l, st⟩
  · exact h1
  · obtain ⟨a, b⟩ := stage_end st (.inr rfl)
    exact ⟨r, g, l, a, b⟩
theorem ker_tells {p : Int} {K m : Nat} {A : Nat → Nat → Int} (hpr : prime31 p = true) (hm : m ≤ 8) (h : ∀ i, i < m → ∀ t, t < K → 0 ≤ A i t ∧ A i t < p) : ∃ R g, Tells p 8 R g (KerOf p K m A) := by
  obtain ⟨R, g, l, r, s⟩ := red_any hpr (mark_range (p2_of hpr) h)
  obtain ⟨a, h1, h2, h3⟩ := lead_cut (N := K) R r.inc
  exact ⟨_, _, mark_kernel r hm s a h1 h2 h3⟩
theorem tel_pos {p : Int} {S : (Nat → Int) → Prop} {t : Nat → Int} {k R : Nat} {g : Nat → Nat → Int} (h : Tells p 8 R g S) (ht : S t) (hk : k < 8) (hne : t k % p ≠ 0) : 0 < telN p S := by
  have h1 := tel_yes h
  rcases Nat.eq_zero_or_pos (telN p S) with e | e
  · exfalso
    rw [e] at h1
    obtain ⟨c, hc⟩ := (h1.2 t).2 ht
    exact hne (by rw [hc k hk]; simp [sumTo])
  · exact e
/-! ### integrals -/
theorem int_tells {p : Int} {n : Nat} {g : Nat → Int} {m : Nat → Nat → Nat → Int} (hpr : prime31 p = true) (hn : n ≤ 8) (hm : ∀ i j k, i < n → j < n → k < 8 → mtab g i j k = m i j k) : ∃ R h, Tells p 8 R h (IntS p n m (coF g)) := by
  have hp : 0 < p := by have := p2_of hpr; omega
  obtain ⟨R, h, hT⟩ := ker_tells (K := 64) (A := fun i => difK p n g (ebas i) n) hpr hn fun i _ t _ => difK_range hp _ _ _ _ t
  exact ⟨R, h, tells_iff hT fun v => int_iff hn hm v⟩
theorem integ_int {p : Int} {n : Nat} {m : Nat → Nat → Nat → Int} {e t : Nat → Int} (h : Integ p n m e t) (hz : ∀ i j k, i < n → j < n → n ≤ k → k < 8 → m i j k = 0) : IntS p n m e t := by
  refine ⟨h.2, fun j hj s hs => ?_⟩
  have e1 : sumTo (fun k => t k * intA p m e j k s) n % p = sumTo (fun k => t k * m j k s + -e j * (t k * ebas k s)) n % p := sum_mod p _ _ n fun k _ => by
    unfold intA
    rw [addm_at8 hs]
    unfold addF
    rw [Int.mul_emod, Int.emod_emod, ← Int.mul_emod, Int.mul_add, Int.mul_left_comm]
  rw [e1, sumTo_add, sumTo_mul]
  by_cases hsn : s < n
  · rw [sumTo_one (g := fun k => t k * ebas k s) (k := s) n hsn fun i _ hi => by unfold ebas upd zf; rw [if_neg (by omega), Int.mul_zero]]
    have := h.1 j s hj hsn
    unfold ebas upd
    rw [if_pos rfl, Int.mul_one, Int.add_emod, this, ← Int.add_emod, Int.neg_mul, Int.add_right_neg]
    simp
  · rw [sumTo_zero n fun k hk => by rw [hz j k s hj hk (by omega) hs, Int.mul_zero], sumTo_zero n fun k hk => by unfold ebas upd zf; rw [if_neg (by omega), Int.mul_zero]]
    simp
def lefS (p : Int) (n : Nat) (f : Nat → Int) : (Nat → Int) → Prop := IntS p n (mtab f) (coF f)
noncomputable def lefG (p : Int) (n : Nat) (f : Nat → Int) : Nat → Int := telG p (lefS p n f) 0
theorem lef_tells {p : Int} {n : Nat} {f : Nat → Int} (hpr : prime31 p = true) (hn : n ≤ 8) : ∃ R h, Tells p 8 R h (lefS p n f) := int_tells hpr hn fun _ _ _ _ _ _ => rfl
/-- what is asked of a Hopf table that the integrals are told of: byte for byte a table, and some integral on both sides -/
structure Intable (p : Int) (n : Nat) (f : Nat → Int) : Prop where
  prime : prime31 p = true
  pos : 0 < n
  le : n ≤ 8
  bytes : Bytes 1104 f
  cou : ∀ i, i < 8 → coF f i < p
  left : 0 < telN p (lefS p n f)
theorem hopf_prime {p : Int} {n : Nat} {f : Nat → Int} (h : hopfB p n f = true) : prime31 p = true := by
  have := hopf_sizes h
  unfold sizesB at this
  simp only [Bool.and_eq_true] at this
  exact this.1
theorem hopf_intable {p : Int} {n : Nat} {f : Nat → Int} (h : hopfB p n f = true) (hF : Bytes 1104 f) : Intable p n f := by
  have o := hopf_facts h
  have hpr := hopf_prime h
  have hz : ∀ i j k, i < n → j < n → n ≤ k → k < 8 → mtab f i j k = 0 := fun i j k hi hj hk hk8 => by
    have := o.hn
    have := (shape_entry o.sh i j k (by omega) (by omega) hk8).2
    omega
  refine ⟨hpr, o.h0, o.hn, hF, fun i hi => (shape_unit o.shc i hi).1, ?_⟩
  · obtain ⟨t, ht, k, hk, hne⟩ := integ_exists (hk_con o) o.h0 o.hp (mtab f) (coF f) (fun _ _ _ => rfl) fun _ => rfl
    obtain ⟨R, g, hT⟩ := lef_tells (f := f) hpr o.hn
    exact tel_pos hT (integ_int ht hz) (by have := o.hn; omega) hne
theorem ifi {P Q : Prop} [Decidable P] [Decidable Q] (h : P ↔ Q) (x : Int) : (if P then x else 0) = if Q then x else 0 := by
  by_cases a : P
  · rw [if_pos a, if_pos (h.1 a)]
  · rw [if_neg a, if_neg fun b => a (h.2 b)]
theorem bytes_528 {f : Nat → Int} (h : Bytes 1104 f) : Bytes 528 f := fun t ht => h t (by omega)

/-! ### by the reference model -/
theorem hop_at8 (p n : Int) (f : Nat → Int) (i j : Nat) (hi : i < 8) (hj : j < 8) : (hop p n f).extract (10 + i * 64 + j * 8) (10 + i * 64 + j * 8 + 8) = row 8 (mtab f i j) := hop_mul8 p n f i j hi hj
theorem mtab_byt {f : Nat → Int} (h : Bytes 520 f) (i j : Nat) (hi : i < 8) (hj : j < 8) : Bytes 8 (mtab f i j) := fun t ht => tab_bytes h (i * 64 + (j * 8 + t)) (by omega)
/-- a slice of n vectors that was made -/
def PostV (n : Nat) (f : Nat → Nat → Int) (W0 : World) (u : Value) (W : World) : Prop := ∃ a c, u = .slice a n c ∧ VL W W0.heap.size W.heap.size a n c f
theorem closed_postV (n : Nat) (f : Nat → Nat → Int) (W0 : World) (u : Value) : Closed (PostV n f W0 u) := fun w w' h hb => by
  obtain ⟨a, c, h1, h2⟩ := h
  exact ⟨a, c, h1, (h2.below hb (Nat.le_refl _)).wider (Nat.le_refl _) hb.size⟩

set_option maxRecDepth 100000 in
set_option maxHeartbeats 1000000 in
theorem leftIntegral_any (p : Int) (n : Nat) (f : Nat → Int) (w : World) (HO : Intable p n f) :
    Calls Tryz.prog 45 #[.agg (hop p n f)] w fun e w' => e = .returned (.agg (row 8 (lefG p n f))) ∧ Below w.heap.size w w' := by
 have hp2 := p2_of HO.prime
 have hp : 0 < p := by omega
 have hp' : p ≤ 255 := by have := HO.prime; unfold prime31 at this; simp only [Bool.and_eq_true, decide_eq_true_eq] at this; omega
 have hn := HO.le
 have hn1 := HO.pos
 have hl0 := HO.left
 have Hpr := Lib.hid HO.prime
 have HF := Lib.hid HO.bytes
 have HCu := Lib.hid HO.cou
 clear HO
 go_enter Tryz.func45, Tryz.ntmps45
 go_wp2_with fail
 refine atomC fun W1 e1 => ?_
 have hb1 : Below w.heap.size w W1 := by rw [e1]; exact bt
 have q1 := hb1.size
 have r2_1 : IsRow W1 (w.heap.size + 1) := by rw [e1]; simp [go_sem]
 have c2_1 := congrArg (fun x => blk x (w.heap.size + 1)) e1; simp [go_sem] at c2_1
 have z2_1 := isRow_lt r2_1
 clear e1
 refine (leftIntegrals_any _ _ _ _).mono ?_; rintro _ W2 ⟨rfl, hw2⟩
 obtain ⟨r2_2, c2_2, z2_2⟩ := keepZ hw2 z2_1 r2_1 c2_1
 obtain ⟨hb2, q2⟩ := bN hb1 hw2
 clear hw2 r2_1 c2_1 z2_1 hb1
 go_wp2_with fail
 have ltK2n3 : (w.heap.size + 1) < W2.heap.size := z2_2
 refine (reduced_any p n f (lefS p n f) _ hp hp' Hpr.out hn1 hn (bytes_528 HF.out) HCu.out (fun v => by have := int_iff (p := p) (g := f) hn (fun _ _ _ _ _ _ => rfl) v; exact this)).mono ?_; rintro _ W3 ⟨aK_3, cK_3, rfl, hw3, hvK_3⟩
 have sz3 := hw3.size
 obtain ⟨r2_3, c2_3, z2_3⟩ := keepZ hw3 z2_2 r2_2 c2_2
 obtain ⟨hb3, q3⟩ := bN hb2 hw3
 clear hw3 r2_2 c2_2 z2_2 hb2
 obtain ⟨gK_4, FK_4, eaK_4, gBK_4, gUK_4, rKx_4, hcK_4, hmK_4, cKx_4, hFbK_4, hFK_4⟩ := hvK_3.some (by omega)
 subst eaK_4
 have HFK_4 := Lib.hid hFK_4; clear hFK_4
 have HBK_4 := Lib.hid hFbK_4; clear hFbK_4
 have zKx_4 := isRow_lt rKx_4
 have n2_Kx : (w.heap.size + 1) ≠ (gK_4) := by omega
 have nKx_2 : (gK_4) ≠ (w.heap.size + 1) := by omega
 have HRK : Hid (row 8 (fun t => FK_4 (0 * 8 + t)) = row 8 (lefG p n f)) := Lib.hid (row_congr fun t ht => HFK_4.out 0 (by omega) t ht)
 have hrk := HRK.out
 simp only [Nat.zero_mul, Nat.zero_add] at hrk
 have hck : 8 ≤ cK_3 * 8 := by have := hcK_4; omega
 have hck1 := row_cut (n := cK_3 * 8) (m := 8) (off := 0) FK_4 (by omega)
 simp only [Nat.zero_add] at hck1
 go_wp2_with fail
 refine bodyPost_ret (result_cell rfl aggVec _ _ (row 8 (lefG p n f)) _ rfl ?_ ?_) rfl ⟨rfl, ?_⟩
 · simp [go_sem, r2_3, c2_3, n2_Kx, rKx_4, cKx_4, nKx_2]
 · simp [go_sem, r2_3, c2_3, n2_Kx, rKx_4, cKx_4, nKx_2]
 · exact bt

set_option maxRecDepth 100000 in
set_option maxHeartbeats 2000000 in
theorem l05lef_any (p : Int) (n : Nat) (f : Nat → Int) (w : World) (HO : Intable p n f) :
    Calls Tryz.prog 72 #[.agg (hop p n f), .bool false] w fun e w' => ∃ a c, e = .returned (.slice a (telN p (lefS p n f)) c) ∧ Below w.heap.size w w' ∧ VL w' w.heap.size w'.heap.size a (telN p (lefS p n f)) c (telG p (lefS p n f)) := by
 have hp2 := p2_of HO.prime
 have hp : 0 < p := by omega
 have hp' : p ≤ 255 := by have := HO.prime; unfold prime31 at this; simp only [Bool.and_eq_true, decide_eq_true_eq] at this; omega
 have hn := HO.le
 have hn1 := HO.pos
 have hl0 := HO.left
 have Hpr := Lib.hid HO.prime
 have HF := Lib.hid HO.bytes
 have HCu := Lib.hid HO.cou
 clear HO
 go_enter Tryz.func72, Tryz.ntmps72
 go_wp2
 refine atomW fun W1 e1 => ?_
 have hb1 : Below w.heap.size w W1 := by rw [e1]; exact bt
 have q1 := hb1.size
 have r2_1 : IsRow W1 (w.heap.size) := by rw [e1]; simp [go_sem]
 have c2_1 := congrArg (fun x => blk x (w.heap.size)) e1; simp [go_sem] at c2_1
 have z2_1 := isRow_lt r2_1
 clear e1
 refine wp_quiet_noisy 6 8 _ (PostV n ebas W1) (by kernel_rfl) rfl rfl (by omega) (by kernel_rfl) (closed_postV _ _ _) ?_
 simp only [List.take_succ_cons, List.take_zero, List.drop_succ_cons, List.drop_zero, List.eraseIdx_cons_succ, List.eraseIdx_cons_zero]
 (refine e_plain rfl ?_; apply Exists.intro; refine ⟨fun D hD hK W hW => ?_, ?_⟩; (focus (obtain ⟨x2, y2⟩ := keepB (hD W hW) z2_1 r2_1 c2_1; unfold Oper.quietAt; go_simp; first | done | rfl)); simp only [Act.put, List.setIfInBounds_toArray, List.set_cons_zero, List.set_cons_succ])
 (refine e_plain rfl ?_; apply Exists.intro; refine ⟨fun D hD hK W hW => ?_, ?_⟩; (focus (obtain ⟨x2, y2⟩ := keepB (hD W hW) z2_1 r2_1 c2_1; unfold Oper.quietAt; go_simp; first | done | rfl)); simp only [Act.put, List.setIfInBounds_toArray, List.set_cons_zero, List.set_cons_succ])
 (refine e_plain rfl ?_; apply Exists.intro; refine ⟨fun D hD hK W hW => ?_, ?_⟩; (focus (obtain ⟨x2, y2⟩ := keepB (hD W hW) z2_1 r2_1 c2_1; unfold Oper.quietAt; go_simp; first | done | rfl)); simp only [Act.put, List.setIfInBounds_toArray, List.set_cons_zero, List.set_cons_succ])
 (refine e_plain rfl ?_; apply Exists.intro; refine ⟨fun D hD hK W hW => ?_, ?_⟩; (focus (obtain ⟨x2, y2⟩ := keepB (hD W hW) z2_1 r2_1 c2_1; unfold Oper.quietAt; go_simp; first | done | rfl)); simp only [Act.put, List.setIfInBounds_toArray, List.set_cons_zero, List.set_cons_succ])
 (refine e_plain rfl ?_; apply Exists.intro; refine ⟨fun D hD hK W hW => ?_, ?_⟩; (focus (obtain ⟨x2, y2⟩ := keepB (hD W hW) z2_1 r2_1 c2_1; unfold Oper.quietAt; go_simp; first | done | rfl)); simp only [Act.put, List.setIfInBounds_toArray, List.set_cons_zero, List.set_cons_succ])
 (refine e_plain rfl ?_; apply Exists.intro; refine ⟨fun D hD hK W hW => ?_, ?_⟩; (focus (obtain ⟨x2, y2⟩ := keepB (hD W hW) z2_1 r2_1 c2_1; unfold Oper.quietAt; go_simp; first | done | rfl)); simp only [Act.put, List.setIfInBounds_toArray, List.set_cons_zero, List.set_cons_succ])
 (refine e_plain rfl ?_; apply Exists.intro; refine ⟨fun D hD hK W hW => ?_, ?_⟩; (focus (obtain ⟨x2, y2⟩ := keepB (hD W hW) z2_1 r2_1 c2_1; unfold Oper.quietAt; go_simp; first | done | rfl)); simp only [Act.put, List.setIfInBounds_toArray, List.set_cons_zero, List.set_cons_succ])
 refine e_nil ?_
 refine ⟨fun W hW => ?_, ?_⟩
 · obtain ⟨x2, y2⟩ := keepB hW z2_1 r2_1 c2_1; go_simp; go_at_call 102; exact (l01Whole_any n _ hn).mono fun e w2 hh => by obtain ⟨a, c, rfl, h2, h3⟩ := hh; exact ⟨_, rfl, h2, a, c, rfl, h3.wider hW.size (Nat.le_refl _)⟩
 intro val2 W2 hw2 hP2
 obtain ⟨aO_2, cO_2, rfl, hvO_2⟩ := hP2
 simp only [Act.put, List.setIfInBounds_toArray, List.set_cons_zero, List.set_cons_succ]
 have ltO2n2 : (w.heap.size) < W1.heap.size := z2_1
 have sz2 := hw2.size
 obtain ⟨r2_2, c2_2, z2_2⟩ := keepZ hw2 z2_1 r2_1 c2_1
 obtain ⟨hb2, q2⟩ := bN hb1 hw2
 clear hw2 r2_1 c2_1 z2_1 hb1
 go_wp2
 go_loopw [7, 8] (fun s7 s8 wr => ∃ i : Nat, ∃ aO_3 : Option Addr, ∃ cO_3 : Nat, ∃ UO_3 : Nat, ∃ mO_3 : Nat, ∃ fO_3 : Nat → Nat → Int, i ≤ n ∧ s7 = .slice aO_3 (mO_3) cO_3 ∧ s8 = .int .i64 i ∧ Below w.heap.size w wr ∧ (IsRow wr (w.heap.size) ∧ blk wr (w.heap.size) = blk W2 (w.heap.size)) ∧ VL wr (W1.heap.size) (UO_3) (aO_3) (mO_3) (cO_3) (fO_3) ∧ ((W1.heap.size) ≤ (UO_3) ∧ (UO_3) ≤ wr.heap.size) ∧ Tells p 8 (mO_3) (fO_3) (AllKer p n (intA p (mtab f) (coF f)) i)) (fun _ s8 _ => n - (intOf s8).toNat)
 case atStart => exact ⟨0, aO_2, cO_2, W2.heap.size, n, ebas, by omega, (by first | rfl | (simp; done) | go_num), rfl, hb2, ⟨r2_2, rfl⟩, hvO_2, (by omega), all_none (whole_tells hp2 hn)⟩
 case round =>
  obtain ⟨i, aO_3, cO_3, UO_3, mO_3, fO_3, hle3, rfl, rfl, hb3, ⟨r2_3, c2_3⟩, hvO_3, hUO_3, hx3⟩ := hrel
  obtain ⟨W3, rfl⟩ : ∃ W3 : World, W3 = wr := ⟨_, rfl⟩
  have q3 := hb3.size
  have HX3 := Lib.hid hx3; clear hx3
  have E2_3 := Lib.hid c2_2; replace c2_3 := c2_3.trans c2_2
  have z2_3 := isRow_lt r2_3
  clear r2_2 c2_2 z2_2 hb2 hvO_2
  by_cases hlt3 : i < n
  ·
   have i0_3 : (0 : Int) ≤ (i : Int) := by omega
   have i8_3 : (i : Int) < 8 := by omega
   have k8_3 : i < 8 := by omega
   have m8_3 : i * 8 + 8 ≤ 64 := by omega
   have m64_3 : i * 64 + 64 ≤ 512 := by omega
   have l1_3 : 10 + i * 64 + 64 ≤ 522 := by omega
   have HXo := HX3
   go_wp2
   have nw2_W3_0 : (w.heap.size) ≠ W3.heap.size := by omega
   refine atomW fun W4 e4 => ?_
   have hb4 : Below w.heap.size w W4 := by rw [e4]; exact bt
   have q4 := hb4.size
   have R4 : IsRow W4 (w.heap.size) ∧ IsRow W4 (W3.heap.size) := by rw [e4]; simp [go_sem, r2_3, c2_3, nw2_W3_0]
   obtain ⟨r2_4, r9_4⟩ := R4
   have C4 := (⟨congrArg (blk · (w.heap.size)) e4, congrArg (blk · (W3.heap.size)) e4⟩ : _ ∧ _); simp [go_sem, r2_3, c2_3, nw2_W3_0] at C4
   obtain ⟨c2_4, c9_4⟩ := C4
   have z2_4 := isRow_lt r2_4; have z9_4 := isRow_lt r9_4
   have n2_9 : (w.heap.size) ≠ (W3.heap.size) := by omega
   have n9_2 : (W3.heap.size) ≠ (w.heap.size) := by omega
   have hvO_4 : VL W4 (W1.heap.size) (UO_3) (aO_3) (mO_3) (cO_3) (fO_3) := by rw [e4]; exact vtV
   clear e4 nw2_W3_0 r2_3 c2_3 z2_3 hvO_3 hb3
   go_loopw [10] (fun s10 wr => ∃ k : Nat, k ≤ n ∧ s10 = .int .i64 k ∧ Below w.heap.size w wr ∧ (IsRow wr (w.heap.size) ∧ blk wr (w.heap.size) = blk W4 (w.heap.size)) ∧ (IsRow wr (W3.heap.size) ∧ blk wr (W3.heap.size) = row 64 (rowsK (intA p (mtab f) (coF f) i) k)) ∧ VL wr (W1.heap.size) (UO_3) (aO_3) (mO_3) (cO_3) (fO_3) ∧ ((W1.heap.size) ≤ (UO_3) ∧ (UO_3) ≤ wr.heap.size)) (fun s10 _ => n - (intOf s10).toNat)
   case atStart => exact ⟨0, by omega, rfl, hb4, ⟨r2_4, rfl⟩, ⟨r9_4, c9_4.trans (rows_zero _)⟩, hvO_4, (by omega)⟩
   case round =>
    obtain ⟨k, hle5, rfl, hb5, ⟨r2_5, c2_5⟩, ⟨r9_5, c9_5⟩, hvO_5, hUO_5⟩ := hrel
    obtain ⟨W5, rfl⟩ : ∃ W5 : World, W5 = wr := ⟨_, rfl⟩
    have q5 := hb5.size
    have E2_5 := Lib.hid c2_4; replace c2_5 := c2_5.trans c2_4
    have z2_5 := isRow_lt r2_5
    have z9_5 := isRow_lt r9_5
    clear r2_4 c2_4 z2_4 r9_4 c9_4 z9_4 hb4 hvO_4
    by_cases hlt5 : k < n
    ·
     have i0_5 : (0 : Int) ≤ (k : Int) := by omega
     have i8_5 : (k : Int) < 8 := by omega
     have k8_5 : k < 8 := by omega
     have m8_5 : k * 8 + 8 ≤ 64 := by omega
     have m64_5 : k * 64 + 64 ≤ 512 := by omega
     have l1_5 : 10 + k * 64 + 64 ≤ 522 := by omega
     have l2_5i : 10 + i * 64 + k * 8 + 8 ≤ 522 := by omega
     have l3_5i : 10 + k * 64 + i * 8 + 8 ≤ 522 := by omega
     have l4_5i : i * 64 + k * 8 + 8 ≤ 512 := by omega
     have l5_5i : k * 64 + i * 8 + 8 ≤ 512 := by omega
     have l6_5i : i * 8 + k < 64 := by omega
     have l7_5i : k * 8 + i < 64 := by omega
     have hbd1 : 10 + i * 64 + k * 8 + 8 ≤ 1106 := by omega
     have hbd2 : 10 + k * 64 + i * 8 + 8 ≤ 1106 := by omega
     have hm1 := hop_at8 p n f i k (by omega) (by omega)
     have hm2 := hop_at8 p n f k i (by omega) (by omega)
     have HB1 : Hid (Bytes 8 (mtab f i k)) := Lib.hid (mtab_byt (hop_bytes HF.out) _ _ (by omega) (by omega))
     have hce := HCu.out i (by omega)
     have hce0 := (co_unit HF.out i (by omega)).1
     have hcq := hop_cq p n f i (by omega)
     have hcw := fun h => hop_ce p n f i (by omega) h
     have q0 : IntKind.i64.wrap (coF f i) = coF f i := IntWalk.i64_in _ (by omega)
     have q1 : IntKind.i64.wrap (-coF f i) = -coF f i := IntWalk.i64_in _ (by omega)
     go_wp2
     have nw2_W5_0 : (w.heap.size) ≠ W5.heap.size := by omega
     have nw9_W5_0 : (W3.heap.size) ≠ W5.heap.size := by omega
     refine atomW fun W6 e6 => ?_
     have hb6 : Below w.heap.size w W6 := by rw [e6]; exact bt
     have q6 := hb6.size
     have R6 : IsRow W6 (w.heap.size) ∧ IsRow W6 (W3.heap.size) ∧ IsRow W6 (W5.heap.size) := by rw [e6]; simp [go_sem, r2_5, c2_5, n2_9, r9_5, c9_5, n9_2, nw2_W5_0, nw9_W5_0]
     obtain ⟨r2_6, r9_6, r11_6⟩ := R6
     have C6 := (⟨congrArg (blk · (w.heap.size)) e6, congrArg (blk · (W3.heap.size)) e6, congrArg (blk · (W5.heap.size)) e6⟩ : _ ∧ _ ∧ _); simp [go_sem, r2_5, c2_5, n2_9, r9_5, c9_5, n9_2, nw2_W5_0, nw9_W5_0] at C6
     obtain ⟨c2_6, c9_6, c11_6⟩ := C6
     have z2_6 := isRow_lt r2_6; have z9_6 := isRow_lt r9_6; have z11_6 := isRow_lt r11_6
     have n2_11 : (w.heap.size) ≠ (W5.heap.size) := by omega
     have n9_11 : (W3.heap.size) ≠ (W5.heap.size) := by omega
     have n11_2 : (W5.heap.size) ≠ (w.heap.size) := by omega
     have n11_9 : (W5.heap.size) ≠ (W3.heap.size) := by omega
     have hvO_6 : VL W6 (W1.heap.size) (UO_3) (aO_3) (mO_3) (cO_3) (fO_3) := by rw [e6]; exact vtV
     clear e6 nw2_W5_0 nw9_W5_0 r2_5 c2_5 z2_5 r9_5 c9_5 z9_5 hvO_5 hb5
     refine wp_quiet_tail 13 (Below W6.heap.size W6) (by kernel_rfl) (by kernel_rfl) (Below.refl _ _).drew ?_
     simp only [List.take_succ_cons, List.take_zero, List.drop_succ_cons, List.drop_zero]
     iterate 4 (refine q_plain rfl ?_; apply Exists.intro; refine ⟨fun W hW => ?_, ?_⟩; (focus (obtain ⟨x2, y2⟩ := keepB hW z2_6 r2_6 c2_6; obtain ⟨x9, y9⟩ := keepB hW z9_6 r9_6 c9_6; obtain ⟨x11, y11⟩ := keepB hW z11_6 r11_6 c11_6; go_simp; first | done | rfl)); simp only [Act.put, List.setIfInBounds_toArray, List.set_cons_zero, List.set_cons_succ])
     (refine q_plain rfl ?_; apply Exists.intro; refine ⟨fun W hW => ?_, ?_⟩; (focus (obtain ⟨x2, y2⟩ := keepB hW z2_6 r2_6 c2_6; obtain ⟨x9, y9⟩ := keepB hW z9_6 r9_6 c9_6; obtain ⟨x11, y11⟩ := keepB hW z11_6 r11_6 c11_6; go_simp; (go_at_call 80; exact (l01BasisAt k (by omega) _).mono fun e w2 ⟨he, hw2⟩ => ⟨he, hW.trans (hw2.mono hW.size)⟩))); simp only [Act.put, List.setIfInBounds_toArray, List.set_cons_zero, List.set_cons_succ])
     iterate 6 (refine q_plain rfl ?_; apply Exists.intro; refine ⟨fun W hW => ?_, ?_⟩; (focus (obtain ⟨x2, y2⟩ := keepB hW z2_6 r2_6 c2_6; obtain ⟨x9, y9⟩ := keepB hW z9_6 r9_6 c9_6; obtain ⟨x11, y11⟩ := keepB hW z11_6 r11_6 c11_6; go_simp; first | done | rfl)); simp only [Act.put, List.setIfInBounds_toArray, List.set_cons_zero, List.set_cons_succ])
     (refine q_plain rfl ?_; apply Exists.intro; refine ⟨fun W hW => ?_, ?_⟩; (focus (obtain ⟨x2, y2⟩ := keepB hW z2_6 r2_6 c2_6; obtain ⟨x9, y9⟩ := keepB hW z9_6 r9_6 c9_6; obtain ⟨x11, y11⟩ := keepB hW z11_6 r11_6 c11_6; go_simp; (go_at_call 57; exact (l01Add_any _ _ _ _ _ hp hp' (by omega) (by omega) HB1.out (ebas_bytes k)).mono fun e w2 ⟨he, hw2⟩ => ⟨he, hW.trans (hw2.mono hW.size)⟩))); simp only [Act.put, List.setIfInBounds_toArray, List.set_cons_zero, List.set_cons_succ])
     iterate 1 (refine q_plain rfl ?_; apply Exists.intro; refine ⟨fun W hW => ?_, ?_⟩; (focus (obtain ⟨x2, y2⟩ := keepB hW z2_6 r2_6 c2_6; obtain ⟨x9, y9⟩ := keepB hW z9_6 r9_6 c9_6; obtain ⟨x11, y11⟩ := keepB hW z11_6 r11_6 c11_6; go_simp; first | done | rfl)); simp only [Act.put, List.setIfInBounds_toArray, List.set_cons_zero, List.set_cons_succ])
     refine wpQuiet_nil ?_
     intro W7 hw7
     obtain ⟨r2_7, c2_7, z2_7⟩ := keepZ hw7 z2_6 r2_6 c2_6
     obtain ⟨r9_7, c9_7, z9_7⟩ := keepZ hw7 z9_6 r9_6 c9_6
     obtain ⟨r11_7, c11_7, z11_7⟩ := keepZ hw7 z11_6 r11_6 c11_6
     obtain ⟨hb7, q7⟩ := bN hb6 hw7
     have sz7 := hw7.size
     have hvO_7 := hvO_6.below hw7 (by omega)
     clear hw7 hvO_6 r2_6 c2_6 z2_6 r9_6 c9_6 z9_6 r11_6 c11_6 z11_6 hb6
     go_wp2
     go_roundw
     case rel => exact ⟨k + 1, by omega, by go_num, bt, ⟨by simp [go_sem, r2_7, c2_7, n2_9, n2_11, r9_7, c9_7, n9_2, n9_11, r11_7, c11_7, n11_2, n11_9], (by rw [E2_5.out]; first | exact c2_7 | (simp [go_sem, r2_7, c2_7, n2_9, n2_11, r9_7, c9_7, n9_2, n9_11, r11_7, c11_7, n11_2, n11_9]; done))⟩, ⟨by simp [go_sem, r2_7, c2_7, n2_9, n2_11, r9_7, c9_7, n9_2, n9_11, r11_7, c11_7, n11_2, n11_9], (by first | (rw [blk_setRow _ _ _ _ r9_7, if_pos rfl]; exact rows_set (intA p (mtab f) (coF f) i) k (by omega)) | exact (c9_7).trans (rows_set (intA p (mtab f) (coF f) i) k (by omega)) | (simp [go_sem, r2_7, c2_7, n2_9, n2_11, r9_7, c9_7, n9_2, n9_11, r11_7, c11_7, n11_2, n11_9]; exact rows_set (intA p (mtab f) (coF f) i) k (by omega)))⟩, vtV, bu⟩
     case measure => simp [intOf]; try omega
    ·
     obtain rfl : n = k := by omega
     have HRR : Hid (∀ t, t < 64 → 0 ≤ rowsK (intA p (mtab f) (coF f) i) n t ∧ rowsK (intA p (mtab f) (coF f) i) n t < p) := Lib.hid (rows_range hp (Nat.le_refl _) fun k hk t ht => addm8_range hp _ _ _ t ht)
     go_wp2_with fail
     have ltK2n8 : (w.heap.size) < W5.heap.size := z2_5
     refine (l01Kernel_any p n (rowsK (intA p (mtab f) (coF f) i) n) _ hp hp' Hpr.out hn HRR.out).mono ?_; rintro _ W8 ⟨aK_8, mK_8, cK_8, fK_8, rfl, hw8, hvK_8, hT8⟩
     obtain ⟨r2_8, c2_8, z2_8⟩ := keepZ hw8 z2_5 r2_5 c2_5
     obtain ⟨hb8, q8⟩ := bN hb5 hw8
     have sz8 := hw8.size
     have hvO_8 := hvO_5.below hw8 (by omega)
     clear hw8 hvO_5 r2_5 c2_5 z2_5 hb5
     have HT := Lib.hid (ker_of_rows hn (fun k hk t ht => rows_at hk ht) hT8); clear hT8
     obtain ⟨lK, hlK⟩ := HT.out.1
     have HlK := Lib.hid hlK; clear hlK
     go_wp2_with fail
     have ltO2n9 : (w.heap.size) < W8.heap.size := z2_8
     refine (l01Meet_any p _ _ _ _ _ (fO_3) _ _ _ _ _ (fK_8) lK _ hp hp' Hpr.out (tells_le HXo.out) (by omega) (by omega) (by omega) (by omega) (tells_rng HXo.out) hvO_8 hvK_8 HlK.out).mono ?_; rintro _ W9 ⟨aO_9, mO_9, cO_9, fO_9, rfl, hw9, hvO_9, hT9⟩
     obtain ⟨r2_9, c2_9, z2_9⟩ := keepZ hw9 z2_8 r2_8 c2_8
     obtain ⟨hb9, q9⟩ := bN hb8 hw9
     have sz9 := hw9.size
     have hvK_9 := hvK_8.below hw9 (by omega)
     clear hw9 hvK_8 r2_8 c2_8 z2_8 hb8
     have HTm := Lib.hid hT9; clear hT9
     go_wp2
     go_roundw
     case rel => exact ⟨i + 1, (aO_9), (cO_9), (W9.heap.size), (mO_9), (fO_9), by omega, (by first | rfl | go_num | (simp; done)), by go_num, bt, ⟨by simp [go_sem, r2_9, c2_9, n2_9], (by rw [E2_3.out]; first | exact c2_9 | (simp [go_sem, r2_9, c2_9, n2_9]; done))⟩, (hvO_9).wider (by omega) (Nat.le_refl _), bu, all_more HXo.out HT.out HTm.out⟩
     case measure => simp [intOf]; try omega
  ·
   obtain rfl : n = i := by omega
   have HE := Lib.hid (tel_of hp2 HX3.out)
   go_wp2_with fail
   go_ret
   exact ⟨aO_3, cO_3, by rw [HE.out.1]; rfl, bt, ((hvO_3).same HE.out.1 HE.out.2).wider (by omega) (by omega)⟩

set_option maxRecDepth 100000 in
set_option maxHeartbeats 1000000 in
theorem l05Left_lef (p : Int) (n : Nat) (f : Nat → Int) (w : World) (HO : Intable p n f) :
    Calls Tryz.prog 40 #[.agg (hop p n f), .bool false] w fun e w' => e = .returned (.agg (row 8 (lefG p n f))) ∧ Below w.heap.size w w' := by
 have hl0 := HO.left
 have HO1 := Lib.hid HO; clear HO
 have hk0 : (((telN p (lefS p n f) : Nat) : Int) == 0) = false := by simp; omega
 go_enter Tryz.func40, Tryz.ntmps40
 go_wp2_with fail
 refine atomC fun W1 e1 => ?_
 have hb1 : Below w.heap.size w W1 := by rw [e1]; exact bt
 have q1 := hb1.size
 have r4_1 : IsRow W1 (w.heap.size + 1) := by rw [e1]; simp [go_sem]
 have c4_1 := congrArg (fun x => blk x (w.heap.size + 1)) e1; simp [go_sem] at c4_1
 have z4_1 := isRow_lt r4_1
 clear e1
 have ltK4n2 : (w.heap.size + 1) < W1.heap.size := z4_1
 refine (l05lef_any p n f _ HO1.out).mono ?_; rintro _ W2 ⟨aK_2, cK_2, rfl, hw2, hvK_2⟩
 have sz2 := hw2.size
 obtain ⟨r4_2, c4_2, z4_2⟩ := keepZ hw2 z4_1 r4_1 c4_1
 obtain ⟨hb2, q2⟩ := bN hb1 hw2
 clear hw2 r4_1 c4_1 z4_1 hb1
 obtain ⟨gK_3, FK_3, eaK_3, gBK_3, gUK_3, rKx_3, hcK_3, hmK_3, cKx_3, hFbK_3, hFK_3⟩ := hvK_2.some (by omega)
 subst eaK_3
 have HFK_3 := Lib.hid hFK_3; clear hFK_3
 have HBK_3 := Lib.hid hFbK_3; clear hFbK_3
 have zKx_3 := isRow_lt rKx_3
 have n4_Kx : (w.heap.size + 1) ≠ (gK_3) := by omega
 have nKx_4 : (gK_3) ≠ (w.heap.size + 1) := by omega
 have HRK : Hid (row 8 (fun t => FK_3 (0 * 8 + t)) = row 8 (lefG p n f)) := Lib.hid (row_congr fun t ht => HFK_3.out 0 (by omega) t ht)
 have hrk := HRK.out
 simp only [Nat.zero_mul, Nat.zero_add] at hrk
 have hck : 8 ≤ cK_2 * 8 := by have := hcK_3; omega
 have hck1 := row_cut (n := cK_2 * 8) (m := 8) (off := 0) FK_3 (by omega)
 simp only [Nat.zero_add] at hck1
 go_wp2_with fail
 refine bodyPost_ret (result_cell rfl aggVec _ _ (row 8 (lefG p n f)) _ rfl ?_ ?_) rfl ⟨rfl, ?_⟩
 · simp [go_sem, r4_2, c4_2, n4_Kx, rKx_3, cKx_3, nKx_4]
 · simp [go_sem, r4_2, c4_2, n4_Kx, rKx_3, cKx_3, nKx_4]
 · exact bt

end Go.Proofs.YtjpdpnplnelgcaaGreat
