/- Submodules of vectors, by both programs, and the law. -/
import Derived.Test.YtjmmmggnbndolaaGreatN5
import Derived.Test.YtjmmmggnbndolaaGreatRegionF
namespace Go.Proofs.YtjmmmggnbndolaaGreat
open Go.RowKit
set_option linter.unusedSimpArgs false
set_option linter.unusedVariables false
attribute [local irreducible] wpQuiet wpQE

theorem one_vec (p d : Int) (v : Nat → Int) : allV p d 1 (nth v) = vecB p d v := by
  show (vecB p d (nth v 0) && true) = _
  rw [Bool.and_true, nth_zero]
theorem one_vec' (p d : Int) (v : Nat → Int) : allV p d 1 (fun _ => v) = vecB p d v := by
  show (vecB p d v && true) = _
  rw [Bool.and_true]
theorem hm1_sizes {p n : Int} {f : Nat → Int} {d : Int} {F : Nat → Int} (hc : hm1 p n f d F = true) : sizesB p d = true := by
  have hh := (hm1_parts hc).1
  have hm := (hm1_parts hc).2
  have hs := hopf_sizes hh
  obtain ⟨_, _, hn1, _⟩ := sizes_range hs
  obtain ⟨n, rfl⟩ := Int.eq_ofNat_of_zero_le (show 0 ≤ n by omega)
  rw [Int.toNat_natCast] at hm
  exact modB_sizes hs hm
theorem VL.one {w : World} {b : Nat} {v : Nat → Int} (hr : IsRow w b) (hc : blk w b = row 8 v) (hv : Bytes 8 v) : VL w b (b + 1) (Option.some ⟨b, 0, none⟩) 1 1 (fun _ => v) :=
  .inr ⟨b, v, rfl, Nat.le_refl _, by omega, hr, Nat.le_refl _, by unfold maxLen; omega, hc, hv, fun i hi t ht => by rw [show i * 8 + t = t by omega]⟩
/-- e(i) v by the tables -/
def asG (p : Int) (d : Nat) (F v : Nat → Int) : Nat → Nat → Int := fun i => appF p d (act F i) v
theorem asG_range {p : Int} (hp : 0 < p) (d : Nat) (F v : Nat → Int) (m : Nat) : ∀ k, k < m → ∀ t, t < 8 → 0 ≤ asG p d F v k t ∧ asG p d F v k t < p := fun k _ t _ => mod_range _ p hp
theorem spA_at {p : Int} {n d : Nat} {F v : Nat → Int} (hS : ModS p n d F) (hd : d ≤ 8) {i t : Nat} (hi : i < 8) (ht : t < 8) : spA p d F v i t = asG p d F v i t := by
  unfold spA asG appF
  refine congrArg (· % p) ?_
  rw [sumTo_more (n := d) (fun a h1 h2 => by dsimp only; rw [actT_low h1 ht, Int.mul_zero]) hd]
  exact sumTo_congr d fun a ha => by dsimp only; rw [actT_basis hS hd hi ha ht]
/-- the Unit leads each vector to itself -/
theorem unit_acts {p : Int} {n d : Nat} {f F v : Nat → Int} (hm : modB p n f d F = true) (hd : d ≤ 8) (hv : ∀ t, d ≤ t → t < 8 → v t = 0) (t : Nat) (ht : t < 8) : v t % p = sumTo (fun i => f i * asG p d F v i t) n % p := by
  have hrow : ∀ k, k < d → segEq 0 8 (timesF p d (act F) f (ebas k) n) (ebas k) = true := fun k hk => by
    unfold modB actsB at hm
    rw [Bool.and_eq_true, Int.toNat_natCast] at hm
    have := all_get hm.2 k hk
    unfold rowE at this
    rw [Bool.and_eq_true] at this
    exact this.1
  have e1 : ∀ k, k < d → sumTo (fun i => f i * act F i k t) n % p = ebas k t % p := fun k hk => by
    have h := (segEq_iff 0 8 _ _).1 (hrow k hk) t ht
    rw [Nat.zero_add] at h
    rw [← h]
    unfold timesF
    rw [Int.emod_emod]
    refine sum_mod p _ _ n fun i _ => emod_mul_congr rfl ?_
    unfold appF
    rw [Int.emod_emod, sumTo_one (k := k) d hk fun a _ ha => by unfold ebas upd zf; rw [if_neg ha, Int.zero_mul]]
    unfold ebas upd
    rw [if_pos rfl, Int.one_mul]
  have e2 : sumTo (fun i => f i * asG p d F v i t) n % p = sumTo (fun k => v k * sumTo (fun i => f i * act F i k t) n) d % p := by
    rw [sum_mod p _ (fun i => sumTo (fun k => v k * (f i * act F i k t)) d) n fun i _ => ?_, sumTo_swap]
    · exact congrArg (· % p) (sumTo_congr d fun k _ => sumTo_mul _ _ _)
    · unfold asG appF
      rw [emod_mul_congr (a := f i) rfl (Int.emod_emod _ _), ← sumTo_mul]
      exact congrArg (· % p) (sumTo_congr d fun k _ => by simp only [Int.mul_assoc, Int.mul_comm, Int.mul_left_comm])
  rw [e2, sum_mod p _ (fun k => v k * ebas k t) d fun k hk => emod_mul_congr rfl (e1 k hk)]
  by_cases h : t < d
  · rw [sumTo_one (k := t) d h fun a _ ha => by unfold ebas upd zf; rw [if_neg (fun e => ha e.symm), Int.mul_zero]]
    unfold ebas upd
    rw [if_pos rfl, Int.mul_one]
  · rw [hv t (by omega) ht, sumTo_zero d fun a ha => by unfold ebas upd zf; rw [if_neg (by omega), Int.mul_zero]]
theorem sub_same {p : Int} {n d : Nat} {f F v : Nat → Int} (hm : modB p n f d F = true) (hS : ModS p n d F) (hn : n ≤ 8) (hd : d ≤ 8) (hv : ∀ t, d ≤ t → t < 8 → v t = 0) : SameSpan p 8 (1 + n * 1) (spG p d F 1 fun _ => v) n (asG p d F v) := by
  refine ⟨fun k hk => ?_, fun i hi => ?_⟩
  · by_cases h : k < 1
    · unfold spG
      rw [if_pos h]
      exact ⟨f, fun t ht => unit_acts hm hd hv t ht⟩
    · unfold spG
      rw [if_neg h, Nat.div_one]
      exact span_congr (span_self (k := k - 1) (by omega)) fun t ht => by rw [spA_at hS hd (by omega) ht]
  · refine span_congr (span_self (k := i + 1) (by omega)) fun t ht => ?_
    unfold spG
    rw [if_neg (by omega), Nat.div_one, Nat.add_sub_cancel, spA_at hS hd (by omega) ht]
noncomputable def smN (p n : Int) (f : Nat → Int) (d : Int) (F v : Nat → Int) : Nat := match (hm1 p n f d F && vecB p d v) with | true => sgN p n.toNat (asG p d.toNat F v) | false => 0
noncomputable def smG (p n : Int) (d : Int) (F v : Nat → Int) : Nat → Nat → Int := sgG p n.toNat (asG p d.toNat F v)
theorem sm_yes {p n : Int} {f : Nat → Int} {d : Int} {F v : Nat → Int} (h : (hm1 p n f d F && vecB p d v) = true) : smN p n f d F v = sgN p n.toNat (asG p d.toNat F v) := by unfold smN; rw [h]
theorem sm_no {p n : Int} {f : Nat → Int} {d : Int} {F v : Nat → Int} (h : (hm1 p n f d F && vecB p d v) = false) : smN p n f d F v = 0 := by unfold smN; rw [h]
theorem sm_le (p n : Int) (f : Nat → Int) (d : Int) (F v : Nat → Int) : smN p n f d F v ≤ 8 := by
  unfold smN
  split
  · exact sg_le _ _ _
  · omega
theorem sg_zero {p : Int} (h2 : 2 ≤ p) (A : Nat → Nat → Int) : sgN p 0 A = 0 := (sg_of h2 (m := 0) (g := A) (h := A) ⟨⟨_, red_none⟩, same_none⟩).1.symm
theorem l01Put_sg (p : Int) (B U : Nat) (a : Option Addr) (c i : Nat) (A : Nat → Nat → Int) (w : World) (hp : 0 < p) (hp' : p ≤ 255) (hpr : prime31 p = true) (hU : U ≤ w.heap.size) (hBU : B ≤ U) (hA : ∀ k, k < i + 1 → ∀ t, t < 8 → 0 ≤ A k t ∧ A k t < p) (hg : VL w B U a (sgN p i A) c (sgG p i A)) :
    Calls Tryz.prog 32 #[.int .i64 p, .slice a (sgN p i A) c, .agg (row 8 (A i))] w fun e w' => ∃ a c, e = .returned (.slice a (sgN p (i + 1) A) c) ∧ Below w.heap.size w w' ∧ VL w' B w'.heap.size a (sgN p (i + 1) A) c (sgG p (i + 1) A) := by
  obtain ⟨⟨l, hl⟩, hS⟩ := sg_yes hpr (m := i) (g := A) fun k hk => hA k (by omega)
  refine (l01Put_any p (A i) B U a _ c _ l w hp hp' hpr hU hBU (hA i (by omega)) hg hl).mono fun e w' hh => ?_
  obtain ⟨a', m', c', g', rfl, h2, h3, h4, h5⟩ := hh
  obtain ⟨e1, e2⟩ := sg_of (p2of hpr) ⟨h4, same_trans snoc_succ (same_trans (snoc_congr hS) h5)⟩
  exact ⟨a', c', by rw [e1], h2, h3.same e1 e2⟩

set_option maxRecDepth 100000 in
set_option maxHeartbeats 2000000 in
theorem l06Vectors_any (p n : Int) (f : Nat → Int) (d : Int) (F : Nat → Int) (B U : Nat) (a : Option Addr) (m c : Nat) (g : Nat → Nat → Int) (w : World) (hf : Bytes 1104 f) (hF : Bytes 512 F) (hm : m ≤ 1000000) (hU : U ≤ w.heap.size) (hBU : B ≤ U) (hL : VL w B U a m c g) :
    Calls Tryz.prog 31 #[.agg (hop p n f), .agg (mdl d F), .slice a m c] w fun e w' => e = .returned (.int .i64 (codeB (hm1 p n f d F && allV p d m g))) ∧ Below w.heap.size w w' := by
 have Hf := Lib.hid hf; clear hf
 have HF := Lib.hid hF; clear hF
 have HGB : Hid (∀ i, i < m → Bytes 8 (g i)) := Lib.hid (VL.vbytes hL)
 cases hc : hm1 p n f d F
 ·
  have hc1 : codeB false = 1 := rfl
  go_enter Tryz.func31, Tryz.ntmps31
  go_wp2_with fail
  refine atomC fun W1 e1 => ?_
  have hb1 : Below w.heap.size w W1 := by rw [e1]; exact bt
  have q1 := hb1.size
  have R1 : IsRow W1 (w.heap.size) ∧ IsRow W1 (w.heap.size + 1) ∧ IsRow W1 (w.heap.size + 2) := by rw [e1]; simp [go_sem]
  obtain ⟨r3_1, r4_1, r11_1⟩ := R1
  have C1 := (⟨congrArg (blk · (w.heap.size)) e1, congrArg (blk · (w.heap.size + 1)) e1, congrArg (blk · (w.heap.size + 2)) e1⟩ : _ ∧ _ ∧ _); simp [go_sem] at C1
  obtain ⟨c3_1, c4_1, c11_1⟩ := C1
  have z3_1 := isRow_lt r3_1; have z4_1 := isRow_lt r4_1; have z11_1 := isRow_lt r11_1
  have hvL_1 : VL W1 (B) (U) (a) (m) (c) (g) := by rw [e1]; (repeat (first | exact hL | refine VL.alloc ?_ _ | refine VL.drew ?_ | refine VL.setRow ?_ (by omega) _))
  clear e1 hL
  refine (code1 p n f d F _ _ Hf.out HF.out r11_1 c11_1).mono ?_; rintro _ W2 ⟨rfl, hw2⟩
  obtain ⟨r3_2, c3_2, z3_2⟩ := keepZ hw2 z3_1 r3_1 c3_1
  obtain ⟨r4_2, c4_2, z4_2⟩ := keepZ hw2 z4_1 r4_1 c4_1
  obtain ⟨r11_2, c11_2, z11_2⟩ := keepZ hw2 z11_1 r11_1 c11_1
  obtain ⟨hb2, q2⟩ := bN hb1 hw2
  have sz2 := hw2.size
  have hvL_2 := hvL_1.below hw2 (by omega)
  clear hw2 hvL_1 r3_1 c3_1 z3_1 r4_1 c4_1 z4_1 r11_1 c11_1 z11_1 hb1
  go_wp2_with fail
  go_ret
  exact ⟨ret_int (by rfl), bt⟩
 ·
  have hc1 : codeB true = 0 := rfl
  go_enter Tryz.func31, Tryz.ntmps31
  go_wp2_with fail
  refine atomC fun W3 e3 => ?_
  have hb3 : Below w.heap.size w W3 := by rw [e3]; exact bt
  have q3 := hb3.size
  have R3 : IsRow W3 (w.heap.size) ∧ IsRow W3 (w.heap.size + 1) ∧ IsRow W3 (w.heap.size + 2) := by rw [e3]; simp [go_sem]
  obtain ⟨r3_3, r4_3, r11_3⟩ := R3
  have C3 := (⟨congrArg (blk · (w.heap.size)) e3, congrArg (blk · (w.heap.size + 1)) e3, congrArg (blk · (w.heap.size + 2)) e3⟩ : _ ∧ _ ∧ _); simp [go_sem] at C3
  obtain ⟨c3_3, c4_3, c11_3⟩ := C3
  have z3_3 := isRow_lt r3_3; have z4_3 := isRow_lt r4_3; have z11_3 := isRow_lt r11_3
  have hvL_3 : VL W3 (B) (U) (a) (m) (c) (g) := by rw [e3]; (repeat (first | exact hL | refine VL.alloc ?_ _ | refine VL.drew ?_ | refine VL.setRow ?_ (by omega) _))
  clear e3 hL
  refine (code1 p n f d F _ _ Hf.out HF.out r11_3 c11_3).mono ?_; rintro _ W4 ⟨rfl, hw4⟩
  obtain ⟨r3_4, c3_4, z3_4⟩ := keepZ hw4 z3_3 r3_3 c3_3
  obtain ⟨r4_4, c4_4, z4_4⟩ := keepZ hw4 z4_3 r4_3 c4_3
  obtain ⟨r11_4, c11_4, z11_4⟩ := keepZ hw4 z11_3 r11_3 c11_3
  obtain ⟨hb4, q4⟩ := bN hb3 hw4
  have sz4 := hw4.size
  have hvL_4 := hvL_3.below hw4 (by omega)
  clear hw4 hvL_3 r3_3 c3_3 z3_3 r4_3 c4_3 z4_3 r11_3 c11_3 z11_3 hb3
  go_wp2
  go_loopw [8] (fun s8 wr => ∃ i : Nat, i ≤ m ∧ s8 = .int .i64 i ∧ Below w.heap.size w wr ∧ (IsRow wr (w.heap.size) ∧ blk wr (w.heap.size) = blk W4 (w.heap.size)) ∧ (IsRow wr (w.heap.size + 1) ∧ blk wr (w.heap.size + 1) = blk W4 (w.heap.size + 1)) ∧ VL wr (B) (U) (a) (m) (c) (g) ∧ ((B) ≤ (U) ∧ (U) ≤ wr.heap.size) ∧ ∀ x, x < i → vecB p d (g x) = true) (fun s8 _ => m - (intOf s8).toNat)
  case atStart => exact ⟨0, by omega, rfl, hb4, ⟨r3_4, rfl⟩, ⟨r4_4, rfl⟩, hvL_4, (by omega), fun x hx => by omega⟩
  case round =>
   obtain ⟨i, hle5, rfl, hb5, ⟨r3_5, c3_5⟩, ⟨r4_5, c4_5⟩, hvL_5, hUL_5, hx5⟩ := hrel
   obtain ⟨W5, rfl⟩ : ∃ W5 : World, W5 = wr := ⟨_, rfl⟩
   have q5 := hb5.size
   have HX5 := Lib.hid hx5; clear hx5
   have E3_5 := Lib.hid c3_4; replace c3_5 := c3_5.trans c3_4
   have z3_5 := isRow_lt r3_5
   have E4_5 := Lib.hid c4_4; replace c4_5 := c4_5.trans c4_4
   have z4_5 := isRow_lt r4_5
   clear r3_4 c3_4 z3_4 r4_4 c4_4 z4_4 hb4 hvL_4
   by_cases hlt5 : i < m
   ·
    cases hv : vecB p d (g i)
    ·
     obtain ⟨gL_6, FL_6, eaL_6, gBL_6, gUL_6, rLx_6, hcL_6, hmL_6, cLx_6, hFbL_6, hFL_6⟩ := hvL_5.some (by omega)
     cases eaL_6
     have HFL_6 := Lib.hid hFL_6; clear hFL_6
     have HBL_6 := Lib.hid hFbL_6; clear hFbL_6
     have zLx_6 := isRow_lt rLx_6
     have n3_Lx : (w.heap.size) ≠ (gL_6) := by omega
     have n4_Lx : (w.heap.size + 1) ≠ (gL_6) := by omega
     have nLx_3 : (gL_6) ≠ (w.heap.size) := by omega
     have nLx_4 : (gL_6) ≠ (w.heap.size + 1) := by omega
     have HRW : Hid (row 8 (fun t => FL_6 (i * 8 + t)) = row 8 (g i)) := Lib.hid (row_congr fun t ht => HFL_6.out i (by omega) t ht)
     have hrow := HRW.out
     have HGi : Hid (Bytes 8 (g i)) := Lib.hid (HGB.out i hlt5)
     have hc1 : i * 8 + 8 ≤ c * 8 := by omega
     have H : Hid (allV p d m g = false) := Lib.hid (all_no (q := fun i => vecB p d (g i)) i m hlt5 hv)
     go_wp2
     refine wp_quiet_all (Below W5.heap.size W5) (by kernel_rfl) (by kernel_rfl) (Below.refl _ _).drew ?_
     iterate 8 (refine q_plain rfl ?_; apply Exists.intro; refine ⟨fun W hW => ?_, ?_⟩; (focus (obtain ⟨x3, y3⟩ := keepB hW z3_5 r3_5 c3_5; obtain ⟨x4, y4⟩ := keepB hW z4_5 r4_5 c4_5; obtain ⟨xLx, yLx⟩ := keepB hW zLx_6 rLx_6 cLx_6; go_simp; first | done | rfl)); simp only [Act.put, List.setIfInBounds_toArray, List.set_cons_zero, List.set_cons_succ])
     (refine q_plain rfl ?_; apply Exists.intro; refine ⟨fun W hW => ?_, ?_⟩; (focus (obtain ⟨x3, y3⟩ := keepB hW z3_5 r3_5 c3_5; obtain ⟨x4, y4⟩ := keepB hW z4_5 r4_5 c4_5; obtain ⟨xLx, yLx⟩ := keepB hW zLx_6 rLx_6 cLx_6; go_simp; (go_at_call 64; exact (l01Vector_any p d (g i) _ HGi.out).mono fun e w2 ⟨he, hw2⟩ => ⟨he, hW.trans (hw2.mono hW.size)⟩))); simp only [Act.put, List.setIfInBounds_toArray, List.set_cons_zero, List.set_cons_succ])
     iterate 1 (refine q_plain rfl ?_; apply Exists.intro; refine ⟨fun W hW => ?_, ?_⟩; (focus (obtain ⟨x3, y3⟩ := keepB hW z3_5 r3_5 c3_5; obtain ⟨x4, y4⟩ := keepB hW z4_5 r4_5 c4_5; obtain ⟨xLx, yLx⟩ := keepB hW zLx_6 rLx_6 cLx_6; go_simp; first | done | rfl)); simp only [Act.put, List.setIfInBounds_toArray, List.set_cons_zero, List.set_cons_succ])
     refine wpQuiet_nil ?_
     intro W7 hw7
     obtain ⟨r3_7, c3_7, z3_7⟩ := keepZ hw7 z3_5 r3_5 c3_5
     obtain ⟨r4_7, c4_7, z4_7⟩ := keepZ hw7 z4_5 r4_5 c4_5
     obtain ⟨rLx_7, cLx_7, zLx_7⟩ := keepZ hw7 zLx_6 rLx_6 cLx_6
     obtain ⟨hb7, q7⟩ := bN hb5 hw7
     have sz7 := hw7.size
     have hvL_7 := hvL_5.below hw7 (by omega)
     clear hw7 hvL_5 r3_5 c3_5 z3_5 r4_5 c4_5 z4_5 rLx_6 cLx_6 zLx_6 hb5
     go_wp2_with fail
     go_ret
     exact ⟨ret_int (by rw [H.out]; rfl), bt⟩
    ·
     obtain ⟨gL_8, FL_8, eaL_8, gBL_8, gUL_8, rLx_8, hcL_8, hmL_8, cLx_8, hFbL_8, hFL_8⟩ := hvL_5.some (by omega)
     cases eaL_8
     have HFL_8 := Lib.hid hFL_8; clear hFL_8
     have HBL_8 := Lib.hid hFbL_8; clear hFbL_8
     have zLx_8 := isRow_lt rLx_8
     have n3_Lx : (w.heap.size) ≠ (gL_8) := by omega
     have n4_Lx : (w.heap.size + 1) ≠ (gL_8) := by omega
     have nLx_3 : (gL_8) ≠ (w.heap.size) := by omega
     have nLx_4 : (gL_8) ≠ (w.heap.size + 1) := by omega
     have HRW : Hid (row 8 (fun t => FL_8 (i * 8 + t)) = row 8 (g i)) := Lib.hid (row_congr fun t ht => HFL_8.out i (by omega) t ht)
     have hrow := HRW.out
     have HGi : Hid (Bytes 8 (g i)) := Lib.hid (HGB.out i hlt5)
     have hc1 : i * 8 + 8 ≤ c * 8 := by omega
     have H := Lib.hid (upto_more (q := fun i => vecB p d (g i)) HX5.out hv)
     go_wp2
     refine wp_quiet_all (Below W5.heap.size W5) (by kernel_rfl) (by kernel_rfl) (Below.refl _ _).drew ?_
     iterate 8 (refine q_plain rfl ?_; apply Exists.intro; refine ⟨fun W hW => ?_, ?_⟩; (focus (obtain ⟨x3, y3⟩ := keepB hW z3_5 r3_5 c3_5; obtain ⟨x4, y4⟩ := keepB hW z4_5 r4_5 c4_5; obtain ⟨xLx, yLx⟩ := keepB hW zLx_8 rLx_8 cLx_8; go_simp; first | done | rfl)); simp only [Act.put, List.setIfInBounds_toArray, List.set_cons_zero, List.set_cons_succ])
     (refine q_plain rfl ?_; apply Exists.intro; refine ⟨fun W hW => ?_, ?_⟩; (focus (obtain ⟨x3, y3⟩ := keepB hW z3_5 r3_5 c3_5; obtain ⟨x4, y4⟩ := keepB hW z4_5 r4_5 c4_5; obtain ⟨xLx, yLx⟩ := keepB hW zLx_8 rLx_8 cLx_8; go_simp; (go_at_call 64; exact (l01Vector_any p d (g i) _ HGi.out).mono fun e w2 ⟨he, hw2⟩ => ⟨he, hW.trans (hw2.mono hW.size)⟩))); simp only [Act.put, List.setIfInBounds_toArray, List.set_cons_zero, List.set_cons_succ])
     iterate 1 (refine q_plain rfl ?_; apply Exists.intro; refine ⟨fun W hW => ?_, ?_⟩; (focus (obtain ⟨x3, y3⟩ := keepB hW z3_5 r3_5 c3_5; obtain ⟨x4, y4⟩ := keepB hW z4_5 r4_5 c4_5; obtain ⟨xLx, yLx⟩ := keepB hW zLx_8 rLx_8 cLx_8; go_simp; first | done | rfl)); simp only [Act.put, List.setIfInBounds_toArray, List.set_cons_zero, List.set_cons_succ])
     refine wpQuiet_nil ?_
     intro W9 hw9
     obtain ⟨r3_9, c3_9, z3_9⟩ := keepZ hw9 z3_5 r3_5 c3_5
     obtain ⟨r4_9, c4_9, z4_9⟩ := keepZ hw9 z4_5 r4_5 c4_5
     obtain ⟨rLx_9, cLx_9, zLx_9⟩ := keepZ hw9 zLx_8 rLx_8 cLx_8
     obtain ⟨hb9, q9⟩ := bN hb5 hw9
     have sz9 := hw9.size
     have hvL_9 := hvL_5.below hw9 (by omega)
     clear hw9 hvL_5 r3_5 c3_5 z3_5 r4_5 c4_5 z4_5 rLx_8 cLx_8 zLx_8 hb5
     go_wp2
     go_roundw
     case rel => exact ⟨i + 1, by omega, by go_num, bt, ⟨by simp [go_sem, r3_9, c3_9, n3_Lx, r4_9, c4_9, n4_Lx, rLx_9, cLx_9, nLx_3, nLx_4], (by rw [E3_5.out]; first | exact c3_9 | (simp [go_sem, r3_9, c3_9, n3_Lx, r4_9, c4_9, n4_Lx, rLx_9, cLx_9, nLx_3, nLx_4]; done))⟩, ⟨by simp [go_sem, r3_9, c3_9, n3_Lx, r4_9, c4_9, n4_Lx, rLx_9, cLx_9, nLx_3, nLx_4], (by rw [E4_5.out]; first | exact c4_9 | (simp [go_sem, r3_9, c3_9, n3_Lx, r4_9, c4_9, n4_Lx, rLx_9, cLx_9, nLx_3, nLx_4]; done))⟩, vtV, bu, H.out⟩
     case measure => simp [intOf]; try omega
   ·
    obtain rfl : m = i := by omega
    have H : Hid (allV p d m g = true) := Lib.hid (all_yes (q := fun i => vecB p d (g i)) m HX5.out)
    go_wp2_with fail
    go_ret
    exact ⟨ret_int (by rw [H.out]; rfl), bt⟩

set_option maxRecDepth 100000 in
set_option maxHeartbeats 1000000 in
theorem implSubmodule_any (p n : Int) (f : Nat → Int) (d : Int) (F v : Nat → Int) (w : World) (hf : Bytes 1104 f) (hF : Bytes 512 F) (hv : Bytes 8 v) :
    Calls Tryz.prog 13 #[.agg (hop p n f), .agg (mdl d F), .agg (row 8 v)] w fun e w' => ∃ a c, e = .returned (.tuple #[.slice a (smN p n f d F v) c, .int .i64 (codeB (hm1 p n f d F && vecB p d v))]) ∧ Below w.heap.size w w' ∧ VL w' w.heap.size w'.heap.size a (smN p n f d F v) c (smG p n d F v) := by
  have Hf := Lib.hid hf; clear hf
  have HF := Lib.hid hF; clear hF
  have Hv := Lib.hid hv; clear hv
  cases hm : ((sizesB p d && allV p d 1 (nth v)) && hm1 p n f d F)
  · skip
    have hok : (hm1 p n f d F && vecB p d v) = false := by
      cases hc : hm1 p n f d F
      · rfl
      · rw [hc, Bool.and_true, one_vec, hm1_sizes hc, Bool.true_and] at hm
        rw [hm]; rfl
    have HN := Lib.hid (sm_no hok)
    have HO := Lib.hid hok
    go_enter Tryz.func13, Tryz.ntmps13
    go_wp2_with fail
    refine atomC fun W1 e1 => ?_
    have hb1 : Below w.heap.size w W1 := by rw [e1]; exact bt
    have q1 := hb1.size
    have R1 : IsRow W1 (w.heap.size) ∧ IsRow W1 (w.heap.size + 1) ∧ IsRow W1 (w.heap.size + 2) ∧ IsRow W1 (w.heap.size + 3) := by rw [e1]; simp [go_sem]
    obtain ⟨r3_1, r4_1, r5_1, r11_1⟩ := R1
    have C1 := (⟨congrArg (blk · (w.heap.size)) e1, congrArg (blk · (w.heap.size + 1)) e1, congrArg (blk · (w.heap.size + 2)) e1, congrArg (blk · (w.heap.size + 3)) e1⟩ : _ ∧ _ ∧ _ ∧ _); simp [go_sem] at C1
    obtain ⟨c3_1, c4_1, c5_1, c11_1⟩ := C1
    have z3_1 := isRow_lt r3_1; have z4_1 := isRow_lt r4_1; have z5_1 := isRow_lt r5_1; have z11_1 := isRow_lt r11_1
    clear e1
    refine (isModuleWith_any p n f d F _ 0 1 1 (nth v) _ Hf.out HF.out (by omega) r11_1 (vecs1 c11_1 Hv.out)).mono ?_; rintro _ W2 ⟨rfl, hw2⟩
    obtain ⟨r3_2, c3_2, z3_2⟩ := keepZ hw2 z3_1 r3_1 c3_1
    obtain ⟨r4_2, c4_2, z4_2⟩ := keepZ hw2 z4_1 r4_1 c4_1
    obtain ⟨r5_2, c5_2, z5_2⟩ := keepZ hw2 z5_1 r5_1 c5_1
    obtain ⟨r11_2, c11_2, z11_2⟩ := keepZ hw2 z11_1 r11_1 c11_1
    obtain ⟨hb2, q2⟩ := bN hb1 hw2
    clear hw2 r3_1 c3_1 z3_1 r4_1 c4_1 z4_1 r5_1 c5_1 z5_1 r11_1 c11_1 z11_1 hb1
    go_wp2_with fail
    go_ret2
    exact ⟨none, 0, by first | (rw [HN.out, HO.out]; rfl) | (rw [HN.out]; rfl), bt, VL.nilOf (HN.out)⟩
  · skip
    have hok : (hm1 p n f d F && vecB p d v) = true := by
      have h2 := hm
      rw [Bool.and_eq_true, Bool.and_eq_true, one_vec] at h2
      rw [h2.2, h2.1.2]; rfl
    have HO := Lib.hid hok
    have hy2 := sm_yes hok
    have hok2 := hok
    rw [Bool.and_eq_true] at hok2
    obtain ⟨hc, hvv⟩ := hok2
    have hh := (hm1_parts hc).1
    have hmm := (hm1_parts hc).2
    obtain ⟨hp2, hp31, hn1, hn8⟩ := sizes_range (hopf_sizes hh)
    obtain ⟨n, rfl⟩ := Int.eq_ofNat_of_zero_le (show 0 ≤ n by omega)
    have hp : 0 < p := by omega
    have hp' : p ≤ 255 := by omega
    have hn : n ≤ 8 := by omega
    have HH := Lib.hid hh
    rw [Int.toNat_natCast] at hmm
    obtain ⟨_, _, hd1, hd8⟩ := sizes_range (modB_sizes (hopf_sizes hh) hmm)
    obtain ⟨d, rfl⟩ := Int.eq_ofNat_of_zero_le (show 0 ≤ d by omega)
    have hd : d ≤ 8 := by omega
    have HS := Lib.hid (modB_shape HF.out hmm)
    clear hmm hh
    have hmm2 := (hm1_parts hc).2
    rw [Int.toNat_natCast] at hmm2
    have HMod := Lib.hid hmm2
    clear hmm2
    have Hpr : Hid (prime31 p = true) := Lib.hid (by have hsz := hopf_sizes HH.out; unfold sizesB at hsz; simp only [Bool.and_eq_true] at hsz; exact hsz.1)
    simp only [Int.toNat_natCast] at hy2
    have HY := Lib.hid hy2; clear hy2
    have HVz : Hid (∀ t, d ≤ t → t < 8 → v t = 0) := Lib.hid fun t h1 h2 => by have := ((vecB_iff p d v).1 hvv t h2).2; omega
    have HVr : Hid (∀ i, i < 1 → ∀ t, t < 8 → 0 ≤ v t ∧ v t < p) := Lib.hid fun i _ t ht => ⟨(Hv.out t ht).1, ((vecB_iff p d v).1 hvv t ht).1⟩
    have HSm := Lib.hid (sub_same (v := v) HMod.out HS.out hn hd HVz.out)
    have HE := Lib.hid (sg_same Hpr.out (spG_range hp (d := d) (F := F) (m := 1) (g := fun _ => v) HVr.out (1 + n * 1)) HSm.out)
    have HE1 : Hid (sgN p (1 + n) (spG p d F 1 fun _ => v) = sgN p n (asG p d F v)) := Lib.hid (by have := HE.out.1; rw [Nat.mul_one] at this; exact this)
    have HAr := Lib.hid (asG_range hp d F v)
    have x1 := hm1_sizes hc
    have x2 : allV p d 1 (nth v) = true := by rw [one_vec]; exact hvv
    go_enter Tryz.func13, Tryz.ntmps13
    go_wp2_with fail
    refine atomC fun W3 e3 => ?_
    have hb3 : Below w.heap.size w W3 := by rw [e3]; exact bt
    have q3 := hb3.size
    have R3 : IsRow W3 (w.heap.size) ∧ IsRow W3 (w.heap.size + 1) ∧ IsRow W3 (w.heap.size + 2) ∧ IsRow W3 (w.heap.size + 3) := by rw [e3]; simp [go_sem]
    obtain ⟨r3_3, r4_3, r5_3, r11_3⟩ := R3
    have C3 := (⟨congrArg (blk · (w.heap.size)) e3, congrArg (blk · (w.heap.size + 1)) e3, congrArg (blk · (w.heap.size + 2)) e3, congrArg (blk · (w.heap.size + 3)) e3⟩ : _ ∧ _ ∧ _ ∧ _); simp [go_sem] at C3
    obtain ⟨c3_3, c4_3, c5_3, c11_3⟩ := C3
    have z3_3 := isRow_lt r3_3; have z4_3 := isRow_lt r4_3; have z5_3 := isRow_lt r5_3; have z11_3 := isRow_lt r11_3
    clear e3
    refine (isModuleWith_any p n f d F _ 0 1 1 (nth v) _ Hf.out HF.out (by omega) r11_3 (vecs1 c11_3 Hv.out)).mono ?_; rintro _ W4 ⟨rfl, hw4⟩
    obtain ⟨r3_4, c3_4, z3_4⟩ := keepZ hw4 z3_3 r3_3 c3_3
    obtain ⟨r4_4, c4_4, z4_4⟩ := keepZ hw4 z4_3 r4_3 c4_3
    obtain ⟨r5_4, c5_4, z5_4⟩ := keepZ hw4 z5_3 r5_3 c5_3
    obtain ⟨r11_4, c11_4, z11_4⟩ := keepZ hw4 z11_3 r11_3 c11_3
    obtain ⟨hb4, q4⟩ := bN hb3 hw4
    clear hw4 r3_3 c3_3 z3_3 r4_3 c4_3 z4_3 r5_3 c5_3 z5_3 r11_3 c11_3 z11_3 hb3
    go_wp2_with fail
    refine atomC fun W5 e5 => ?_
    have hb5 : Below w.heap.size w W5 := by rw [e5]; exact bt
    have q5 := hb5.size
    have r18_5 : IsRow W5 (W4.heap.size) := by rw [e5]; simp [go_sem, r3_4, r4_4, r5_4, r11_4]
    have c18_5 := congrArg (fun x => blk x (W4.heap.size)) e5; simp [go_sem, r3_4, r4_4, r5_4, r11_4] at c18_5
    have z18_5 := isRow_lt r18_5
    clear e5 hb4
    have ltK18n6 : (W4.heap.size) < W5.heap.size := z18_5
    refine (spread_any p n d f F _ _ _ 1 1 (fun _ => v) _ hp hp' hn hd Hf.out HF.out Hpr.out (by omega) (by omega) (by omega) (by omega) (by omega) HVr.out (VL.one r18_5 c18_5 Hv.out)).mono ?_; rintro _ W6 ⟨aK_6, cK_6, rfl, hw6, hvK_6⟩
    have sz6 := hw6.size
    obtain ⟨r18_6, c18_6, z18_6⟩ := keepZ hw6 z18_5 r18_5 c18_5
    obtain ⟨hb6, q6⟩ := bN hb5 hw6
    clear hw6 r18_5 c18_5 z18_5 hb5
    go_wp2_with fail
    go_ret2
    exact ⟨aK_6, cK_6, by first | (rw [HY.out, HO.out, HE1.out]; rfl) | (rw [HY.out, HE1.out]; rfl) | (rw [HY.out, HO.out, HE.out.1]; rfl), bt, ((hvK_6).same (HE.out.1.trans HY.out.symm) HE.out.2).wider (by omega) (by omega)⟩

set_option maxRecDepth 100000 in
set_option maxHeartbeats 4000000 in
theorem specSubmodule_any (p n : Int) (f : Nat → Int) (d : Int) (F v : Nat → Int) (w : World) (hf : Bytes 1104 f) (hF : Bytes 512 F) (hv : Bytes 8 v) :
    Calls Tryz.prog 9 #[.agg (hop p n f), .agg (mdl d F), .agg (row 8 v)] w fun e w' => ∃ a c, e = .returned (.tuple #[.slice a (smN p n f d F v) c, .int .i64 (codeB (hm1 p n f d F && vecB p d v))]) ∧ Below w.heap.size w w' ∧ VL w' w.heap.size w'.heap.size a (smN p n f d F v) c (smG p n d F v) := by
 have Hf := Lib.hid hf; clear hf
 have HF := Lib.hid hF; clear hF
 have Hv := Lib.hid hv; clear hv
 cases hok : (hm1 p n f d F && vecB p d v)
 ·
  have HN := Lib.hid (sm_no hok)
  have HO := Lib.hid hok
  have hal : (hm1 p n f d F && allV p d 1 fun _ => v) = false := by rw [one_vec']; exact hok
  have hc1 : codeB false = 1 := rfl
  go_enter Tryz.func9, Tryz.ntmps9
  go_wp2_with fail
  refine atomC fun W1 e1 => ?_
  have hb1 : Below w.heap.size w W1 := by rw [e1]; exact bt
  have q1 := hb1.size
  have R1 : IsRow W1 (w.heap.size) ∧ IsRow W1 (w.heap.size + 1) ∧ IsRow W1 (w.heap.size + 2) ∧ IsRow W1 (w.heap.size + 3) := by rw [e1]; simp [go_sem]
  obtain ⟨r3_1, r4_1, r5_1, r14_1⟩ := R1
  have C1 := (⟨congrArg (blk · (w.heap.size)) e1, congrArg (blk · (w.heap.size + 1)) e1, congrArg (blk · (w.heap.size + 2)) e1, congrArg (blk · (w.heap.size + 3)) e1⟩ : _ ∧ _ ∧ _ ∧ _); simp [go_sem] at C1
  obtain ⟨c3_1, c4_1, c5_1, c14_1⟩ := C1
  have z3_1 := isRow_lt r3_1; have z4_1 := isRow_lt r4_1; have z5_1 := isRow_lt r5_1; have z14_1 := isRow_lt r14_1
  clear e1
  refine (l06Vectors_any p n f d F _ _ _ 1 1 (fun _ => v) _ Hf.out HF.out (by omega) (by omega) (by omega) (VL.one r14_1 c14_1 Hv.out)).mono ?_; rintro _ W2 ⟨rfl, hw2⟩
  obtain ⟨r3_2, c3_2, z3_2⟩ := keepZ hw2 z3_1 r3_1 c3_1
  obtain ⟨r4_2, c4_2, z4_2⟩ := keepZ hw2 z4_1 r4_1 c4_1
  obtain ⟨r5_2, c5_2, z5_2⟩ := keepZ hw2 z5_1 r5_1 c5_1
  obtain ⟨r14_2, c14_2, z14_2⟩ := keepZ hw2 z14_1 r14_1 c14_1
  obtain ⟨hb2, q2⟩ := bN hb1 hw2
  clear hw2 r3_1 c3_1 z3_1 r4_1 c4_1 z4_1 r5_1 c5_1 z5_1 r14_1 c14_1 z14_1 hb1
  go_wp2_with fail
  go_ret2
  exact ⟨none, 0, by first | (rw [HN.out, HO.out]; rfl) | (rw [HN.out]; rfl), bt, VL.nilOf (HN.out)⟩
 ·
  have HO := Lib.hid hok
  have hy2 := sm_yes hok
  have hok2 := hok
  rw [Bool.and_eq_true] at hok2
  obtain ⟨hc, hvv⟩ := hok2
  have hh := (hm1_parts hc).1
  have hmm := (hm1_parts hc).2
  obtain ⟨hp2, hp31, hn1, hn8⟩ := sizes_range (hopf_sizes hh)
  obtain ⟨n, rfl⟩ := Int.eq_ofNat_of_zero_le (show 0 ≤ n by omega)
  have hp : 0 < p := by omega
  have hp' : p ≤ 255 := by omega
  have hn : n ≤ 8 := by omega
  have HH := Lib.hid hh
  rw [Int.toNat_natCast] at hmm
  obtain ⟨_, _, hd1, hd8⟩ := sizes_range (modB_sizes (hopf_sizes hh) hmm)
  obtain ⟨d, rfl⟩ := Int.eq_ofNat_of_zero_le (show 0 ≤ d by omega)
  have hd : d ≤ 8 := by omega
  have HS := Lib.hid (modB_shape HF.out hmm)
  clear hmm hh
  have hmm2 := (hm1_parts hc).2
  rw [Int.toNat_natCast] at hmm2
  have HMod := Lib.hid hmm2
  clear hmm2
  have Hpr : Hid (prime31 p = true) := Lib.hid (by have hsz := hopf_sizes HH.out; unfold sizesB at hsz; simp only [Bool.and_eq_true] at hsz; exact hsz.1)
  simp only [Int.toNat_natCast] at hy2
  have HY := Lib.hid hy2; clear hy2
  have HVz : Hid (∀ t, d ≤ t → t < 8 → v t = 0) := Lib.hid fun t h1 h2 => by have := ((vecB_iff p d v).1 hvv t h2).2; omega
  have HVr : Hid (∀ i, i < 1 → ∀ t, t < 8 → 0 ≤ v t ∧ v t < p) := Lib.hid fun i _ t ht => ⟨(Hv.out t ht).1, ((vecB_iff p d v).1 hvv t ht).1⟩
  have HSm := Lib.hid (sub_same (v := v) HMod.out HS.out hn hd HVz.out)
  have HE := Lib.hid (sg_same Hpr.out (spG_range hp (d := d) (F := F) (m := 1) (g := fun _ => v) HVr.out (1 + n * 1)) HSm.out)
  have HE1 : Hid (sgN p (1 + n) (spG p d F 1 fun _ => v) = sgN p n (asG p d F v)) := Lib.hid (by have := HE.out.1; rw [Nat.mul_one] at this; exact this)
  have HAr := Lib.hid (asG_range hp d F v)
  have x2 : (allV p d 1 fun _ => v) = true := by rw [one_vec']; exact hvv
  have H0 := Lib.hid (sg_zero hp2 (asG p d F v))
  have hc1 : codeB true = 0 := rfl
  go_enter Tryz.func9, Tryz.ntmps9
  go_wp2_with fail
  refine atomC fun W3 e3 => ?_
  have hb3 : Below w.heap.size w W3 := by rw [e3]; exact bt
  have q3 := hb3.size
  have R3 : IsRow W3 (w.heap.size) ∧ IsRow W3 (w.heap.size + 1) ∧ IsRow W3 (w.heap.size + 2) ∧ IsRow W3 (w.heap.size + 3) := by rw [e3]; simp [go_sem]
  obtain ⟨r3_3, r4_3, r5_3, r14_3⟩ := R3
  have C3 := (⟨congrArg (blk · (w.heap.size)) e3, congrArg (blk · (w.heap.size + 1)) e3, congrArg (blk · (w.heap.size + 2)) e3, congrArg (blk · (w.heap.size + 3)) e3⟩ : _ ∧ _ ∧ _ ∧ _); simp [go_sem] at C3
  obtain ⟨c3_3, c4_3, c5_3, c14_3⟩ := C3
  have z3_3 := isRow_lt r3_3; have z4_3 := isRow_lt r4_3; have z5_3 := isRow_lt r5_3; have z14_3 := isRow_lt r14_3
  clear e3
  refine (l06Vectors_any p n f d F _ _ _ 1 1 (fun _ => v) _ Hf.out HF.out (by omega) (by omega) (by omega) (VL.one r14_3 c14_3 Hv.out)).mono ?_; rintro _ W4 ⟨rfl, hw4⟩
  obtain ⟨r3_4, c3_4, z3_4⟩ := keepZ hw4 z3_3 r3_3 c3_3
  obtain ⟨r4_4, c4_4, z4_4⟩ := keepZ hw4 z4_3 r4_3 c4_3
  obtain ⟨r5_4, c5_4, z5_4⟩ := keepZ hw4 z5_3 r5_3 c5_3
  obtain ⟨r14_4, c14_4, z14_4⟩ := keepZ hw4 z14_3 r14_3 c14_3
  obtain ⟨hb4, q4⟩ := bN hb3 hw4
  clear hw4 r3_3 c3_3 z3_3 r4_3 c4_3 z4_3 r5_3 c5_3 z5_3 r14_3 c14_3 z14_3 hb3
  go_wp2
  have nw3_W4_0 : (w.heap.size) ≠ W4.heap.size := by omega
  have nw4_W4_0 : (w.heap.size + 1) ≠ W4.heap.size := by omega
  have nw5_W4_0 : (w.heap.size + 2) ≠ W4.heap.size := by omega
  refine atomW fun W5 e5 => ?_
  have hb5 : Below w.heap.size w W5 := by rw [e5]; exact bt
  have q5 := hb5.size
  have R5 : IsRow W5 (w.heap.size) ∧ IsRow W5 (w.heap.size + 1) ∧ IsRow W5 (w.heap.size + 2) ∧ IsRow W5 (W4.heap.size) := by rw [e5]; simp [go_sem, r3_4, c3_4, r4_4, c4_4, r5_4, c5_4, nw3_W4_0, nw4_W4_0, nw5_W4_0, r14_4]
  obtain ⟨r3_5, r4_5, r5_5, r19_5⟩ := R5
  have C5 := (⟨congrArg (blk · (w.heap.size)) e5, congrArg (blk · (w.heap.size + 1)) e5, congrArg (blk · (w.heap.size + 2)) e5, congrArg (blk · (W4.heap.size)) e5⟩ : _ ∧ _ ∧ _ ∧ _); simp [go_sem, r3_4, c3_4, r4_4, c4_4, r5_4, c5_4, nw3_W4_0, nw4_W4_0, nw5_W4_0, r14_4] at C5
  obtain ⟨c3_5, c4_5, c5_5, c19_5⟩ := C5
  have z3_5 := isRow_lt r3_5; have z4_5 := isRow_lt r4_5; have z5_5 := isRow_lt r5_5; have z19_5 := isRow_lt r19_5
  have ltO3n5 : (w.heap.size) < (W4.heap.size) := by omega
  have ltO4n5 : (w.heap.size + 1) < (W4.heap.size) := by omega
  have ltO5n5 : (w.heap.size + 2) < (W4.heap.size) := by omega
  have hvO_5 := VL.empty (U := W5.heap.size) (Nat.le_refl _) z19_5 r19_5 c19_5 fun _ _ => 0
  have szO_5 := z19_5
  clear e5 nw3_W4_0 nw4_W4_0 nw5_W4_0 r3_4 c3_4 z3_4 r4_4 c4_4 z4_4 r5_4 c5_4 z5_4 hb4
  go_loopw [9, 10] (fun s9 s10 wr => ∃ i : Nat, ∃ aO_6 : Option Addr, ∃ cO_6 : Nat, ∃ UO_6 : Nat, i ≤ n ∧ s9 = .slice aO_6 ((sgN p i (asG p d F v))) cO_6 ∧ s10 = .int .i64 i ∧ Below w.heap.size w wr ∧ (IsRow wr (w.heap.size) ∧ blk wr (w.heap.size) = blk W5 (w.heap.size)) ∧ (IsRow wr (w.heap.size + 1) ∧ blk wr (w.heap.size + 1) = blk W5 (w.heap.size + 1)) ∧ (IsRow wr (w.heap.size + 2) ∧ blk wr (w.heap.size + 2) = blk W5 (w.heap.size + 2)) ∧ VL wr (W4.heap.size) (UO_6) (aO_6) ((sgN p i (asG p d F v))) (cO_6) ((sgG p i (asG p d F v))) ∧ ((W4.heap.size) ≤ (UO_6) ∧ (UO_6) ≤ wr.heap.size)) (fun _ s10 _ => n - (intOf s10).toNat)
  case atStart => exact ⟨0, some ⟨W4.heap.size, 0, none⟩, 0, W5.heap.size, by omega, (by rw [H0.out]), rfl, hb5, ⟨r3_5, rfl⟩, ⟨r4_5, rfl⟩, ⟨r5_5, rfl⟩, (hvO_5).same H0.out.symm fun i hi => by omega, (by omega)⟩
  case round =>
   obtain ⟨i, aO_6, cO_6, UO_6, hle6, rfl, rfl, hb6, ⟨r3_6, c3_6⟩, ⟨r4_6, c4_6⟩, ⟨r5_6, c5_6⟩, hvO_6, hUO_6⟩ := hrel
   obtain ⟨W6, rfl⟩ : ∃ W6 : World, W6 = wr := ⟨_, rfl⟩
   have q6 := hb6.size
   have E3_6 := Lib.hid c3_5; replace c3_6 := c3_6.trans c3_5
   have z3_6 := isRow_lt r3_6
   have E4_6 := Lib.hid c4_5; replace c4_6 := c4_6.trans c4_5
   have z4_6 := isRow_lt r4_6
   have E5_6 := Lib.hid c5_5; replace c5_6 := c5_6.trans c5_5
   have z5_6 := isRow_lt r5_6
   clear r3_5 c3_5 z3_5 r4_5 c4_5 z4_5 r5_5 c5_5 z5_5 hb5 hvO_5
   by_cases hlt6 : i < n
   ·
    have i0_6 : (0 : Int) ≤ (i : Int) := by omega
    have i8_6 : (i : Int) < 8 := by omega
    have k8_6 : i < 8 := by omega
    have m8_6 : i * 8 + 8 ≤ 64 := by omega
    have m64_6 : i * 64 + 64 ≤ 512 := by omega
    have l1_6 : 10 + i * 64 + 64 ≤ 522 := by omega
    have HG := Lib.hid (rowOf_bytes HF.out (i := i) (by omega))
    have e1 := mdl_act64 d F i (by omega)
    have l1 : 1 + i * 64 + 64 ≤ 513 := by omega
    go_wp2
    refine wp_quiet_tail 13 (Below W6.heap.size W6) (by kernel_rfl) (by kernel_rfl) (Below.refl _ _).drew ?_
    simp only [List.take_succ_cons, List.take_zero, List.drop_succ_cons, List.drop_zero]
    iterate 12 (refine q_plain rfl ?_; apply Exists.intro; refine ⟨fun W hW => ?_, ?_⟩; (focus (obtain ⟨x3, y3⟩ := keepB hW z3_6 r3_6 c3_6; obtain ⟨x4, y4⟩ := keepB hW z4_6 r4_6 c4_6; obtain ⟨x5, y5⟩ := keepB hW z5_6 r5_6 c5_6; go_simp; first | done | rfl)); simp only [Act.put, List.setIfInBounds_toArray, List.set_cons_zero, List.set_cons_succ])
    (refine q_plain rfl ?_; apply Exists.intro; refine ⟨fun W hW => ?_, ?_⟩; (focus (obtain ⟨x3, y3⟩ := keepB hW z3_6 r3_6 c3_6; obtain ⟨x4, y4⟩ := keepB hW z4_6 r4_6 c4_6; obtain ⟨x5, y5⟩ := keepB hW z5_6 r5_6 c5_6; go_simp; (go_at_call 33; exact (applyAct p d F v i _ hp hp' hd HG.out Hv.out).mono fun e w2 ⟨he, hw2⟩ => ⟨he, hW.trans (hw2.mono hW.size)⟩))); simp only [Act.put, List.setIfInBounds_toArray, List.set_cons_zero, List.set_cons_succ])
    refine wpQuiet_nil ?_
    intro W7 hw7
    obtain ⟨r3_7, c3_7, z3_7⟩ := keepZ hw7 z3_6 r3_6 c3_6
    obtain ⟨r4_7, c4_7, z4_7⟩ := keepZ hw7 z4_6 r4_6 c4_6
    obtain ⟨r5_7, c5_7, z5_7⟩ := keepZ hw7 z5_6 r5_6 c5_6
    obtain ⟨hb7, q7⟩ := bN hb6 hw7
    have sz7 := hw7.size
    have hvO_7 := hvO_6.below hw7 (by omega)
    clear hw7 hvO_6 r3_6 c3_6 z3_6 r4_6 c4_6 z4_6 r5_6 c5_6 z5_6 hb6
    go_wp2_with fail
    have ltO3n8 : (w.heap.size) < W7.heap.size := z3_7
    have ltO4n8 : (w.heap.size + 1) < W7.heap.size := z4_7
    have ltO5n8 : (w.heap.size + 2) < W7.heap.size := z5_7
    refine (l01Put_sg p _ _ _ _ i (asG p d F v) _ hp hp' Hpr.out (by omega) (by omega) (HAr.out _) hvO_7).mono ?_; rintro _ W8 ⟨aO_8, cO_8, rfl, hw8, hvO_8⟩
    have sz8 := hw8.size
    obtain ⟨r3_8, c3_8, z3_8⟩ := keepZ hw8 z3_7 r3_7 c3_7
    obtain ⟨r4_8, c4_8, z4_8⟩ := keepZ hw8 z4_7 r4_7 c4_7
    obtain ⟨r5_8, c5_8, z5_8⟩ := keepZ hw8 z5_7 r5_7 c5_7
    obtain ⟨hb8, q8⟩ := bN hb7 hw8
    clear hw8 r3_7 c3_7 z3_7 r4_7 c4_7 z4_7 r5_7 c5_7 z5_7 hb7
    go_wp2
    go_roundw
    case rel => exact ⟨i + 1, (aO_8), (cO_8), (W8.heap.size), by omega, (by first | rfl | go_num | (simp; done)), by go_num, bt, ⟨by simp [go_sem, r3_8, c3_8, r4_8, c4_8, r5_8, c5_8], (by rw [E3_6.out]; first | exact c3_8 | (simp [go_sem, r3_8, c3_8, r4_8, c4_8, r5_8, c5_8]; done))⟩, ⟨by simp [go_sem, r3_8, c3_8, r4_8, c4_8, r5_8, c5_8], (by rw [E4_6.out]; first | exact c4_8 | (simp [go_sem, r3_8, c3_8, r4_8, c4_8, r5_8, c5_8]; done))⟩, ⟨by simp [go_sem, r3_8, c3_8, r4_8, c4_8, r5_8, c5_8], (by rw [E5_6.out]; first | exact c5_8 | (simp [go_sem, r3_8, c3_8, r4_8, c4_8, r5_8, c5_8]; done))⟩, (hvO_8).wider (by omega) (Nat.le_refl _), bu⟩
    case measure => simp [intOf]; try omega
   ·
    obtain rfl : n = i := by omega
    go_wp2_with fail
    go_ret2
    exact ⟨aO_6, cO_6, by first | (rw [HY.out, HO.out]; rfl) | (rw [HY.out]; rfl), bt, ((hvO_6).same HY.out.symm fun _ _ _ _ => rfl).wider (by omega) (by omega)⟩

set_option maxRecDepth 100000 in
set_option maxHeartbeats 2000000 in
theorem lawSubmoduleOf (fp fn : Int) (f : Nat → Int) (md : Int) (m : Nat → Int) (v : Nat → Int) (w : World) (_wfp : (Lit.int .i64 fp).wf = true) (_wfn : (Lit.int .i64 fn).wf = true) (hf : Bytes 1104 f) (_wmd : (Lit.int .i64 md).wf = true) (hm : Bytes 512 m) (hv : Bytes 8 v) :
    Calls Tryz.prog 3 #[.agg (hop fp fn f), .agg (mdl md m), .agg (row 8 v)] w fun e w' => e = .returned (.bool true) ∧ Below w.heap.size w w' := by
 have Hf := Lib.hid hf; clear hf
 have Hm := Lib.hid hm; clear hm
 have Hv := Lib.hid hv; clear hv
 have hm : smN fp fn f md m v ≤ 1000000 := Nat.le_trans (sm_le _ _ _ _ _ _) (by omega)
 go_enter Tryz.func3, Tryz.ntmps3
 go_wp2
 refine atomW fun W1 e1 => ?_
 have hb1 : Below w.heap.size w W1 := by rw [e1]; exact bt
 have q1 := hb1.size
 have R1 : IsRow W1 (w.heap.size) ∧ IsRow W1 (w.heap.size + 1) ∧ IsRow W1 (w.heap.size + 2) := by rw [e1]; simp [go_sem]
 obtain ⟨r3_1, r4_1, r5_1⟩ := R1
 have C1 := (⟨congrArg (blk · (w.heap.size)) e1, congrArg (blk · (w.heap.size + 1)) e1, congrArg (blk · (w.heap.size + 2)) e1⟩ : _ ∧ _ ∧ _); simp [go_sem] at C1
 obtain ⟨c3_1, c4_1, c5_1⟩ := C1
 have z3_1 := isRow_lt r3_1; have z4_1 := isRow_lt r4_1; have z5_1 := isRow_lt r5_1
 clear e1
 refine wp_quiet_tail_two 6 8 _ (by kernel_rfl) (by omega) (by kernel_rfl) (by kernel_rfl) (by kernel_rfl) (fun c a w d v h => by cases d <;> exact h) (Below.refl W1.heap.size W1).drew ?_
 simp only [List.take_succ_cons, List.take_zero, List.drop_succ_cons, List.drop_zero]
 iterate 1 (refine q_plain rfl ?_; apply Exists.intro; refine ⟨fun W hW => ?_, ?_⟩; (focus (obtain ⟨x3, y3⟩ := keepB hW z3_1 r3_1 c3_1; obtain ⟨x4, y4⟩ := keepB hW z4_1 r4_1 c4_1; obtain ⟨x5, y5⟩ := keepB hW z5_1 r5_1 c5_1; go_simp; first | done | rfl)); simp only [Act.put, List.setIfInBounds_toArray, List.set_cons_zero, List.set_cons_succ])
 (refine q_plain rfl ?_; apply Exists.intro; refine ⟨fun W hW => ?_, ?_⟩; (focus (obtain ⟨x3, y3⟩ := keepB hW z3_1 r3_1 c3_1; obtain ⟨x4, y4⟩ := keepB hW z4_1 r4_1 c4_1; obtain ⟨x5, y5⟩ := keepB hW z5_1 r5_1 c5_1; go_simp; (go_at_call 10; exact (toHopf_any _ _ _ _).mono fun e w2 ⟨he, hw2⟩ => ⟨he, hW.trans (hw2.mono hW.size)⟩))); simp only [Act.put, List.setIfInBounds_toArray, List.set_cons_zero, List.set_cons_succ])
 iterate 1 (refine q_plain rfl ?_; apply Exists.intro; refine ⟨fun W hW => ?_, ?_⟩; (focus (obtain ⟨x3, y3⟩ := keepB hW z3_1 r3_1 c3_1; obtain ⟨x4, y4⟩ := keepB hW z4_1 r4_1 c4_1; obtain ⟨x5, y5⟩ := keepB hW z5_1 r5_1 c5_1; go_simp; first | done | rfl)); simp only [Act.put, List.setIfInBounds_toArray, List.set_cons_zero, List.set_cons_succ])
 (refine q_plain rfl ?_; apply Exists.intro; refine ⟨fun W hW => ?_, ?_⟩; (focus (obtain ⟨x3, y3⟩ := keepB hW z3_1 r3_1 c3_1; obtain ⟨x4, y4⟩ := keepB hW z4_1 r4_1 c4_1; obtain ⟨x5, y5⟩ := keepB hW z5_1 r5_1 c5_1; go_simp; (go_at_call 11; exact (toModule_any _ _ _).mono fun e w2 ⟨he, hw2⟩ => ⟨he, hW.trans (hw2.mono hW.size)⟩))); simp only [Act.put, List.setIfInBounds_toArray, List.set_cons_zero, List.set_cons_succ])
 iterate 1 (refine q_plain rfl ?_; apply Exists.intro; refine ⟨fun W hW => ?_, ?_⟩; (focus (obtain ⟨x3, y3⟩ := keepB hW z3_1 r3_1 c3_1; obtain ⟨x4, y4⟩ := keepB hW z4_1 r4_1 c4_1; obtain ⟨x5, y5⟩ := keepB hW z5_1 r5_1 c5_1; go_simp; first | done | rfl)); simp only [Act.put, List.setIfInBounds_toArray, List.set_cons_zero, List.set_cons_succ])
 (refine q_plain rfl ?_; apply Exists.intro; refine ⟨fun W hW => ?_, ?_⟩; (focus (obtain ⟨x3, y3⟩ := keepB hW z3_1 r3_1 c3_1; obtain ⟨x4, y4⟩ := keepB hW z4_1 r4_1 c4_1; obtain ⟨x5, y5⟩ := keepB hW z5_1 r5_1 c5_1; go_simp; (go_at_call 12; exact (toVector_any _ _).mono fun e w2 ⟨he, hw2⟩ => ⟨he, hW.trans (hw2.mono hW.size)⟩))); simp only [Act.put, List.setIfInBounds_toArray, List.set_cons_zero, List.set_cons_succ])
 refine wpQuiet_nil ?_
 intro W2 hw2
 obtain ⟨r3_2, c3_2, z3_2⟩ := keepZ hw2 z3_1 r3_1 c3_1
 obtain ⟨r4_2, c4_2, z4_2⟩ := keepZ hw2 z4_1 r4_1 c4_1
 obtain ⟨r5_2, c5_2, z5_2⟩ := keepZ hw2 z5_1 r5_1 c5_1
 obtain ⟨hb2, q2⟩ := bN hb1 hw2
 clear hw2 r3_1 c3_1 z3_1 r4_1 c4_1 z4_1 r5_1 c5_1 z5_1 hb1
 go_wp2_with fail
 have ltS3n3 : (w.heap.size) < W2.heap.size := z3_2
 have ltS4n3 : (w.heap.size + 1) < W2.heap.size := z4_2
 have ltS5n3 : (w.heap.size + 2) < W2.heap.size := z5_2
 refine (specSubmodule_any _ _ _ _ _ _ _ Hf.out Hm.out Hv.out).mono ?_; rintro _ W3 ⟨aS_3, cS_3, rfl, hw3, hvS_3⟩
 have sz3 := hw3.size
 obtain ⟨r3_3, c3_3, z3_3⟩ := keepZ hw3 z3_2 r3_2 c3_2
 obtain ⟨r4_3, c4_3, z4_3⟩ := keepZ hw3 z4_2 r4_2 c4_2
 obtain ⟨r5_3, c5_3, z5_3⟩ := keepZ hw3 z5_2 r5_2 c5_2
 obtain ⟨hb3, q3⟩ := bN hb2 hw3
 clear hw3 r3_2 c3_2 z3_2 r4_2 c4_2 z4_2 r5_2 c5_2 z5_2 hb2
 go_wp2
 refine wp_quiet_tail_two 6 8 _ (by kernel_rfl) (by omega) (by kernel_rfl) (by kernel_rfl) (by kernel_rfl) (fun c a w d v h => by cases d <;> exact h) (Below.refl W3.heap.size W3).drew ?_
 simp only [List.take_succ_cons, List.take_zero, List.drop_succ_cons, List.drop_zero]
 iterate 1 (refine q_plain rfl ?_; apply Exists.intro; refine ⟨fun W hW => ?_, ?_⟩; (focus (obtain ⟨x3, y3⟩ := keepB hW z3_3 r3_3 c3_3; obtain ⟨x4, y4⟩ := keepB hW z4_3 r4_3 c4_3; obtain ⟨x5, y5⟩ := keepB hW z5_3 r5_3 c5_3; go_simp; first | done | rfl)); simp only [Act.put, List.setIfInBounds_toArray, List.set_cons_zero, List.set_cons_succ])
 (refine q_plain rfl ?_; apply Exists.intro; refine ⟨fun W hW => ?_, ?_⟩; (focus (obtain ⟨x3, y3⟩ := keepB hW z3_3 r3_3 c3_3; obtain ⟨x4, y4⟩ := keepB hW z4_3 r4_3 c4_3; obtain ⟨x5, y5⟩ := keepB hW z5_3 r5_3 c5_3; go_simp; (go_at_call 10; exact (toHopf_any _ _ _ _).mono fun e w2 ⟨he, hw2⟩ => ⟨he, hW.trans (hw2.mono hW.size)⟩))); simp only [Act.put, List.setIfInBounds_toArray, List.set_cons_zero, List.set_cons_succ])
 iterate 1 (refine q_plain rfl ?_; apply Exists.intro; refine ⟨fun W hW => ?_, ?_⟩; (focus (obtain ⟨x3, y3⟩ := keepB hW z3_3 r3_3 c3_3; obtain ⟨x4, y4⟩ := keepB hW z4_3 r4_3 c4_3; obtain ⟨x5, y5⟩ := keepB hW z5_3 r5_3 c5_3; go_simp; first | done | rfl)); simp only [Act.put, List.setIfInBounds_toArray, List.set_cons_zero, List.set_cons_succ])
 (refine q_plain rfl ?_; apply Exists.intro; refine ⟨fun W hW => ?_, ?_⟩; (focus (obtain ⟨x3, y3⟩ := keepB hW z3_3 r3_3 c3_3; obtain ⟨x4, y4⟩ := keepB hW z4_3 r4_3 c4_3; obtain ⟨x5, y5⟩ := keepB hW z5_3 r5_3 c5_3; go_simp; (go_at_call 11; exact (toModule_any _ _ _).mono fun e w2 ⟨he, hw2⟩ => ⟨he, hW.trans (hw2.mono hW.size)⟩))); simp only [Act.put, List.setIfInBounds_toArray, List.set_cons_zero, List.set_cons_succ])
 iterate 1 (refine q_plain rfl ?_; apply Exists.intro; refine ⟨fun W hW => ?_, ?_⟩; (focus (obtain ⟨x3, y3⟩ := keepB hW z3_3 r3_3 c3_3; obtain ⟨x4, y4⟩ := keepB hW z4_3 r4_3 c4_3; obtain ⟨x5, y5⟩ := keepB hW z5_3 r5_3 c5_3; go_simp; first | done | rfl)); simp only [Act.put, List.setIfInBounds_toArray, List.set_cons_zero, List.set_cons_succ])
 (refine q_plain rfl ?_; apply Exists.intro; refine ⟨fun W hW => ?_, ?_⟩; (focus (obtain ⟨x3, y3⟩ := keepB hW z3_3 r3_3 c3_3; obtain ⟨x4, y4⟩ := keepB hW z4_3 r4_3 c4_3; obtain ⟨x5, y5⟩ := keepB hW z5_3 r5_3 c5_3; go_simp; (go_at_call 12; exact (toVector_any _ _).mono fun e w2 ⟨he, hw2⟩ => ⟨he, hW.trans (hw2.mono hW.size)⟩))); simp only [Act.put, List.setIfInBounds_toArray, List.set_cons_zero, List.set_cons_succ])
 refine wpQuiet_nil ?_
 intro W4 hw4
 obtain ⟨r3_4, c3_4, z3_4⟩ := keepZ hw4 z3_3 r3_3 c3_3
 obtain ⟨r4_4, c4_4, z4_4⟩ := keepZ hw4 z4_3 r4_3 c4_3
 obtain ⟨r5_4, c5_4, z5_4⟩ := keepZ hw4 z5_3 r5_3 c5_3
 obtain ⟨hb4, q4⟩ := bN hb3 hw4
 have sz4 := hw4.size
 have hvS_4 := hvS_3.below hw4 (by omega)
 clear hw4 hvS_3 r3_3 c3_3 z3_3 r4_3 c4_3 z4_3 r5_3 c5_3 z5_3 hb3
 go_wp2_with fail
 have ltG3n5 : (w.heap.size) < W4.heap.size := z3_4
 have ltG4n5 : (w.heap.size + 1) < W4.heap.size := z4_4
 have ltG5n5 : (w.heap.size + 2) < W4.heap.size := z5_4
 refine (implSubmodule_any _ _ _ _ _ _ _ Hf.out Hm.out Hv.out).mono ?_; rintro _ W5 ⟨aG_5, cG_5, rfl, hw5, hvG_5⟩
 obtain ⟨r3_5, c3_5, z3_5⟩ := keepZ hw5 z3_4 r3_4 c3_4
 obtain ⟨r4_5, c4_5, z4_5⟩ := keepZ hw5 z4_4 r4_4 c4_4
 obtain ⟨r5_5, c5_5, z5_5⟩ := keepZ hw5 z5_4 r5_4 c5_4
 obtain ⟨hb5, q5⟩ := bN hb4 hw5
 have sz5 := hw5.size
 have hvS_5 := hvS_4.below hw5 (by omega)
 clear hw5 hvS_4 r3_4 c3_4 z3_4 r4_4 c4_4 z4_4 r5_4 c5_4 z5_4 hb4
 go_wp2_with fail
 refine (eqVectorS_any hm hvG_5 hvS_5).mono ?_; rintro _ W6 ⟨rfl, hw6⟩
 obtain ⟨r3_6, c3_6, z3_6⟩ := keepZ hw6 z3_5 r3_5 c3_5
 obtain ⟨r4_6, c4_6, z4_6⟩ := keepZ hw6 z4_5 r4_5 c4_5
 obtain ⟨r5_6, c5_6, z5_6⟩ := keepZ hw6 z5_5 r5_5 c5_5
 obtain ⟨hb6, q6⟩ := bN hb5 hw6
 have sz6 := hw6.size
 have hvS_6 := hvS_5.below hw6 (by omega)
 have hvG_6 := hvG_5.below hw6 (by omega)
 clear hw6 hvS_5 hvG_5 r3_5 c3_5 z3_5 r4_5 c4_5 z4_5 r5_5 c5_5 z5_5 hb5
 go_wp2_with fail
 refine (markVectorS_any hm (by omega) (by omega) (by omega) hvG_6).mono ?_; rintro _ W7 ⟨rfl, hw7, hvG_7⟩
 obtain ⟨r3_7, c3_7⟩ := keepB hw7 (by have := z3_6; omega) r3_6 c3_6
 have z3_7 := isRow_lt r3_7
 obtain ⟨r4_7, c4_7⟩ := keepB hw7 (by have := z4_6; omega) r4_6 c4_6
 have z4_7 := isRow_lt r4_7
 obtain ⟨r5_7, c5_7⟩ := keepB hw7 (by have := z5_6; omega) r5_6 c5_6
 have z5_7 := isRow_lt r5_7
 have hb7 := hb6.trans (hw7.mono (by omega))
 have q7 := hb7.size
 have sz7 := hw7.size
 have hvS_7 := hvS_6.below hw7 (by omega)
 clear hw7 hvG_6 hvS_6 r3_6 c3_6 z3_6 r4_6 c4_6 z4_6 r5_6 c5_6 z5_6 hb6
 go_wp2_with fail
 refine (heldVectorS_any hm (by omega) (by omega) hvG_7).mono ?_; rintro _ W8 ⟨rfl, hw8⟩
 obtain ⟨r3_8, c3_8, z3_8⟩ := keepZ hw8 z3_7 r3_7 c3_7
 obtain ⟨r4_8, c4_8, z4_8⟩ := keepZ hw8 z4_7 r4_7 c4_7
 obtain ⟨r5_8, c5_8, z5_8⟩ := keepZ hw8 z5_7 r5_7 c5_7
 obtain ⟨hb8, q8⟩ := bN hb7 hw8
 have sz8 := hw8.size
 have hvS_8 := hvS_7.below hw8 (by omega)
 have hvG_8 := hvG_7.below hw8 (by omega)
 clear hw8 hvS_7 hvG_7 r3_7 c3_7 z3_7 r4_7 c4_7 z4_7 r5_7 c5_7 z5_7 hb7
 go_wp2
 refine wp_quiet_tail_two 6 8 _ (by kernel_rfl) (by omega) (by kernel_rfl) (by kernel_rfl) (by kernel_rfl) (fun c a w d v h => by cases d <;> exact h) (Below.refl W8.heap.size W8).drew ?_
 simp only [List.take_succ_cons, List.take_zero, List.drop_succ_cons, List.drop_zero]
 iterate 1 (refine q_plain rfl ?_; apply Exists.intro; refine ⟨fun W hW => ?_, ?_⟩; (focus (obtain ⟨x3, y3⟩ := keepB hW z3_8 r3_8 c3_8; obtain ⟨x4, y4⟩ := keepB hW z4_8 r4_8 c4_8; obtain ⟨x5, y5⟩ := keepB hW z5_8 r5_8 c5_8; go_simp; first | done | rfl)); simp only [Act.put, List.setIfInBounds_toArray, List.set_cons_zero, List.set_cons_succ])
 (refine q_plain rfl ?_; apply Exists.intro; refine ⟨fun W hW => ?_, ?_⟩; (focus (obtain ⟨x3, y3⟩ := keepB hW z3_8 r3_8 c3_8; obtain ⟨x4, y4⟩ := keepB hW z4_8 r4_8 c4_8; obtain ⟨x5, y5⟩ := keepB hW z5_8 r5_8 c5_8; go_simp; (go_at_call 10; exact (toHopf_any _ _ _ _).mono fun e w2 ⟨he, hw2⟩ => ⟨he, hW.trans (hw2.mono hW.size)⟩))); simp only [Act.put, List.setIfInBounds_toArray, List.set_cons_zero, List.set_cons_succ])
 iterate 1 (refine q_plain rfl ?_; apply Exists.intro; refine ⟨fun W hW => ?_, ?_⟩; (focus (obtain ⟨x3, y3⟩ := keepB hW z3_8 r3_8 c3_8; obtain ⟨x4, y4⟩ := keepB hW z4_8 r4_8 c4_8; obtain ⟨x5, y5⟩ := keepB hW z5_8 r5_8 c5_8; go_simp; first | done | rfl)); simp only [Act.put, List.setIfInBounds_toArray, List.set_cons_zero, List.set_cons_succ])
 (refine q_plain rfl ?_; apply Exists.intro; refine ⟨fun W hW => ?_, ?_⟩; (focus (obtain ⟨x3, y3⟩ := keepB hW z3_8 r3_8 c3_8; obtain ⟨x4, y4⟩ := keepB hW z4_8 r4_8 c4_8; obtain ⟨x5, y5⟩ := keepB hW z5_8 r5_8 c5_8; go_simp; (go_at_call 11; exact (toModule_any _ _ _).mono fun e w2 ⟨he, hw2⟩ => ⟨he, hW.trans (hw2.mono hW.size)⟩))); simp only [Act.put, List.setIfInBounds_toArray, List.set_cons_zero, List.set_cons_succ])
 iterate 1 (refine q_plain rfl ?_; apply Exists.intro; refine ⟨fun W hW => ?_, ?_⟩; (focus (obtain ⟨x3, y3⟩ := keepB hW z3_8 r3_8 c3_8; obtain ⟨x4, y4⟩ := keepB hW z4_8 r4_8 c4_8; obtain ⟨x5, y5⟩ := keepB hW z5_8 r5_8 c5_8; go_simp; first | done | rfl)); simp only [Act.put, List.setIfInBounds_toArray, List.set_cons_zero, List.set_cons_succ])
 (refine q_plain rfl ?_; apply Exists.intro; refine ⟨fun W hW => ?_, ?_⟩; (focus (obtain ⟨x3, y3⟩ := keepB hW z3_8 r3_8 c3_8; obtain ⟨x4, y4⟩ := keepB hW z4_8 r4_8 c4_8; obtain ⟨x5, y5⟩ := keepB hW z5_8 r5_8 c5_8; go_simp; (go_at_call 12; exact (toVector_any _ _).mono fun e w2 ⟨he, hw2⟩ => ⟨he, hW.trans (hw2.mono hW.size)⟩))); simp only [Act.put, List.setIfInBounds_toArray, List.set_cons_zero, List.set_cons_succ])
 refine wpQuiet_nil ?_
 intro W9 hw9
 obtain ⟨r3_9, c3_9, z3_9⟩ := keepZ hw9 z3_8 r3_8 c3_8
 obtain ⟨r4_9, c4_9, z4_9⟩ := keepZ hw9 z4_8 r4_8 c4_8
 obtain ⟨r5_9, c5_9, z5_9⟩ := keepZ hw9 z5_8 r5_8 c5_8
 obtain ⟨hb9, q9⟩ := bN hb8 hw9
 have sz9 := hw9.size
 have hvS_9 := hvS_8.below hw9 (by omega)
 have hvG_9 := hvG_8.below hw9 (by omega)
 clear hw9 hvS_8 hvG_8 r3_8 c3_8 z3_8 r4_8 c4_8 z4_8 r5_8 c5_8 z5_8 hb8
 go_wp2_with fail
 refine (implSubmodule_any _ _ _ _ _ _ _ Hf.out Hm.out Hv.out).mono ?_; rintro _ W10 ⟨aH_10, cH_10, rfl, hw10, hvH_10⟩
 obtain ⟨hb10, q10⟩ := bN hb9 hw10
 have sz10 := hw10.size
 have hvS_10 := hvS_9.below hw10 (by omega)
 have hvG_10 := hvG_9.below hw10 (by omega)
 clear hw10 hvS_9 hvG_9 hb9
 go_wp2_with fail
 refine (eqVectorS_any hm hvH_10 hvS_10).mono ?_; rintro _ W11 ⟨rfl, hw11⟩
 obtain ⟨hb11, q11⟩ := bN hb10 hw11
 have sz11 := hw11.size
 have hvS_11 := hvS_10.below hw11 (by omega)
 have hvG_11 := hvG_10.below hw11 (by omega)
 have hvH_11 := hvH_10.below hw11 (by omega)
 clear hw11 hvS_10 hvG_10 hvH_10 hb10
 go_wp2_with fail
 refine (heldVectorS_any hm (by omega) (by omega) hvG_11).mono ?_; rintro _ W12 ⟨rfl, hw12⟩
 obtain ⟨hb12, q12⟩ := bN hb11 hw12
 have sz12 := hw12.size
 have hvS_12 := hvS_11.below hw12 (by omega)
 have hvG_12 := hvG_11.below hw12 (by omega)
 have hvH_12 := hvH_11.below hw12 (by omega)
 clear hw12 hvS_11 hvG_11 hvH_11 hb11
 go_wp2_with fail
 go_ret
 exact ⟨rfl, bt⟩

end Go.Proofs.YtjmmmggnbndolaaGreat
