/- Module maps. -/
import Derived.Test.YtfmhgfnadgaiaaaGreatM3
import Derived.Test.YtfmhgfnadgaiaaaGreatL4
namespace Go.Proofs.YtfmhgfnadgaiaaaGreat
open Go.RowKit
set_option linter.unusedSimpArgs false
set_option linter.unusedVariables false
attribute [local irreducible] wpQuiet wpQE

/-- image i, by the reference model -/
def entS (p c d : Int) (L : Nat → Int) (i : Nat) : Bool := vecB p c (rowOf 8 L i) && (decide ((i : Int) < d) || segEq 0 8 (rowOf 8 L i) zf)
def imgS (p c d : Int) (L : Nat → Int) : Bool := (List.range 8).all (entS p c d L)
theorem img_same {p c d : Int} {L : Nat → Int} (hs : sizesB p c = true) : imgB p c d L = imgS p c d L := by
  obtain ⟨hp, _⟩ := sizes_range hs
  unfold imgB imgS
  congr 1
  funext i
  unfold entI entS
  rw [hs, Bool.true_and]
  by_cases h : (i : Int) < d
  · rw [decide_eq_true h, decide_eq_false (p := d ≤ (i : Int)) (by omega), Bool.false_or, Bool.true_or]
  · rw [decide_eq_false h, decide_eq_true (p := d ≤ (i : Int)) (by omega), Bool.true_or, Bool.true_and, Bool.false_or]
    cases hz : segEq 0 8 (rowOf 8 L i) zf
    · rw [Bool.and_false]
    · rw [show vecB p c (rowOf 8 L i) = true from vecB_zero (by omega) (zero_row hz)]; rfl
structure ImgS (p : Int) (d : Nat) (L : Nat → Int) : Prop where
  lt : ∀ x t, x < 8 → t < 8 → 0 ≤ L (x * 8 + t) ∧ L (x * 8 + t) < p
  far : ∀ x t, d ≤ x → x < 8 → t < 8 → L (x * 8 + t) = 0
theorem img_shape {p c : Int} {d : Nat} {L : Nat → Int} (hL : Bytes 64 L) (h : imgS p c d L = true) : ImgS p d L := by
  refine ⟨fun x t hx ht => ?_, fun x t h0 hx ht => ?_⟩
  · have h1 := all_get h x hx
    unfold entS at h1
    simp only [Bool.and_eq_true] at h1
    exact ⟨(hL _ (by omega)).1, ((vecB_iff p c _).1 h1.1 t ht).1⟩
  · have h1 := all_get h x hx
    unfold entS at h1
    simp only [Bool.and_eq_true, Bool.or_eq_true, decide_eq_true_eq] at h1
    exact zero_row (h1.2.resolve_left (by omega)) t ht
/-- f(e(i) v(x)) is e(i) f(v(x)) -/
def mapE (p : Int) (d c : Nat) (F G L : Nat → Int) (i x : Nat) : Bool := segEq 0 8 (appF p d (fun y t => L (y * 8 + t)) (act F i x)) (appF p c (act G i) (fun t => L (x * 8 + t)))
def mapB (p : Int) (n d c : Nat) (F G L : Nat → Int) : Bool := (List.range n).all fun i => (List.range d).all fun x => mapE p d c F G L i x
theorem map_no {p : Int} {n d c : Nat} {F G L : Nat → Int} {i x : Nat} (hi : i < n) (hx : x < d) (h : mapE p d c F G L i x = false) : mapB p n d c F G L = false := all_no (q := fun i => (List.range d).all fun x => mapE p d c F G L i x) i n hi (all_no x d hx h)
theorem map_yes {p : Int} {n d c : Nat} {F G L : Nat → Int} (h : ∀ i, i < n → ∀ x, x < d → mapE p d c F G L i x = true) : mapB p n d c F G L = true := all_yes n fun i hi => all_yes d fun x hx => h i hi x hx
theorem maps_more {p : Int} {d c : Nat} {F G L : Nat → Int} {i : Nat} (h : ∀ a, a < i → ∀ x, x < d → mapE p d c F G L a x = true) (hi : ∀ x, x < d → mapE p d c F G L i x = true) : ∀ a, a < i + 1 → ∀ x, x < d → mapE p d c F G L a x = true := fun a ha x hx => by
  by_cases e : a = i
  · subst e; exact hi x hx
  · exact h a (by omega) x hx
/-- the entries of f(e(i) v) less e(i) f(v) -/
def fauR (p : Int) (d c : Nat) (F G L : Nat → Int) (i u : Nat) : Int := (compF p L (actT p d F (ebas i)) u + -1 % p * compF p (actT p c G (ebas i)) L u) % p
def fauA (p : Int) (d c : Nat) (F G L : Nat → Int) (q : Nat) : Int := fauR p d c F G L (q / 64) (q % 64)
theorem comp_bt {p : Int} (hp : 0 < p) (F G : Nat → Int) (u : Nat) : 0 ≤ compF p F G u ∧ compF p F G u < p := mod_range _ _ hp
theorem minus_iff {p a b : Int} (hp : 2 ≤ p) (ha : 0 ≤ a ∧ a < p) (hb : 0 ≤ b ∧ b < p) : (a + -1 % p * b) % p = 0 ↔ a = b := by
  rw [emod_add_congr (b := a) (d := -1 * b) rfl (emod_mul_congr (Int.emod_emod _ _) rfl), show a + -1 * b = a - b by omega, ← Int.emod_eq_emod_iff_emod_sub_eq_zero, Int.emod_eq_of_lt ha.1 ha.2, Int.emod_eq_of_lt hb.1 hb.2]
theorem fauA_at {p : Int} {d c : Nat} {F G L : Nat → Int} {i k t : Nat} (hk : k < 8) (ht : t < 8) : fauA p d c F G L (i * 64 + (k * 8 + t)) = fauR p d c F G L i (k * 8 + t) := by
  unfold fauA
  rw [show (i * 64 + (k * 8 + t)) / 64 = i by omega, show (i * 64 + (k * 8 + t)) % 64 = k * 8 + t by omega]
theorem fau_iff {p : Int} {n d c : Nat} {F G L : Nat → Int} (hp : 2 ≤ p) (hS : ModS p n d F) (hT : ModS p n c G) (hI : ImgS p d L) (hd : d ≤ 8) (hc : c ≤ 8) (hn : n ≤ 8) : (∀ q, q < n * 64 → fauA p d c F G L q = 0) ↔ mapB p n d c F G L = true := by
  have eA : ∀ i k t, i < 8 → k < d → t < 8 → compF p L (actT p d F (ebas i)) (k * 8 + t) = appF p d (fun y t => L (y * 8 + t)) (act F i k) t := fun i k t hi hk ht => by
    unfold compF appF
    rw [show (k * 8 + t) / 8 = k by omega, show (k * 8 + t) % 8 = t by omega, sumTo_more (n := d) (fun x h1 h2 => by show _ * L (x * 8 + t) = 0; rw [hI.far x t h1 h2 ht, Int.mul_zero]) hd]
    exact congrArg (· % p) (sumTo_congr d fun x hx => by show actT p d F (ebas i) (k * 8 + x) * L (x * 8 + t) = act F i k x * L (x * 8 + t); rw [actT_basis hS hd hi hk (by omega)])
  have eB : ∀ i k t, i < 8 → k < 8 → t < 8 → compF p (actT p c G (ebas i)) L (k * 8 + t) = appF p c (act G i) (fun t => L (k * 8 + t)) t := fun i k t hi hk ht => by
    unfold compF appF
    rw [show (k * 8 + t) / 8 = k by omega, show (k * 8 + t) % 8 = t by omega, sumTo_more (n := c) (fun x h1 h2 => by show L (k * 8 + x) * actT p c G (ebas i) (x * 8 + t) = 0; rw [actT_low h1 ht, Int.mul_zero]) hc]
    exact congrArg (· % p) (sumTo_congr c fun x hx => by show L (k * 8 + x) * actT p c G (ebas i) (x * 8 + t) = L (k * 8 + x) * act G i x t; rw [actT_basis hT hc hi hx ht])
  have z0 : ∀ i k t, i < 8 → k < 8 → t < 8 → (fauR p d c F G L i (k * 8 + t) = 0 ↔ compF p L (actT p d F (ebas i)) (k * 8 + t) = compF p (actT p c G (ebas i)) L (k * 8 + t)) := fun i k t _ _ _ => minus_iff hp (comp_bt (by omega) _ _ _) (comp_bt (by omega) _ _ _)
  unfold mapB mapE
  simp only [List.all_eq_true, List.mem_range, seg8]
  constructor
  · intro h i hi x hx t ht
    have h1 := h (i * 64 + (x * 8 + t)) (by omega)
    rw [fauA_at (by omega) ht, z0 i x t (by omega) (by omega) ht, eA i x t (by omega) hx ht, eB i x t (by omega) (by omega) ht] at h1
    exact h1
  · intro h q hq
    have e : q = q / 64 * 64 + (q % 64 / 8 * 8 + q % 8) := by omega
    rw [e, fauA_at (by omega) (by omega), z0 _ _ _ (by omega) (by omega) (by omega), eB _ _ _ (by omega) (by omega) (by omega)]
    by_cases hk : q % 64 / 8 < d
    · rw [eA _ _ _ (by omega) hk (by omega)]
      exact h _ (by omega) _ hk _ (by omega)
    · have e1 : compF p L (actT p d F (ebas (q / 64))) (q % 64 / 8 * 8 + q % 8) = 0 := by
        unfold compF appF
        rw [show (q % 64 / 8 * 8 + q % 8) / 8 = q % 64 / 8 by omega, sumTo_zero 8 fun x hx => by show actT p d F _ (q % 64 / 8 * 8 + x) * _ = 0; rw [actT_low (by omega) hx, Int.zero_mul]]
        simp
      have e2 : appF p c (act G (q / 64)) (fun t => L (q % 64 / 8 * 8 + t)) (q % 8) = 0 := by
        unfold appF
        rw [sumTo_zero c fun x hx => by show L (q % 64 / 8 * 8 + x) * _ = 0; rw [hI.far _ _ (by omega) (by omega) (by omega), Int.zero_mul]]
        simp
      rw [e1, e2]
theorem bytes64 {p : Int} (hp : 0 < p) (hp' : p ≤ 255) (F G : Nat → Int) : Bytes 64 (compF p F G) := fun u _ => by have := comp_bt hp F G u; omega
theorem first_nonzero {g : Nat → Int} : ∀ (K : Nat), ¬ (∀ q, q < K → g q = 0) → ∃ q, q < K ∧ (∀ t, t < q → g t = 0) ∧ g q ≠ 0
  | 0, h => absurd (fun q hq => by omega) h
  | K + 1, h => by
    by_cases h1 : ∀ q, q < K → g q = 0
    · refine ⟨K, by omega, h1, fun h2 => h fun q hq => ?_⟩
      by_cases e : q = K
      · rw [e]; exact h2
      · exact h1 q (by omega)
    · obtain ⟨q, a, b, c⟩ := first_nonzero K h1
      exact ⟨q, by omega, b, c⟩
theorem ret_bi {a b : Bool} {x y : Int} (h : a = b) (h2 : x = y) : Ending.returned (.tuple #[.bool a, .int .i64 x]) = .returned (.tuple #[.bool b, .int .i64 y]) := by rw [h, h2]
/-- behind the first i rows -/
theorem fau_add {p : Int} {d c : Nat} {F G L : Nat → Int} {i : Nat} {FA FO : Nat → Int} (hA : ∀ u, u < 64 → FA u = compF p L (actT p d F (ebas i)) u) (hO : ∀ u, u < 64 → FO u = compF p (actT p c G (ebas i)) L u) : ∀ q, q < i * 64 + 64 → ∀ t : Nat, t < 1 → addB (fun q _ => fauA p d c F G L q) (i * 64) 0 (addm p 0 64 (-1 % p) FA FO) q t = fauA p d c F G L q := fun q hq t ht => by
  unfold addB
  by_cases h : q < i * 64
  · rw [if_pos h]
  · rw [if_neg h]
    unfold addm
    rw [if_pos (by omega), Nat.zero_add, Nat.sub_zero, hA _ (by omega), hO _ (by omega)]
    unfold fauA fauR
    rw [show q / 64 = i by omega, show q % 64 = q - i * 64 by omega]

set_option maxRecDepth 100000 in
set_option maxHeartbeats 4000000 in
theorem mapFaults_any (p : Int) (n d cc : Nat) (f F G L : Nat → Int) (w : World) (hp2 : 2 ≤ p) (hp' : p ≤ 255) (hn : n ≤ 8) (hd : d ≤ 8) (he : cc ≤ 8) (hF : Bytes 512 F) (hG : Bytes 512 G) (hL : Bytes 64 L) :
    Calls Tryz.prog 90 #[.agg (hop p n f), .iface 41 (.agg (mdl d F)), .iface 41 (.agg (mdl cc G)), .agg (row 64 L)] w fun e w' => ∃ a c, e = .returned (.slice a (n * 64) c) ∧ Below w.heap.size w w' ∧ BL w' w.heap.size w'.heap.size a (n * 64) c (fun q _ => fauA p d cc F G L q) := by
 have HF := Lib.hid hF; clear hF
 have HG := Lib.hid hG; clear hG
 have HL := Lib.hid hL; clear hL
 have hp : 0 < p := by omega
 have nb1 := (mod_range (-1) p hp).1
 have nb2 := (mod_range (-1) p hp).2
 have nb3 : -1 % p ≤ 255 := by omega
 go_enter Tryz.func90, Tryz.ntmps90
 go_wp2
 refine atomW fun W1 e1 => ?_
 have hb1 : Below w.heap.size w W1 := by rw [e1]; exact bt
 have q1 := hb1.size
 have R1 : IsRow W1 (w.heap.size) ∧ IsRow W1 (w.heap.size + 1) := by rw [e1]; simp [go_sem]
 obtain ⟨r4_1, r7_1⟩ := R1
 have C1 := (⟨congrArg (blk · (w.heap.size)) e1, congrArg (blk · (w.heap.size + 1)) e1⟩ : _ ∧ _); simp [go_sem] at C1
 obtain ⟨c4_1, c7_1⟩ := C1
 have z4_1 := isRow_lt r4_1; have z7_1 := isRow_lt r7_1
 clear e1
 have ltR4n2 : (w.heap.size) < W1.heap.size := z4_1
 have ltR7n2 : (w.heap.size + 1) < W1.heap.size := z7_1
 go_loopw [9, 16] (fun s9 s16 wr => ∃ i : Nat, ∃ aR_2 : Option Addr, ∃ cR_2 : Nat, ∃ UR_2 : Nat, i ≤ n ∧ s9 = .slice aR_2 (i * 64) cR_2 ∧ s16 = .int .i64 i ∧ Below w.heap.size w wr ∧ (IsRow wr (w.heap.size) ∧ blk wr (w.heap.size) = blk W1 (w.heap.size)) ∧ (IsRow wr (w.heap.size + 1) ∧ blk wr (w.heap.size + 1) = blk W1 (w.heap.size + 1)) ∧ BL wr (W1.heap.size) (UR_2) (aR_2) (i * 64) (cR_2) ((fun q _ => fauA p d cc F G L q)) ∧ ((W1.heap.size) ≤ (UR_2) ∧ (UR_2) ≤ wr.heap.size)) (fun _ s16 _ => n - (intOf s16).toNat)
 case atStart => exact ⟨0, none, 0, W1.heap.size, by omega, rfl, rfl, hb1, ⟨r4_1, rfl⟩, ⟨r7_1, rfl⟩, BL.nil _ _ _ _, (by omega)⟩
 case round =>
  obtain ⟨i, aR_2, cR_2, UR_2, hle2, rfl, rfl, hb2, ⟨r4_2, c4_2⟩, ⟨r7_2, c7_2⟩, hvR_2, hUR_2⟩ := hrel
  obtain ⟨W2, rfl⟩ : ∃ W2 : World, W2 = wr := ⟨_, rfl⟩
  have q2 := hb2.size
  have E4_2 := Lib.hid c4_1; replace c4_2 := c4_2.trans c4_1
  have z4_2 := isRow_lt r4_2
  have E7_2 := Lib.hid c7_1; replace c7_2 := c7_2.trans c7_1
  have z7_2 := isRow_lt r7_2
  clear r4_1 c4_1 z4_1 r7_1 c7_1 z7_1 hb1
  by_cases hlt2 : i < n
  ·
   have i0_2 : (0 : Int) ≤ (i : Int) := by omega
   have i8_2 : (i : Int) < 8 := by omega
   have k8_2 : i < 8 := by omega
   have m8_2 : i * 8 + 8 ≤ 64 := by omega
   have m64_2 : i * 64 + 64 ≤ 512 := by omega
   have l1_2 : 10 + i * 64 + 64 ≤ 522 := by omega
   have A1 := Lib.hid (actT_bytes hp hp' d F (ebas i))
   have A2 := Lib.hid (actT_bytes hp hp' cc G (ebas i))
   have A3 : Hid (Bytes 64 (compF p L (actT p d F (ebas i)))) := Lib.hid (bytes64 hp hp' _ _)
   have A4 : Hid (Bytes 64 (compF p (actT p cc G (ebas i)) L)) := Lib.hid (bytes64 hp hp' _ _)
   go_wp2_with fail
   refine (basisAt i (by omega) _).mono ?_; rintro _ W3 ⟨rfl, hw3⟩
   obtain ⟨r4_3, c4_3, z4_3⟩ := keepZ hw3 z4_2 r4_2 c4_2
   obtain ⟨r7_3, c7_3, z7_3⟩ := keepZ hw3 z7_2 r7_2 c7_2
   obtain ⟨hb3, q3⟩ := bN hb2 hw3
   have sz3 := hw3.size
   have hvR_3 := hvR_2.below hw3 (by omega)
   clear hw3 hvR_2 r4_2 c4_2 z4_2 r7_2 c7_2 z7_2 hb2
   go_wp2
   have nw4_W3_0 : (w.heap.size) ≠ W3.heap.size := by omega
   have nw7_W3_0 : (w.heap.size + 1) ≠ W3.heap.size := by omega
   refine atomW fun W4 e4 => ?_
   have hb4 : Below w.heap.size w W4 := by rw [e4]; exact bt
   have q4 := hb4.size
   have R4 : IsRow W4 (w.heap.size) ∧ IsRow W4 (w.heap.size + 1) ∧ IsRow W4 (W3.heap.size) := by rw [e4]; simp [go_sem, r4_3, c4_3, r7_3, c7_3, nw4_W3_0, nw7_W3_0]
   obtain ⟨r4_4, r7_4, r11_4⟩ := R4
   have C4 := (⟨congrArg (blk · (w.heap.size)) e4, congrArg (blk · (w.heap.size + 1)) e4, congrArg (blk · (W3.heap.size)) e4⟩ : _ ∧ _ ∧ _); simp [go_sem, r4_3, c4_3, r7_3, c7_3, nw4_W3_0, nw7_W3_0] at C4
   obtain ⟨c4_4, c7_4, c11_4⟩ := C4
   have z4_4 := isRow_lt r4_4; have z7_4 := isRow_lt r7_4; have z11_4 := isRow_lt r11_4
   have n4_11 : (w.heap.size) ≠ (W3.heap.size) := by omega
   have n7_11 : (w.heap.size + 1) ≠ (W3.heap.size) := by omega
   have n11_4 : (W3.heap.size) ≠ (w.heap.size) := by omega
   have n11_7 : (W3.heap.size) ≠ (w.heap.size + 1) := by omega
   have hvR_4 : BL W4 (W1.heap.size) (UR_2) (aR_2) (i * 64) (cR_2) ((fun q _ => fauA p d cc F G L q)) := by rw [e4]; exact vtB
   clear e4 nw4_W3_0 nw7_W3_0 r4_3 c4_3 z4_3 r7_3 c7_3 z7_3 hvR_3 hb3
   refine wp_quiet_tail 9 (Below W4.heap.size W4) (by kernel_rfl) (by kernel_rfl) (Below.refl _ _).drew ?_
   simp only [List.take_succ_cons, List.take_zero, List.drop_succ_cons, List.drop_zero]
   iterate 7 (refine q_plain rfl ?_; apply Exists.intro; refine ⟨fun W hW => ?_, ?_⟩; (focus (obtain ⟨x4, y4⟩ := keepB hW z4_4 r4_4 c4_4; obtain ⟨x7, y7⟩ := keepB hW z7_4 r7_4 c7_4; obtain ⟨x11, y11⟩ := keepB hW z11_4 r11_4 c11_4; go_simp; first | done | rfl)); simp only [Act.put, List.setIfInBounds_toArray, List.set_cons_zero, List.set_cons_succ])
   (refine q_plain rfl ?_; apply Exists.intro; refine ⟨fun W hW => ?_, ?_⟩; (focus (obtain ⟨x4, y4⟩ := keepB hW z4_4 r4_4 c4_4; obtain ⟨x7, y7⟩ := keepB hW z7_4 r7_4 c7_4; obtain ⟨x11, y11⟩ := keepB hW z11_4 r11_4 c11_4; go_simp; (go_at_call 112; exact (actTable_any p d F (ebas i) _ hp hp' hd HF.out (ebas_bytes i)).mono fun e w2 ⟨he, hw2⟩ => ⟨he, hW.trans (hw2.mono hW.size)⟩))); simp only [Act.put, List.setIfInBounds_toArray, List.set_cons_zero, List.set_cons_succ])
   (refine q_plain rfl ?_; apply Exists.intro; refine ⟨fun W hW => ?_, ?_⟩; (focus (obtain ⟨x4, y4⟩ := keepB hW z4_4 r4_4 c4_4; obtain ⟨x7, y7⟩ := keepB hW z7_4 r7_4 c7_4; obtain ⟨x11, y11⟩ := keepB hW z11_4 r11_4 c11_4; go_simp; (go_at_call 125; exact (composeLinear_any p L (actT p d F (ebas i)) _ hp hp' HL.out A1.out).mono fun e w2 ⟨he, hw2⟩ => ⟨he, hW.trans (hw2.mono hW.size)⟩))); simp only [Act.put, List.setIfInBounds_toArray, List.set_cons_zero, List.set_cons_succ])
   refine wpQuiet_nil ?_
   intro W5 hw5
   obtain ⟨r4_5, c4_5, z4_5⟩ := keepZ hw5 z4_4 r4_4 c4_4
   obtain ⟨r7_5, c7_5, z7_5⟩ := keepZ hw5 z7_4 r7_4 c7_4
   obtain ⟨r11_5, c11_5, z11_5⟩ := keepZ hw5 z11_4 r11_4 c11_4
   obtain ⟨hb5, q5⟩ := bN hb4 hw5
   have sz5 := hw5.size
   have hvR_5 := hvR_4.below hw5 (by omega)
   clear hw5 hvR_4 r4_4 c4_4 z4_4 r7_4 c7_4 z7_4 r11_4 c11_4 z11_4 hb4
   go_wp2_with fail
   have ltA4n6 : (w.heap.size) < W5.heap.size := z4_5
   have ltA7n6 : (w.heap.size + 1) < W5.heap.size := z7_5
   have ltA11n6 : (W3.heap.size) < W5.heap.size := z11_5
   refine (flatLinear_any (compF p L (actT p d F (ebas i))) _ A3.out).mono ?_; rintro _ W6 ⟨aA_6, cA_6, rfl, hw6, hvA_6⟩
   obtain ⟨r4_6, c4_6, z4_6⟩ := keepZ hw6 z4_5 r4_5 c4_5
   obtain ⟨r7_6, c7_6, z7_6⟩ := keepZ hw6 z7_5 r7_5 c7_5
   obtain ⟨r11_6, c11_6, z11_6⟩ := keepZ hw6 z11_5 r11_5 c11_5
   obtain ⟨hb6, q6⟩ := bN hb5 hw6
   have sz6 := hw6.size
   have hvR_6 := hvR_5.below hw6 (by omega)
   clear hw6 hvR_5 r4_5 c4_5 z4_5 r7_5 c7_5 z7_5 r11_5 c11_5 z11_5 hb5
   obtain ⟨gA_7, FA_7, eaA_7, gBA_7, gUA_7, rAx_7, hcA_7, hmA_7, cAx_7, hFbA_7, hFA_7⟩ := hvA_6.some (by omega)
   subst eaA_7
   have HFA_7 := Lib.hid hFA_7; clear hFA_7
   have HBA_7 := Lib.hid hFbA_7; clear hFbA_7
   have zAx_7 := isRow_lt rAx_7
   have n4_Ax : (w.heap.size) ≠ (gA_7) := by omega
   have n7_Ax : (w.heap.size + 1) ≠ (gA_7) := by omega
   have n11_Ax : (W3.heap.size) ≠ (gA_7) := by omega
   have nAx_4 : (gA_7) ≠ (w.heap.size) := by omega
   have nAx_7 : (gA_7) ≠ (w.heap.size + 1) := by omega
   have nAx_11 : (gA_7) ≠ (W3.heap.size) := by omega
   go_wp2
   refine wp_quiet_tail 9 (Below W6.heap.size W6) (by kernel_rfl) (by kernel_rfl) (Below.refl _ _).drew ?_
   simp only [List.take_succ_cons, List.take_zero, List.drop_succ_cons, List.drop_zero]
   iterate 6 (refine q_plain rfl ?_; apply Exists.intro; refine ⟨fun W hW => ?_, ?_⟩; (focus (obtain ⟨x4, y4⟩ := keepB hW z4_6 r4_6 c4_6; obtain ⟨x7, y7⟩ := keepB hW z7_6 r7_6 c7_6; obtain ⟨x11, y11⟩ := keepB hW z11_6 r11_6 c11_6; obtain ⟨xAx, yAx⟩ := keepB hW zAx_7 rAx_7 cAx_7; go_simp; first | done | rfl)); simp only [Act.put, List.setIfInBounds_toArray, List.set_cons_zero, List.set_cons_succ])
   (refine q_plain rfl ?_; apply Exists.intro; refine ⟨fun W hW => ?_, ?_⟩; (focus (obtain ⟨x4, y4⟩ := keepB hW z4_6 r4_6 c4_6; obtain ⟨x7, y7⟩ := keepB hW z7_6 r7_6 c7_6; obtain ⟨x11, y11⟩ := keepB hW z11_6 r11_6 c11_6; obtain ⟨xAx, yAx⟩ := keepB hW zAx_7 rAx_7 cAx_7; go_simp; (go_at_call 112; exact (actTable_any p cc G (ebas i) _ hp hp' he HG.out (ebas_bytes i)).mono fun e w2 ⟨he, hw2⟩ => ⟨he, hW.trans (hw2.mono hW.size)⟩))); simp only [Act.put, List.setIfInBounds_toArray, List.set_cons_zero, List.set_cons_succ])
   iterate 1 (refine q_plain rfl ?_; apply Exists.intro; refine ⟨fun W hW => ?_, ?_⟩; (focus (obtain ⟨x4, y4⟩ := keepB hW z4_6 r4_6 c4_6; obtain ⟨x7, y7⟩ := keepB hW z7_6 r7_6 c7_6; obtain ⟨x11, y11⟩ := keepB hW z11_6 r11_6 c11_6; obtain ⟨xAx, yAx⟩ := keepB hW zAx_7 rAx_7 cAx_7; go_simp; first | done | rfl)); simp only [Act.put, List.setIfInBounds_toArray, List.set_cons_zero, List.set_cons_succ])
   (refine q_plain rfl ?_; apply Exists.intro; refine ⟨fun W hW => ?_, ?_⟩; (focus (obtain ⟨x4, y4⟩ := keepB hW z4_6 r4_6 c4_6; obtain ⟨x7, y7⟩ := keepB hW z7_6 r7_6 c7_6; obtain ⟨x11, y11⟩ := keepB hW z11_6 r11_6 c11_6; obtain ⟨xAx, yAx⟩ := keepB hW zAx_7 rAx_7 cAx_7; go_simp; (go_at_call 125; exact (composeLinear_any p (actT p cc G (ebas i)) L _ hp hp' A2.out HL.out).mono fun e w2 ⟨he, hw2⟩ => ⟨he, hW.trans (hw2.mono hW.size)⟩))); simp only [Act.put, List.setIfInBounds_toArray, List.set_cons_zero, List.set_cons_succ])
   refine wpQuiet_nil ?_
   intro W8 hw8
   obtain ⟨r4_8, c4_8, z4_8⟩ := keepZ hw8 z4_6 r4_6 c4_6
   obtain ⟨r7_8, c7_8, z7_8⟩ := keepZ hw8 z7_6 r7_6 c7_6
   obtain ⟨r11_8, c11_8, z11_8⟩ := keepZ hw8 z11_6 r11_6 c11_6
   obtain ⟨rAx_8, cAx_8, zAx_8⟩ := keepZ hw8 zAx_7 rAx_7 cAx_7
   obtain ⟨hb8, q8⟩ := bN hb6 hw8
   have sz8 := hw8.size
   have hvR_8 := hvR_6.below hw8 (by omega)
   clear hw8 hvR_6 r4_6 c4_6 z4_6 r7_6 c7_6 z7_6 r11_6 c11_6 z11_6 rAx_7 cAx_7 zAx_7 hb6
   go_wp2_with fail
   have ltO4n9 : (w.heap.size) < W8.heap.size := z4_8
   have ltO7n9 : (w.heap.size + 1) < W8.heap.size := z7_8
   have ltOAxn9 : (gA_7) < W8.heap.size := zAx_8
   refine (flatLinear_any (compF p (actT p cc G (ebas i)) L) _ A4.out).mono ?_; rintro _ W9 ⟨aO_9, cO_9, rfl, hw9, hvO_9⟩
   obtain ⟨r4_9, c4_9, z4_9⟩ := keepZ hw9 z4_8 r4_8 c4_8
   obtain ⟨r7_9, c7_9, z7_9⟩ := keepZ hw9 z7_8 r7_8 c7_8
   obtain ⟨rAx_9, cAx_9, zAx_9⟩ := keepZ hw9 zAx_8 rAx_8 cAx_8
   obtain ⟨hb9, q9⟩ := bN hb8 hw9
   have sz9 := hw9.size
   have hvR_9 := hvR_8.below hw9 (by omega)
   clear hw9 hvR_8 r4_8 c4_8 z4_8 r7_8 c7_8 z7_8 rAx_8 cAx_8 zAx_8 hb8
   obtain ⟨gO_10, FO_10, eaO_10, gBO_10, gUO_10, rOx_10, hcO_10, hmO_10, cOx_10, hFbO_10, hFO_10⟩ := hvO_9.some (by omega)
   subst eaO_10
   have HFO_10 := Lib.hid hFO_10; clear hFO_10
   have HBO_10 := Lib.hid hFbO_10; clear hFbO_10
   have zOx_10 := isRow_lt rOx_10
   have n4_Ox : (w.heap.size) ≠ (gO_10) := by omega
   have n7_Ox : (w.heap.size + 1) ≠ (gO_10) := by omega
   have nAx_Ox : (gA_7) ≠ (gO_10) := by omega
   have nOx_4 : (gO_10) ≠ (w.heap.size) := by omega
   have nOx_7 : (gO_10) ≠ (w.heap.size + 1) := by omega
   have nOx_Ax : (gO_10) ≠ (gA_7) := by omega
   go_wp2
   refine wp_quiet_tail 7 (Below W9.heap.size W9) (by kernel_rfl) (by kernel_rfl) (Below.refl _ _).drew ?_
   simp only [List.take_succ_cons, List.take_zero, List.drop_succ_cons, List.drop_zero]
   iterate 5 (refine q_plain rfl ?_; apply Exists.intro; refine ⟨fun W hW => ?_, ?_⟩; (focus (obtain ⟨x4, y4⟩ := keepB hW z4_9 r4_9 c4_9; obtain ⟨x7, y7⟩ := keepB hW z7_9 r7_9 c7_9; obtain ⟨xAx, yAx⟩ := keepB hW zAx_9 rAx_9 cAx_9; obtain ⟨xOx, yOx⟩ := keepB hW zOx_10 rOx_10 cOx_10; go_simp; first | done | rfl)); simp only [Act.put, List.setIfInBounds_toArray, List.set_cons_zero, List.set_cons_succ])
   (refine q_plain rfl ?_; apply Exists.intro; refine ⟨fun W hW => ?_, ?_⟩; (focus (obtain ⟨x4, y4⟩ := keepB hW z4_9 r4_9 c4_9; obtain ⟨x7, y7⟩ := keepB hW z7_9 r7_9 c7_9; obtain ⟨xAx, yAx⟩ := keepB hW zAx_9 rAx_9 cAx_9; obtain ⟨xOx, yOx⟩ := keepB hW zOx_10 rOx_10 cOx_10; go_simp; (go_at_call 115; exact (negativeNumber_any p 1 _ hp hp' (by omega) (by omega)).mono fun e w2 ⟨he, hw2⟩ => ⟨he, hw2 ▸ hW⟩))); simp only [Act.put, List.setIfInBounds_toArray, List.set_cons_zero, List.set_cons_succ])
   iterate 1 (refine q_plain rfl ?_; apply Exists.intro; refine ⟨fun W hW => ?_, ?_⟩; (focus (obtain ⟨x4, y4⟩ := keepB hW z4_9 r4_9 c4_9; obtain ⟨x7, y7⟩ := keepB hW z7_9 r7_9 c7_9; obtain ⟨xAx, yAx⟩ := keepB hW zAx_9 rAx_9 cAx_9; obtain ⟨xOx, yOx⟩ := keepB hW zOx_10 rOx_10 cOx_10; go_simp; first | done | rfl)); simp only [Act.put, List.setIfInBounds_toArray, List.set_cons_zero, List.set_cons_succ])
   refine wpQuiet_nil ?_
   intro W11 hw11
   obtain ⟨r4_11, c4_11, z4_11⟩ := keepZ hw11 z4_9 r4_9 c4_9
   obtain ⟨r7_11, c7_11, z7_11⟩ := keepZ hw11 z7_9 r7_9 c7_9
   obtain ⟨rAx_11, cAx_11, zAx_11⟩ := keepZ hw11 zAx_9 rAx_9 cAx_9
   obtain ⟨rOx_11, cOx_11, zOx_11⟩ := keepZ hw11 zOx_10 rOx_10 cOx_10
   obtain ⟨hb11, q11⟩ := bN hb9 hw11
   have sz11 := hw11.size
   have hvR_11 := hvR_9.below hw11 (by omega)
   clear hw11 hvR_9 r4_9 c4_9 z4_9 r7_9 c7_9 z7_9 rAx_9 cAx_9 zAx_9 rOx_10 cOx_10 zOx_10 hb9
   go_wp2_with fail
   refine (addMultiple_any p (-1 % p) _ 0 _ 64 _ _ _ 0 FA_7 FO_10 _ hp hp' nb1 nb3 rAx_11 cAx_11 (by have := hcA_7; omega) (by omega) (fun t _ h => by rw [HFA_7.out t (by omega) 0 (by omega)]; exact comp_bt hp _ _ t) (byte_at (N := cO_9) (off' := 0) (m := 64) cOx_11 (by have := hcO_10; omega) (fun t _ => by rw [Nat.zero_add]) (fun t ht => HBO_10.out t (by have := hcO_10; omega))) (by omega)).mono ?_; rintro _ _ ⟨rfl, rfl⟩
   go_wp2_with (at_builtin; refine atomL ?_)
   intro W12 e12
   have hb12 : Below w.heap.size w W12 := by rw [e12]; exact bt
   have q12 := hb12.size
   have R12 : IsRow W12 (w.heap.size) ∧ IsRow W12 (w.heap.size + 1) ∧ IsRow W12 (gA_7) ∧ IsRow W12 (gO_10) := by rw [e12]; simp [go_sem, r4_11, c4_11, n4_Ax, n4_Ox, r7_11, c7_11, n7_Ax, n7_Ox, rAx_11, cAx_11, nAx_4, nAx_7, nAx_Ox, rOx_11, cOx_11, nOx_4, nOx_7, nOx_Ax]
   obtain ⟨r4_12, r7_12, rAx_12, rOx_12⟩ := R12
   have C12 := (⟨congrArg (blk · (w.heap.size)) e12, congrArg (blk · (w.heap.size + 1)) e12, congrArg (blk · (gA_7)) e12, congrArg (blk · (gO_10)) e12⟩ : _ ∧ _ ∧ _ ∧ _); simp [go_sem, r4_11, c4_11, n4_Ax, n4_Ox, r7_11, c7_11, n7_Ax, n7_Ox, rAx_11, cAx_11, nAx_4, nAx_7, nAx_Ox, rOx_11, cOx_11, nOx_4, nOx_7, nOx_Ax] at C12
   obtain ⟨c4_12, c7_12, cAx_12, cOx_12⟩ := C12
   have z4_12 := isRow_lt r4_12; have z7_12 := isRow_lt r7_12; have zAx_12 := isRow_lt rAx_12; have zOx_12 := isRow_lt rOx_12
   have hvR_12 : BL W12 (W1.heap.size) (UR_2) (aR_2) (i * 64) (cR_2) ((fun q _ => fauA p d cc F G L q)) := by rw [e12]; exact vtB
   clear e12 r4_11 c4_11 z4_11 r7_11 c7_11 z7_11 rAx_11 cAx_11 zAx_11 rOx_11 cOx_11 zOx_11 hvR_11 hb11
   refine appendB _ rfl _ _ rfl hvR_12 (by omega) rfl _ (0) (64) _ _ ((addm p 0 64 (-1 % p) FA_7 FO_10)) rfl (by omega) (by omega) (by have := hcA_7; omega) cAx_12 (fun t ht => by unfold addm; split; exact ⟨(mod_range _ p hp).1, by have := (mod_range (FA_7 t + -1 % p * FO_10 (t - 0)) p hp).2; omega⟩; exact HBA_7.out t ht) ?_
   intro aR_13 cR_13 W13 hg13 ha13 hvR_13
   obtain ⟨r4_13, c4_13⟩ := keepG hg13 (hvR_12.ne (by omega)) r4_12 c4_12
   have z4_13 := isRow_lt r4_13
   obtain ⟨r7_13, c7_13⟩ := keepG hg13 (hvR_12.ne (by omega)) r7_12 c7_12
   have z7_13 := isRow_lt r7_13
   obtain ⟨rAx_13, cAx_13⟩ := keepG hg13 (hvR_12.ne (by omega)) rAx_12 cAx_12
   have zAx_13 := isRow_lt rAx_13
   obtain ⟨rOx_13, cOx_13⟩ := keepG hg13 (hvR_12.ne (by omega)) rOx_12 cOx_12
   have zOx_13 := isRow_lt rOx_13
   have hb13 := below_ownB hb12 hvR_12 hg13 (by omega) (by omega)
   have q13 := hb13.size
   have sz13 := hg13.size
   clear hg13 ha13 r4_12 c4_12 z4_12 r7_12 c7_12 z7_12 rAx_12 cAx_12 zAx_12 rOx_12 cOx_12 zOx_12 hvR_12 hb12
   go_wp2
   go_roundw
   case rel => exact ⟨i + 1, (aR_13), (cR_13), (W13.heap.size), by omega, (by rw [Nat.add_mul, Nat.one_mul]), by go_num, bt, ⟨by simp [go_sem, r4_13, c4_13, n4_Ax, n4_Ox, r7_13, c7_13, n7_Ax, n7_Ox, rAx_13, cAx_13, nAx_4, nAx_7, nAx_Ox, rOx_13, cOx_13, nOx_4, nOx_7, nOx_Ax], (by rw [E4_2.out]; first | exact c4_13 | (simp [go_sem, r4_13, c4_13, n4_Ax, n4_Ox, r7_13, c7_13, n7_Ax, n7_Ox, rAx_13, cAx_13, nAx_4, nAx_7, nAx_Ox, rOx_13, cOx_13, nOx_4, nOx_7, nOx_Ax]; done))⟩, ⟨by simp [go_sem, r4_13, c4_13, n4_Ax, n4_Ox, r7_13, c7_13, n7_Ax, n7_Ox, rAx_13, cAx_13, nAx_4, nAx_7, nAx_Ox, rOx_13, cOx_13, nOx_4, nOx_7, nOx_Ax], (by rw [E7_2.out]; first | exact c7_13 | (simp [go_sem, r4_13, c4_13, n4_Ax, n4_Ox, r7_13, c7_13, n7_Ax, n7_Ox, rAx_13, cAx_13, nAx_4, nAx_7, nAx_Ox, rOx_13, cOx_13, nOx_4, nOx_7, nOx_Ax]; done))⟩, (hvR_13).same (by omega) (fau_add (fun u hu => HFA_7.out u hu 0 (by omega)) (fun u hu => HFO_10.out u hu 0 (by omega))), bu⟩
   case measure => simp [intOf]; try omega
  ·
   obtain rfl : n = i := by omega
   go_wp2_with fail
   go_ret
   exact ⟨aR_2, cR_2, rfl, bt, (hvR_2).wider (by omega) (by omega)⟩

set_option maxRecDepth 100000 in
set_option maxHeartbeats 1000000 in
theorem l06Images_any (p n : Int) (f : Nat → Int) (d c : Int) (F G L : Nat → Int) (w : World) (hf : Bytes 1104 f) (hF : Bytes 512 F) (hG : Bytes 512 G) (hL : Bytes 64 L) :
    Calls Tryz.prog 86 #[.agg (hop p n f), .agg (mdl d F), .agg (mdl c G), .agg (row 64 L)] w fun e w' => e = .returned (.bool (imgS p c d L)) ∧ Below w.heap.size w w' := by
 have Hf := Lib.hid hf; clear hf
 have HF := Lib.hid hF; clear hF
 have HG := Lib.hid hG; clear hG
 have HL := Lib.hid hL; clear hL
 go_enter Tryz.func86, Tryz.ntmps86
 go_wp2
 refine atomW fun W1 e1 => ?_
 have hb1 : Below w.heap.size w W1 := by rw [e1]; exact bt
 have q1 := hb1.size
 have R1 : IsRow W1 (w.heap.size) ∧ IsRow W1 (w.heap.size + 1) ∧ IsRow W1 (w.heap.size + 2) ∧ IsRow W1 (w.heap.size + 3) := by rw [e1]; simp [go_sem]
 obtain ⟨r4_1, r5_1, r6_1, r7_1⟩ := R1
 have C1 := (⟨congrArg (blk · (w.heap.size)) e1, congrArg (blk · (w.heap.size + 1)) e1, congrArg (blk · (w.heap.size + 2)) e1, congrArg (blk · (w.heap.size + 3)) e1⟩ : _ ∧ _ ∧ _ ∧ _); simp [go_sem] at C1
 obtain ⟨c4_1, c5_1, c6_1, c7_1⟩ := C1
 have z4_1 := isRow_lt r4_1; have z5_1 := isRow_lt r5_1; have z6_1 := isRow_lt r6_1; have z7_1 := isRow_lt r7_1
 clear e1
 go_loopw [9] (fun s9 wr => ∃ i : Nat, i ≤ 8 ∧ s9 = .int .i64 i ∧ Below w.heap.size w wr ∧ (IsRow wr (w.heap.size) ∧ blk wr (w.heap.size) = blk W1 (w.heap.size)) ∧ (IsRow wr (w.heap.size + 1) ∧ blk wr (w.heap.size + 1) = blk W1 (w.heap.size + 1)) ∧ (IsRow wr (w.heap.size + 2) ∧ blk wr (w.heap.size + 2) = blk W1 (w.heap.size + 2)) ∧ (IsRow wr (w.heap.size + 3) ∧ blk wr (w.heap.size + 3) = blk W1 (w.heap.size + 3)) ∧ ∀ x, x < i → entS p c d L x = true) (fun s9 _ => 8 - (intOf s9).toNat)
 case atStart => exact ⟨0, by omega, rfl, hb1, ⟨r4_1, rfl⟩, ⟨r5_1, rfl⟩, ⟨r6_1, rfl⟩, ⟨r7_1, rfl⟩, fun x hx => by omega⟩
 case round =>
  obtain ⟨i, hle2, rfl, hb2, ⟨r4_2, c4_2⟩, ⟨r5_2, c5_2⟩, ⟨r6_2, c6_2⟩, ⟨r7_2, c7_2⟩, hx2⟩ := hrel
  obtain ⟨W2, rfl⟩ : ∃ W2 : World, W2 = wr := ⟨_, rfl⟩
  have q2 := hb2.size
  have HX2 := Lib.hid hx2; clear hx2
  have E4_2 := Lib.hid c4_1; replace c4_2 := c4_2.trans c4_1
  have z4_2 := isRow_lt r4_2
  have E5_2 := Lib.hid c5_1; replace c5_2 := c5_2.trans c5_1
  have z5_2 := isRow_lt r5_2
  have E6_2 := Lib.hid c6_1; replace c6_2 := c6_2.trans c6_1
  have z6_2 := isRow_lt r6_2
  have E7_2 := Lib.hid c7_1; replace c7_2 := c7_2.trans c7_1
  have z7_2 := isRow_lt r7_2
  clear r4_1 c4_1 z4_1 r5_1 c5_1 z5_1 r6_1 c6_1 z6_1 r7_1 c7_1 z7_1 hb1
  by_cases hlt2 : i < 8
  ·
   have i0_2 : (0 : Int) ≤ (i : Int) := by omega
   have i8_2 : (i : Int) < 8 := by omega
   have k8_2 : i < 8 := by omega
   have m8_2 : i * 8 + 8 ≤ 64 := by omega
   have m64_2 : i * 64 + 64 ≤ 512 := by omega
   have l1_2 : 10 + i * 64 + 64 ≤ 522 := by omega
   cases hv : vecB p c (rowOf 8 L i)
   ·
    have HV : Hid (Bytes 8 (rowOf 8 L i)) := Lib.hid fun t ht => HL.out (i * 8 + t) (by omega)
    have e1 : (row 64 L).extract (i * 8) (i * 8 + 8) = row 8 (rowOf 8 L i) := row_part 64 8 (i * 8) L (by omega)
    have H : Hid (imgS p c d L = false) := Lib.hid (all_no (q := entS p c d L) i 8 (by omega) (by unfold entS; rw [hv, Bool.false_and]))
    go_wp2
    refine wp_quiet_all (Below W2.heap.size W2) (by kernel_rfl) (by kernel_rfl) (Below.refl _ _).drew ?_
    iterate 7 (refine q_plain rfl ?_; apply Exists.intro; refine ⟨fun W hW => ?_, ?_⟩; (focus (obtain ⟨x4, y4⟩ := keepB hW z4_2 r4_2 c4_2; obtain ⟨x5, y5⟩ := keepB hW z5_2 r5_2 c5_2; obtain ⟨x6, y6⟩ := keepB hW z6_2 r6_2 c6_2; obtain ⟨x7, y7⟩ := keepB hW z7_2 r7_2 c7_2; go_simp; first | done | rfl)); simp only [Act.put, List.setIfInBounds_toArray, List.set_cons_zero, List.set_cons_succ])
    (refine q_plain rfl ?_; apply Exists.intro; refine ⟨fun W hW => ?_, ?_⟩; (focus (obtain ⟨x4, y4⟩ := keepB hW z4_2 r4_2 c4_2; obtain ⟨x5, y5⟩ := keepB hW z5_2 r5_2 c5_2; obtain ⟨x6, y6⟩ := keepB hW z6_2 r6_2 c6_2; obtain ⟨x7, y7⟩ := keepB hW z7_2 r7_2 c7_2; go_simp; (go_at_call 118; exact (l01Vector_any p c (rowOf 8 L i) _ HV.out).mono fun e w2 ⟨he, hw2⟩ => ⟨he, hW.trans (hw2.mono hW.size)⟩))); simp only [Act.put, List.setIfInBounds_toArray, List.set_cons_zero, List.set_cons_succ])
    iterate 2 (refine q_plain rfl ?_; apply Exists.intro; refine ⟨fun W hW => ?_, ?_⟩; (focus (obtain ⟨x4, y4⟩ := keepB hW z4_2 r4_2 c4_2; obtain ⟨x5, y5⟩ := keepB hW z5_2 r5_2 c5_2; obtain ⟨x6, y6⟩ := keepB hW z6_2 r6_2 c6_2; obtain ⟨x7, y7⟩ := keepB hW z7_2 r7_2 c7_2; go_simp; first | done | rfl)); simp only [Act.put, List.setIfInBounds_toArray, List.set_cons_zero, List.set_cons_succ])
    iterate 11 (refine q_skip (by kernel_rfl) ?_; simp only [Act.put, List.setIfInBounds_toArray, List.set_cons_zero, List.set_cons_succ])
    iterate 1 (refine q_plain rfl ?_; apply Exists.intro; refine ⟨fun W hW => ?_, ?_⟩; (focus (obtain ⟨x4, y4⟩ := keepB hW z4_2 r4_2 c4_2; obtain ⟨x5, y5⟩ := keepB hW z5_2 r5_2 c5_2; obtain ⟨x6, y6⟩ := keepB hW z6_2 r6_2 c6_2; obtain ⟨x7, y7⟩ := keepB hW z7_2 r7_2 c7_2; go_simp; first | done | rfl)); simp only [Act.put, List.setIfInBounds_toArray, List.set_cons_zero, List.set_cons_succ])
    refine wpQuiet_nil ?_
    intro W3 hw3
    obtain ⟨r4_3, c4_3, z4_3⟩ := keepZ hw3 z4_2 r4_2 c4_2
    obtain ⟨r5_3, c5_3, z5_3⟩ := keepZ hw3 z5_2 r5_2 c5_2
    obtain ⟨r6_3, c6_3, z6_3⟩ := keepZ hw3 z6_2 r6_2 c6_2
    obtain ⟨r7_3, c7_3, z7_3⟩ := keepZ hw3 z7_2 r7_2 c7_2
    obtain ⟨hb3, q3⟩ := bN hb2 hw3
    clear hw3 r4_2 c4_2 z4_2 r5_2 c5_2 z5_2 r6_2 c6_2 z6_2 r7_2 c7_2 z7_2 hb2
    go_wp2_with fail
    go_ret
    exact ⟨ret_bool (by rw [H.out]), bt⟩
   ·
    by_cases hid : (i : Int) < d
    ·
     have HV : Hid (Bytes 8 (rowOf 8 L i)) := Lib.hid fun t ht => HL.out (i * 8 + t) (by omega)
     have e1 : (row 64 L).extract (i * 8) (i * 8 + 8) = row 8 (rowOf 8 L i) := row_part 64 8 (i * 8) L (by omega)
     have y1 : decide (d ≤ (i : Int)) = false := decide_eq_false (by omega)
     have H := Lib.hid (upto_more (q := entS p c d L) HX2.out (show entS p c d L i = true by unfold entS; rw [hv, decide_eq_true hid]; rfl))
     go_wp2
     refine wp_quiet_all (Below W2.heap.size W2) (by kernel_rfl) (by kernel_rfl) (Below.refl _ _).drew ?_
     iterate 7 (refine q_plain rfl ?_; apply Exists.intro; refine ⟨fun W hW => ?_, ?_⟩; (focus (obtain ⟨x4, y4⟩ := keepB hW z4_2 r4_2 c4_2; obtain ⟨x5, y5⟩ := keepB hW z5_2 r5_2 c5_2; obtain ⟨x6, y6⟩ := keepB hW z6_2 r6_2 c6_2; obtain ⟨x7, y7⟩ := keepB hW z7_2 r7_2 c7_2; go_simp; first | done | rfl)); simp only [Act.put, List.setIfInBounds_toArray, List.set_cons_zero, List.set_cons_succ])
     (refine q_plain rfl ?_; apply Exists.intro; refine ⟨fun W hW => ?_, ?_⟩; (focus (obtain ⟨x4, y4⟩ := keepB hW z4_2 r4_2 c4_2; obtain ⟨x5, y5⟩ := keepB hW z5_2 r5_2 c5_2; obtain ⟨x6, y6⟩ := keepB hW z6_2 r6_2 c6_2; obtain ⟨x7, y7⟩ := keepB hW z7_2 r7_2 c7_2; go_simp; (go_at_call 118; exact (l01Vector_any p c (rowOf 8 L i) _ HV.out).mono fun e w2 ⟨he, hw2⟩ => ⟨he, hW.trans (hw2.mono hW.size)⟩))); simp only [Act.put, List.setIfInBounds_toArray, List.set_cons_zero, List.set_cons_succ])
     iterate 2 (refine q_plain rfl ?_; apply Exists.intro; refine ⟨fun W hW => ?_, ?_⟩; (focus (obtain ⟨x4, y4⟩ := keepB hW z4_2 r4_2 c4_2; obtain ⟨x5, y5⟩ := keepB hW z5_2 r5_2 c5_2; obtain ⟨x6, y6⟩ := keepB hW z6_2 r6_2 c6_2; obtain ⟨x7, y7⟩ := keepB hW z7_2 r7_2 c7_2; go_simp; first | done | rfl)); simp only [Act.put, List.setIfInBounds_toArray, List.set_cons_zero, List.set_cons_succ])
     iterate 5 (refine q_want (by kernel_rfl) ?_; apply Exists.intro; refine ⟨fun W hW => ?_, ?_⟩; (focus (obtain ⟨x4, y4⟩ := keepB hW z4_2 r4_2 c4_2; obtain ⟨x5, y5⟩ := keepB hW z5_2 r5_2 c5_2; obtain ⟨x6, y6⟩ := keepB hW z6_2 r6_2 c6_2; obtain ⟨x7, y7⟩ := keepB hW z7_2 r7_2 c7_2; go_simp; first | done | rfl)); simp only [Act.put, List.setIfInBounds_toArray, List.set_cons_zero, List.set_cons_succ])
     iterate 5 (refine q_skip (by kernel_rfl) ?_; simp only [Act.put, List.setIfInBounds_toArray, List.set_cons_zero, List.set_cons_succ])
     iterate 1 (refine q_want (by kernel_rfl) ?_; apply Exists.intro; refine ⟨fun W hW => ?_, ?_⟩; (focus (obtain ⟨x4, y4⟩ := keepB hW z4_2 r4_2 c4_2; obtain ⟨x5, y5⟩ := keepB hW z5_2 r5_2 c5_2; obtain ⟨x6, y6⟩ := keepB hW z6_2 r6_2 c6_2; obtain ⟨x7, y7⟩ := keepB hW z7_2 r7_2 c7_2; go_simp; first | done | rfl)); simp only [Act.put, List.setIfInBounds_toArray, List.set_cons_zero, List.set_cons_succ])
     iterate 1 (refine q_plain rfl ?_; apply Exists.intro; refine ⟨fun W hW => ?_, ?_⟩; (focus (obtain ⟨x4, y4⟩ := keepB hW z4_2 r4_2 c4_2; obtain ⟨x5, y5⟩ := keepB hW z5_2 r5_2 c5_2; obtain ⟨x6, y6⟩ := keepB hW z6_2 r6_2 c6_2; obtain ⟨x7, y7⟩ := keepB hW z7_2 r7_2 c7_2; go_simp; first | done | rfl)); simp only [Act.put, List.setIfInBounds_toArray, List.set_cons_zero, List.set_cons_succ])
     refine wpQuiet_nil ?_
     intro W4 hw4
     obtain ⟨r4_4, c4_4, z4_4⟩ := keepZ hw4 z4_2 r4_2 c4_2
     obtain ⟨r5_4, c5_4, z5_4⟩ := keepZ hw4 z5_2 r5_2 c5_2
     obtain ⟨r6_4, c6_4, z6_4⟩ := keepZ hw4 z6_2 r6_2 c6_2
     obtain ⟨r7_4, c7_4, z7_4⟩ := keepZ hw4 z7_2 r7_2 c7_2
     obtain ⟨hb4, q4⟩ := bN hb2 hw4
     clear hw4 r4_2 c4_2 z4_2 r5_2 c5_2 z5_2 r6_2 c6_2 z6_2 r7_2 c7_2 z7_2 hb2
     go_wp2
     go_roundw
     case rel => exact ⟨i + 1, by omega, by go_num, bt, ⟨by simp [go_sem, r4_4, c4_4, r5_4, c5_4, r6_4, c6_4, r7_4, c7_4], (by rw [E4_2.out]; first | exact c4_4 | (simp [go_sem, r4_4, c4_4, r5_4, c5_4, r6_4, c6_4, r7_4, c7_4]; done))⟩, ⟨by simp [go_sem, r4_4, c4_4, r5_4, c5_4, r6_4, c6_4, r7_4, c7_4], (by rw [E5_2.out]; first | exact c5_4 | (simp [go_sem, r4_4, c4_4, r5_4, c5_4, r6_4, c6_4, r7_4, c7_4]; done))⟩, ⟨by simp [go_sem, r4_4, c4_4, r5_4, c5_4, r6_4, c6_4, r7_4, c7_4], (by rw [E6_2.out]; first | exact c6_4 | (simp [go_sem, r4_4, c4_4, r5_4, c5_4, r6_4, c6_4, r7_4, c7_4]; done))⟩, ⟨by simp [go_sem, r4_4, c4_4, r5_4, c5_4, r6_4, c6_4, r7_4, c7_4], (by rw [E7_2.out]; first | exact c7_4 | (simp [go_sem, r4_4, c4_4, r5_4, c5_4, r6_4, c6_4, r7_4, c7_4]; done))⟩, H.out⟩
     case measure => simp [intOf]; try omega
    ·
     cases hz : segEq 0 8 (rowOf 8 L i) zf
     ·
      have HV : Hid (Bytes 8 (rowOf 8 L i)) := Lib.hid fun t ht => HL.out (i * 8 + t) (by omega)
      have e1 : (row 64 L).extract (i * 8) (i * 8 + 8) = row 8 (rowOf 8 L i) := row_part 64 8 (i * 8) L (by omega)
      have y1 : decide (d ≤ (i : Int)) = true := decide_eq_true (by omega)
      have H : Hid (imgS p c d L = false) := Lib.hid (all_no (q := entS p c d L) i 8 (by omega) (by unfold entS; rw [hv, hz, decide_eq_false hid, Bool.or_false, Bool.and_false]))
      go_wp2
      refine wp_quiet_all (Below W2.heap.size W2) (by kernel_rfl) (by kernel_rfl) (Below.refl _ _).drew ?_
      iterate 7 (refine q_plain rfl ?_; apply Exists.intro; refine ⟨fun W hW => ?_, ?_⟩; (focus (obtain ⟨x4, y4⟩ := keepB hW z4_2 r4_2 c4_2; obtain ⟨x5, y5⟩ := keepB hW z5_2 r5_2 c5_2; obtain ⟨x6, y6⟩ := keepB hW z6_2 r6_2 c6_2; obtain ⟨x7, y7⟩ := keepB hW z7_2 r7_2 c7_2; go_simp; first | done | rfl)); simp only [Act.put, List.setIfInBounds_toArray, List.set_cons_zero, List.set_cons_succ])
      (refine q_plain rfl ?_; apply Exists.intro; refine ⟨fun W hW => ?_, ?_⟩; (focus (obtain ⟨x4, y4⟩ := keepB hW z4_2 r4_2 c4_2; obtain ⟨x5, y5⟩ := keepB hW z5_2 r5_2 c5_2; obtain ⟨x6, y6⟩ := keepB hW z6_2 r6_2 c6_2; obtain ⟨x7, y7⟩ := keepB hW z7_2 r7_2 c7_2; go_simp; (go_at_call 118; exact (l01Vector_any p c (rowOf 8 L i) _ HV.out).mono fun e w2 ⟨he, hw2⟩ => ⟨he, hW.trans (hw2.mono hW.size)⟩))); simp only [Act.put, List.setIfInBounds_toArray, List.set_cons_zero, List.set_cons_succ])
      iterate 2 (refine q_plain rfl ?_; apply Exists.intro; refine ⟨fun W hW => ?_, ?_⟩; (focus (obtain ⟨x4, y4⟩ := keepB hW z4_2 r4_2 c4_2; obtain ⟨x5, y5⟩ := keepB hW z5_2 r5_2 c5_2; obtain ⟨x6, y6⟩ := keepB hW z6_2 r6_2 c6_2; obtain ⟨x7, y7⟩ := keepB hW z7_2 r7_2 c7_2; go_simp; first | done | rfl)); simp only [Act.put, List.setIfInBounds_toArray, List.set_cons_zero, List.set_cons_succ])
      iterate 8 (refine q_want (by kernel_rfl) ?_; apply Exists.intro; refine ⟨fun W hW => ?_, ?_⟩; (focus (obtain ⟨x4, y4⟩ := keepB hW z4_2 r4_2 c4_2; obtain ⟨x5, y5⟩ := keepB hW z5_2 r5_2 c5_2; obtain ⟨x6, y6⟩ := keepB hW z6_2 r6_2 c6_2; obtain ⟨x7, y7⟩ := keepB hW z7_2 r7_2 c7_2; go_simp; first | done | rfl)); simp only [Act.put, List.setIfInBounds_toArray, List.set_cons_zero, List.set_cons_succ])
      (refine q_want (by kernel_rfl) ?_; apply Exists.intro; refine ⟨fun W hW => ?_, ?_⟩; (focus (obtain ⟨x4, y4⟩ := keepB hW z4_2 r4_2 c4_2; obtain ⟨x5, y5⟩ := keepB hW z5_2 r5_2 c5_2; obtain ⟨x6, y6⟩ := keepB hW z6_2 r6_2 c6_2; obtain ⟨x7, y7⟩ := keepB hW z7_2 r7_2 c7_2; go_simp; (go_at_call 97; exact (l01Zero_any (rowOf 8 L i) _).mono fun e w2 ⟨he, hw2⟩ => ⟨he, hW.trans (hw2.mono hW.size)⟩))); simp only [Act.put, List.setIfInBounds_toArray, List.set_cons_zero, List.set_cons_succ])
      iterate 2 (refine q_want (by kernel_rfl) ?_; apply Exists.intro; refine ⟨fun W hW => ?_, ?_⟩; (focus (obtain ⟨x4, y4⟩ := keepB hW z4_2 r4_2 c4_2; obtain ⟨x5, y5⟩ := keepB hW z5_2 r5_2 c5_2; obtain ⟨x6, y6⟩ := keepB hW z6_2 r6_2 c6_2; obtain ⟨x7, y7⟩ := keepB hW z7_2 r7_2 c7_2; go_simp; first | done | rfl)); simp only [Act.put, List.setIfInBounds_toArray, List.set_cons_zero, List.set_cons_succ])
      iterate 1 (refine q_plain rfl ?_; apply Exists.intro; refine ⟨fun W hW => ?_, ?_⟩; (focus (obtain ⟨x4, y4⟩ := keepB hW z4_2 r4_2 c4_2; obtain ⟨x5, y5⟩ := keepB hW z5_2 r5_2 c5_2; obtain ⟨x6, y6⟩ := keepB hW z6_2 r6_2 c6_2; obtain ⟨x7, y7⟩ := keepB hW z7_2 r7_2 c7_2; go_simp; first | done | rfl)); simp only [Act.put, List.setIfInBounds_toArray, List.set_cons_zero, List.set_cons_succ])
      refine wpQuiet_nil ?_
      intro W5 hw5
      obtain ⟨r4_5, c4_5, z4_5⟩ := keepZ hw5 z4_2 r4_2 c4_2
      obtain ⟨r5_5, c5_5, z5_5⟩ := keepZ hw5 z5_2 r5_2 c5_2
      obtain ⟨r6_5, c6_5, z6_5⟩ := keepZ hw5 z6_2 r6_2 c6_2
      obtain ⟨r7_5, c7_5, z7_5⟩ := keepZ hw5 z7_2 r7_2 c7_2
      obtain ⟨hb5, q5⟩ := bN hb2 hw5
      clear hw5 r4_2 c4_2 z4_2 r5_2 c5_2 z5_2 r6_2 c6_2 z6_2 r7_2 c7_2 z7_2 hb2
      go_wp2_with fail
      go_ret
      exact ⟨ret_bool (by rw [H.out]), bt⟩
     ·
      have HV : Hid (Bytes 8 (rowOf 8 L i)) := Lib.hid fun t ht => HL.out (i * 8 + t) (by omega)
      have e1 : (row 64 L).extract (i * 8) (i * 8 + 8) = row 8 (rowOf 8 L i) := row_part 64 8 (i * 8) L (by omega)
      have y1 : decide (d ≤ (i : Int)) = true := decide_eq_true (by omega)
      have H := Lib.hid (upto_more (q := entS p c d L) HX2.out (show entS p c d L i = true by unfold entS; rw [hv, hz, Bool.or_true]; rfl))
      go_wp2
      refine wp_quiet_all (Below W2.heap.size W2) (by kernel_rfl) (by kernel_rfl) (Below.refl _ _).drew ?_
      iterate 7 (refine q_plain rfl ?_; apply Exists.intro; refine ⟨fun W hW => ?_, ?_⟩; (focus (obtain ⟨x4, y4⟩ := keepB hW z4_2 r4_2 c4_2; obtain ⟨x5, y5⟩ := keepB hW z5_2 r5_2 c5_2; obtain ⟨x6, y6⟩ := keepB hW z6_2 r6_2 c6_2; obtain ⟨x7, y7⟩ := keepB hW z7_2 r7_2 c7_2; go_simp; first | done | rfl)); simp only [Act.put, List.setIfInBounds_toArray, List.set_cons_zero, List.set_cons_succ])
      (refine q_plain rfl ?_; apply Exists.intro; refine ⟨fun W hW => ?_, ?_⟩; (focus (obtain ⟨x4, y4⟩ := keepB hW z4_2 r4_2 c4_2; obtain ⟨x5, y5⟩ := keepB hW z5_2 r5_2 c5_2; obtain ⟨x6, y6⟩ := keepB hW z6_2 r6_2 c6_2; obtain ⟨x7, y7⟩ := keepB hW z7_2 r7_2 c7_2; go_simp; (go_at_call 118; exact (l01Vector_any p c (rowOf 8 L i) _ HV.out).mono fun e w2 ⟨he, hw2⟩ => ⟨he, hW.trans (hw2.mono hW.size)⟩))); simp only [Act.put, List.setIfInBounds_toArray, List.set_cons_zero, List.set_cons_succ])
      iterate 2 (refine q_plain rfl ?_; apply Exists.intro; refine ⟨fun W hW => ?_, ?_⟩; (focus (obtain ⟨x4, y4⟩ := keepB hW z4_2 r4_2 c4_2; obtain ⟨x5, y5⟩ := keepB hW z5_2 r5_2 c5_2; obtain ⟨x6, y6⟩ := keepB hW z6_2 r6_2 c6_2; obtain ⟨x7, y7⟩ := keepB hW z7_2 r7_2 c7_2; go_simp; first | done | rfl)); simp only [Act.put, List.setIfInBounds_toArray, List.set_cons_zero, List.set_cons_succ])
      iterate 8 (refine q_want (by kernel_rfl) ?_; apply Exists.intro; refine ⟨fun W hW => ?_, ?_⟩; (focus (obtain ⟨x4, y4⟩ := keepB hW z4_2 r4_2 c4_2; obtain ⟨x5, y5⟩ := keepB hW z5_2 r5_2 c5_2; obtain ⟨x6, y6⟩ := keepB hW z6_2 r6_2 c6_2; obtain ⟨x7, y7⟩ := keepB hW z7_2 r7_2 c7_2; go_simp; first | done | rfl)); simp only [Act.put, List.setIfInBounds_toArray, List.set_cons_zero, List.set_cons_succ])
      (refine q_want (by kernel_rfl) ?_; apply Exists.intro; refine ⟨fun W hW => ?_, ?_⟩; (focus (obtain ⟨x4, y4⟩ := keepB hW z4_2 r4_2 c4_2; obtain ⟨x5, y5⟩ := keepB hW z5_2 r5_2 c5_2; obtain ⟨x6, y6⟩ := keepB hW z6_2 r6_2 c6_2; obtain ⟨x7, y7⟩ := keepB hW z7_2 r7_2 c7_2; go_simp; (go_at_call 97; exact (l01Zero_any (rowOf 8 L i) _).mono fun e w2 ⟨he, hw2⟩ => ⟨he, hW.trans (hw2.mono hW.size)⟩))); simp only [Act.put, List.setIfInBounds_toArray, List.set_cons_zero, List.set_cons_succ])
      iterate 2 (refine q_want (by kernel_rfl) ?_; apply Exists.intro; refine ⟨fun W hW => ?_, ?_⟩; (focus (obtain ⟨x4, y4⟩ := keepB hW z4_2 r4_2 c4_2; obtain ⟨x5, y5⟩ := keepB hW z5_2 r5_2 c5_2; obtain ⟨x6, y6⟩ := keepB hW z6_2 r6_2 c6_2; obtain ⟨x7, y7⟩ := keepB hW z7_2 r7_2 c7_2; go_simp; first | done | rfl)); simp only [Act.put, List.setIfInBounds_toArray, List.set_cons_zero, List.set_cons_succ])
      iterate 1 (refine q_plain rfl ?_; apply Exists.intro; refine ⟨fun W hW => ?_, ?_⟩; (focus (obtain ⟨x4, y4⟩ := keepB hW z4_2 r4_2 c4_2; obtain ⟨x5, y5⟩ := keepB hW z5_2 r5_2 c5_2; obtain ⟨x6, y6⟩ := keepB hW z6_2 r6_2 c6_2; obtain ⟨x7, y7⟩ := keepB hW z7_2 r7_2 c7_2; go_simp; first | done | rfl)); simp only [Act.put, List.setIfInBounds_toArray, List.set_cons_zero, List.set_cons_succ])
      refine wpQuiet_nil ?_
      intro W6 hw6
      obtain ⟨r4_6, c4_6, z4_6⟩ := keepZ hw6 z4_2 r4_2 c4_2
      obtain ⟨r5_6, c5_6, z5_6⟩ := keepZ hw6 z5_2 r5_2 c5_2
      obtain ⟨r6_6, c6_6, z6_6⟩ := keepZ hw6 z6_2 r6_2 c6_2
      obtain ⟨r7_6, c7_6, z7_6⟩ := keepZ hw6 z7_2 r7_2 c7_2
      obtain ⟨hb6, q6⟩ := bN hb2 hw6
      clear hw6 r4_2 c4_2 z4_2 r5_2 c5_2 z5_2 r6_2 c6_2 z6_2 r7_2 c7_2 z7_2 hb2
      go_wp2
      go_roundw
      case rel => exact ⟨i + 1, by omega, by go_num, bt, ⟨by simp [go_sem, r4_6, c4_6, r5_6, c5_6, r6_6, c6_6, r7_6, c7_6], (by rw [E4_2.out]; first | exact c4_6 | (simp [go_sem, r4_6, c4_6, r5_6, c5_6, r6_6, c6_6, r7_6, c7_6]; done))⟩, ⟨by simp [go_sem, r4_6, c4_6, r5_6, c5_6, r6_6, c6_6, r7_6, c7_6], (by rw [E5_2.out]; first | exact c5_6 | (simp [go_sem, r4_6, c4_6, r5_6, c5_6, r6_6, c6_6, r7_6, c7_6]; done))⟩, ⟨by simp [go_sem, r4_6, c4_6, r5_6, c5_6, r6_6, c6_6, r7_6, c7_6], (by rw [E6_2.out]; first | exact c6_6 | (simp [go_sem, r4_6, c4_6, r5_6, c5_6, r6_6, c6_6, r7_6, c7_6]; done))⟩, ⟨by simp [go_sem, r4_6, c4_6, r5_6, c5_6, r6_6, c6_6, r7_6, c7_6], (by rw [E7_2.out]; first | exact c7_6 | (simp [go_sem, r4_6, c4_6, r5_6, c5_6, r6_6, c6_6, r7_6, c7_6]; done))⟩, H.out⟩
      case measure => simp [intOf]; try omega
  ·
   obtain rfl : i = 8 := by omega
   have H : Hid (imgS p c d L = true) := Lib.hid (all_yes (q := entS p c d L) 8 HX2.out)
   go_wp2_with fail
   go_ret
   exact ⟨ret_bool (by rw [H.out] <;> rfl), bt⟩

theorem hm2_sizes {p n : Int} {f : Nat → Int} {d c : Int} {F G : Nat → Int} (hc : hm2 p n f d c F G = true) : sizesB p c = true := by
  have hh := (hm2_parts hc).1
  have hm := (hm2_parts hc).2.2
  have hs := hopf_sizes hh
  obtain ⟨_, _, hn1, _⟩ := sizes_range hs
  obtain ⟨n, rfl⟩ := Int.eq_ofNat_of_zero_le (show 0 ≤ n by omega)
  rw [Int.toNat_natCast] at hm
  exact modB_sizes hs hm

set_option maxRecDepth 100000 in
set_option maxHeartbeats 2000000 in
theorem implMap_any (p n : Int) (f : Nat → Int) (d c : Int) (F G L : Nat → Int) (w : World) (hf : Bytes 1104 f) (hF : Bytes 512 F) (hG : Bytes 512 G) (hL : Bytes 64 L) :
    Calls Tryz.prog 45 #[.agg (hop p n f), .agg (mdl d F), .agg (mdl c G), .agg (row 64 L)] w fun e w' => e = .returned (.tuple #[.bool ((hm2 p n f d c F G && imgS p c d L) && mapB p n.toNat d.toNat c.toNat F G L), .int .i64 (codeB (hm2 p n f d c F G && imgS p c d L))]) ∧ Below w.heap.size w w' := by
 have Hf := Lib.hid hf; clear hf
 have HF := Lib.hid hF; clear hF
 have HG := Lib.hid hG; clear hG
 have HL := Lib.hid hL; clear hL
 cases hi0 : imgB p c d L
 ·
  have H : Hid ((hm2 p n f d c F G && imgS p c d L) = false) := Lib.hid (by cases hc : hm2 p n f d c F G; rfl; rw [← img_same (hm2_sizes hc), hi0]; rfl)
  go_enter Tryz.func45, Tryz.ntmps45
  go_wp2_with fail
  refine atomC fun W1 e1 => ?_
  have hb1 : Below w.heap.size w W1 := by rw [e1]; exact bt
  have q1 := hb1.size
  have R1 : IsRow W1 (w.heap.size) ∧ IsRow W1 (w.heap.size + 1) ∧ IsRow W1 (w.heap.size + 2) ∧ IsRow W1 (w.heap.size + 3) := by rw [e1]; simp [go_sem]
  obtain ⟨r4_1, r5_1, r6_1, r7_1⟩ := R1
  have C1 := (⟨congrArg (blk · (w.heap.size)) e1, congrArg (blk · (w.heap.size + 1)) e1, congrArg (blk · (w.heap.size + 2)) e1, congrArg (blk · (w.heap.size + 3)) e1⟩ : _ ∧ _ ∧ _ ∧ _); simp [go_sem] at C1
  obtain ⟨c4_1, c5_1, c6_1, c7_1⟩ := C1
  have z4_1 := isRow_lt r4_1; have z5_1 := isRow_lt r5_1; have z6_1 := isRow_lt r6_1; have z7_1 := isRow_lt r7_1
  clear e1
  refine (hasImages_any p c d L _ HL.out).mono ?_; rintro _ W2 ⟨rfl, hw2⟩
  obtain ⟨r4_2, c4_2, z4_2⟩ := keepZ hw2 z4_1 r4_1 c4_1
  obtain ⟨r5_2, c5_2, z5_2⟩ := keepZ hw2 z5_1 r5_1 c5_1
  obtain ⟨r6_2, c6_2, z6_2⟩ := keepZ hw2 z6_1 r6_1 c6_1
  obtain ⟨r7_2, c7_2, z7_2⟩ := keepZ hw2 z7_1 r7_1 c7_1
  obtain ⟨hb2, q2⟩ := bN hb1 hw2
  clear hw2 r4_1 c4_1 z4_1 r5_1 c5_1 z5_1 r6_1 c6_1 z6_1 r7_1 c7_1 z7_1 hb1
  go_wp2_with fail
  go_ret2
  exact ⟨ret_bi (by rw [H.out]; rfl) (by rw [H.out]; rfl), bt⟩
 ·
  cases hc : hm2 p n f d c F G
  ·
   go_enter Tryz.func45, Tryz.ntmps45
   go_wp2_with fail
   refine atomC fun W3 e3 => ?_
   have hb3 : Below w.heap.size w W3 := by rw [e3]; exact bt
   have q3 := hb3.size
   have R3 : IsRow W3 (w.heap.size) ∧ IsRow W3 (w.heap.size + 1) ∧ IsRow W3 (w.heap.size + 2) ∧ IsRow W3 (w.heap.size + 3) := by rw [e3]; simp [go_sem]
   obtain ⟨r4_3, r5_3, r6_3, r7_3⟩ := R3
   have C3 := (⟨congrArg (blk · (w.heap.size)) e3, congrArg (blk · (w.heap.size + 1)) e3, congrArg (blk · (w.heap.size + 2)) e3, congrArg (blk · (w.heap.size + 3)) e3⟩ : _ ∧ _ ∧ _ ∧ _); simp [go_sem] at C3
   obtain ⟨c4_3, c5_3, c6_3, c7_3⟩ := C3
   have z4_3 := isRow_lt r4_3; have z5_3 := isRow_lt r5_3; have z6_3 := isRow_lt r6_3; have z7_3 := isRow_lt r7_3
   clear e3
   refine (hasImages_any p c d L _ HL.out).mono ?_; rintro _ W4 ⟨rfl, hw4⟩
   obtain ⟨r4_4, c4_4, z4_4⟩ := keepZ hw4 z4_3 r4_3 c4_3
   obtain ⟨r5_4, c5_4, z5_4⟩ := keepZ hw4 z5_3 r5_3 c5_3
   obtain ⟨r6_4, c6_4, z6_4⟩ := keepZ hw4 z6_3 r6_3 c6_3
   obtain ⟨r7_4, c7_4, z7_4⟩ := keepZ hw4 z7_3 r7_3 c7_3
   obtain ⟨hb4, q4⟩ := bN hb3 hw4
   clear hw4 r4_3 c4_3 z4_3 r5_3 c5_3 z5_3 r6_3 c6_3 z6_3 r7_3 c7_3 z7_3 hb3
   go_wp2_with fail
   have nw4_W4_0 : (w.heap.size) ≠ W4.heap.size := by omega
   have nw5_W4_0 : (w.heap.size + 1) ≠ W4.heap.size := by omega
   have nw6_W4_0 : (w.heap.size + 2) ≠ W4.heap.size := by omega
   have nw7_W4_0 : (w.heap.size + 3) ≠ W4.heap.size := by omega
   refine atomC fun W5 e5 => ?_
   have hb5 : Below w.heap.size w W5 := by rw [e5]; exact bt
   have q5 := hb5.size
   have R5 : IsRow W5 (w.heap.size) ∧ IsRow W5 (w.heap.size + 1) ∧ IsRow W5 (w.heap.size + 2) ∧ IsRow W5 (w.heap.size + 3) ∧ IsRow W5 (W4.heap.size) := by rw [e5]; simp [go_sem, r4_4, c4_4, r5_4, c5_4, r6_4, c6_4, r7_4, c7_4, nw4_W4_0, nw5_W4_0, nw6_W4_0, nw7_W4_0]
   obtain ⟨r4_5, r5_5, r6_5, r7_5, r23_5⟩ := R5
   have C5 := (⟨congrArg (blk · (w.heap.size)) e5, congrArg (blk · (w.heap.size + 1)) e5, congrArg (blk · (w.heap.size + 2)) e5, congrArg (blk · (w.heap.size + 3)) e5, congrArg (blk · (W4.heap.size)) e5⟩ : _ ∧ _ ∧ _ ∧ _ ∧ _); simp [go_sem, r4_4, c4_4, r5_4, c5_4, r6_4, c6_4, r7_4, c7_4, nw4_W4_0, nw5_W4_0, nw6_W4_0, nw7_W4_0] at C5
   obtain ⟨c4_5, c5_5, c6_5, c7_5, c23_5⟩ := C5
   have z4_5 := isRow_lt r4_5; have z5_5 := isRow_lt r5_5; have z6_5 := isRow_lt r6_5; have z7_5 := isRow_lt r7_5; have z23_5 := isRow_lt r23_5
   have n4_23 : (w.heap.size) ≠ (W4.heap.size) := by omega
   have n5_23 : (w.heap.size + 1) ≠ (W4.heap.size) := by omega
   have n6_23 : (w.heap.size + 2) ≠ (W4.heap.size) := by omega
   have n7_23 : (w.heap.size + 3) ≠ (W4.heap.size) := by omega
   have n23_4 : (W4.heap.size) ≠ (w.heap.size) := by omega
   have n23_5 : (W4.heap.size) ≠ (w.heap.size + 1) := by omega
   have n23_6 : (W4.heap.size) ≠ (w.heap.size + 2) := by omega
   have n23_7 : (W4.heap.size) ≠ (w.heap.size + 3) := by omega
   clear e5 nw4_W4_0 nw5_W4_0 nw6_W4_0 nw7_W4_0 r4_4 c4_4 z4_4 r5_4 c5_4 z5_4 r6_4 c6_4 z6_4 r7_4 c7_4 z7_4 hb4
   refine (areMod2 p n f d c F G _ _ Hf.out HF.out HG.out r23_5 c23_5).mono ?_; rintro _ W6 ⟨rfl, hw6⟩
   obtain ⟨r4_6, c4_6, z4_6⟩ := keepZ hw6 z4_5 r4_5 c4_5
   obtain ⟨r5_6, c5_6, z5_6⟩ := keepZ hw6 z5_5 r5_5 c5_5
   obtain ⟨r6_6, c6_6, z6_6⟩ := keepZ hw6 z6_5 r6_5 c6_5
   obtain ⟨r7_6, c7_6, z7_6⟩ := keepZ hw6 z7_5 r7_5 c7_5
   obtain ⟨r23_6, c23_6, z23_6⟩ := keepZ hw6 z23_5 r23_5 c23_5
   obtain ⟨hb6, q6⟩ := bN hb5 hw6
   clear hw6 r4_5 c4_5 z4_5 r5_5 c5_5 z5_5 r6_5 c6_5 z6_5 r7_5 c7_5 z7_5 r23_5 c23_5 z23_5 hb5
   go_wp2_with fail
   go_ret2
   exact ⟨ret_bi (by rfl) (by rfl), bt⟩
  ·
   cases hmp : mapB p n.toNat d.toNat c.toNat F G L
   ·
    have hi : imgS p c d L = true := by rw [← img_same (hm2_sizes hc)]; exact hi0
    have hh := (hm2_parts hc).1
    have hm1 := (hm2_parts hc).2.1
    have hm2 := (hm2_parts hc).2.2
    obtain ⟨hp2, hp31, hn1, hn8⟩ := sizes_range (hopf_sizes hh)
    obtain ⟨n, rfl⟩ := Int.eq_ofNat_of_zero_le (show 0 ≤ n by omega)
    have hp : 0 < p := by omega
    have hp' : p ≤ 255 := by omega
    have hn : n ≤ 8 := by omega
    have HH := Lib.hid hh
    rw [Int.toNat_natCast] at hm1 hm2
    obtain ⟨_, _, hd1, hd8⟩ := sizes_range (modB_sizes (hopf_sizes hh) hm1)
    obtain ⟨d, rfl⟩ := Int.eq_ofNat_of_zero_le (show 0 ≤ d by omega)
    have hd : d ≤ 8 := by omega
    have HS := Lib.hid (modB_shape HF.out hm1)
    obtain ⟨_, _, he1, he8⟩ := sizes_range (modB_sizes (hopf_sizes hh) hm2)
    obtain ⟨c, rfl⟩ := Int.eq_ofNat_of_zero_le (show 0 ≤ c by omega)
    have he : c ≤ 8 := by omega
    have HT := Lib.hid (modB_shape HG.out hm2)
    clear hm1 hm2 hh
    have HI := Lib.hid (img_shape (d := d) HL.out hi)
    rw [Int.toNat_natCast, Int.toNat_natCast, Int.toNat_natCast] at hmp
    have hK0 : 0 < n * 64 := by omega
    have hK1 : n * 64 ≤ 1000 := by omega
    have HQ := Lib.hid (fau_iff (p := p) (n := n) (d := d) (c := c) (F := F) (G := G) (L := L) hp2 HS.out HT.out HI.out hd he hn)
    obtain ⟨q, hq, hz1, hz2⟩ := first_nonzero (n * 64) (fun h => by rw [HQ.out.1 h] at hmp; cases hmp)
    go_enter Tryz.func45, Tryz.ntmps45
    go_wp2_with fail
    refine atomC fun W7 e7 => ?_
    have hb7 : Below w.heap.size w W7 := by rw [e7]; exact bt
    have q7 := hb7.size
    have R7 : IsRow W7 (w.heap.size) ∧ IsRow W7 (w.heap.size + 1) ∧ IsRow W7 (w.heap.size + 2) ∧ IsRow W7 (w.heap.size + 3) := by rw [e7]; simp [go_sem]
    obtain ⟨r4_7, r5_7, r6_7, r7_7⟩ := R7
    have C7 := (⟨congrArg (blk · (w.heap.size)) e7, congrArg (blk · (w.heap.size + 1)) e7, congrArg (blk · (w.heap.size + 2)) e7, congrArg (blk · (w.heap.size + 3)) e7⟩ : _ ∧ _ ∧ _ ∧ _); simp [go_sem] at C7
    obtain ⟨c4_7, c5_7, c6_7, c7_7⟩ := C7
    have z4_7 := isRow_lt r4_7; have z5_7 := isRow_lt r5_7; have z6_7 := isRow_lt r6_7; have z7_7 := isRow_lt r7_7
    clear e7
    refine (hasImages_any p c d L _ HL.out).mono ?_; rintro _ W8 ⟨rfl, hw8⟩
    obtain ⟨r4_8, c4_8, z4_8⟩ := keepZ hw8 z4_7 r4_7 c4_7
    obtain ⟨r5_8, c5_8, z5_8⟩ := keepZ hw8 z5_7 r5_7 c5_7
    obtain ⟨r6_8, c6_8, z6_8⟩ := keepZ hw8 z6_7 r6_7 c6_7
    obtain ⟨r7_8, c7_8, z7_8⟩ := keepZ hw8 z7_7 r7_7 c7_7
    obtain ⟨hb8, q8⟩ := bN hb7 hw8
    clear hw8 r4_7 c4_7 z4_7 r5_7 c5_7 z5_7 r6_7 c6_7 z6_7 r7_7 c7_7 z7_7 hb7
    go_wp2_with fail
    have nw4_W8_0 : (w.heap.size) ≠ W8.heap.size := by omega
    have nw5_W8_0 : (w.heap.size + 1) ≠ W8.heap.size := by omega
    have nw6_W8_0 : (w.heap.size + 2) ≠ W8.heap.size := by omega
    have nw7_W8_0 : (w.heap.size + 3) ≠ W8.heap.size := by omega
    refine atomC fun W9 e9 => ?_
    have hb9 : Below w.heap.size w W9 := by rw [e9]; exact bt
    have q9 := hb9.size
    have R9 : IsRow W9 (w.heap.size) ∧ IsRow W9 (w.heap.size + 1) ∧ IsRow W9 (w.heap.size + 2) ∧ IsRow W9 (w.heap.size + 3) ∧ IsRow W9 (W8.heap.size) := by rw [e9]; simp [go_sem, r4_8, c4_8, r5_8, c5_8, r6_8, c6_8, r7_8, c7_8, nw4_W8_0, nw5_W8_0, nw6_W8_0, nw7_W8_0]
    obtain ⟨r4_9, r5_9, r6_9, r7_9, r23_9⟩ := R9
    have C9 := (⟨congrArg (blk · (w.heap.size)) e9, congrArg (blk · (w.heap.size + 1)) e9, congrArg (blk · (w.heap.size + 2)) e9, congrArg (blk · (w.heap.size + 3)) e9, congrArg (blk · (W8.heap.size)) e9⟩ : _ ∧ _ ∧ _ ∧ _ ∧ _); simp [go_sem, r4_8, c4_8, r5_8, c5_8, r6_8, c6_8, r7_8, c7_8, nw4_W8_0, nw5_W8_0, nw6_W8_0, nw7_W8_0] at C9
    obtain ⟨c4_9, c5_9, c6_9, c7_9, c23_9⟩ := C9
    have z4_9 := isRow_lt r4_9; have z5_9 := isRow_lt r5_9; have z6_9 := isRow_lt r6_9; have z7_9 := isRow_lt r7_9; have z23_9 := isRow_lt r23_9
    have n4_23 : (w.heap.size) ≠ (W8.heap.size) := by omega
    have n5_23 : (w.heap.size + 1) ≠ (W8.heap.size) := by omega
    have n6_23 : (w.heap.size + 2) ≠ (W8.heap.size) := by omega
    have n7_23 : (w.heap.size + 3) ≠ (W8.heap.size) := by omega
    have n23_4 : (W8.heap.size) ≠ (w.heap.size) := by omega
    have n23_5 : (W8.heap.size) ≠ (w.heap.size + 1) := by omega
    have n23_6 : (W8.heap.size) ≠ (w.heap.size + 2) := by omega
    have n23_7 : (W8.heap.size) ≠ (w.heap.size + 3) := by omega
    clear e9 nw4_W8_0 nw5_W8_0 nw6_W8_0 nw7_W8_0 r4_8 c4_8 z4_8 r5_8 c5_8 z5_8 r6_8 c6_8 z6_8 r7_8 c7_8 z7_8 hb8
    refine (areMod2 p n f d c F G _ _ Hf.out HF.out HG.out r23_9 c23_9).mono ?_; rintro _ W10 ⟨rfl, hw10⟩
    obtain ⟨r4_10, c4_10, z4_10⟩ := keepZ hw10 z4_9 r4_9 c4_9
    obtain ⟨r5_10, c5_10, z5_10⟩ := keepZ hw10 z5_9 r5_9 c5_9
    obtain ⟨r6_10, c6_10, z6_10⟩ := keepZ hw10 z6_9 r6_9 c6_9
    obtain ⟨r7_10, c7_10, z7_10⟩ := keepZ hw10 z7_9 r7_9 c7_9
    obtain ⟨r23_10, c23_10, z23_10⟩ := keepZ hw10 z23_9 r23_9 c23_9
    obtain ⟨hb10, q10⟩ := bN hb9 hw10
    clear hw10 r4_9 c4_9 z4_9 r5_9 c5_9 z5_9 r6_9 c6_9 z6_9 r7_9 c7_9 z7_9 r23_9 c23_9 z23_9 hb9
    go_wp2_with fail
    refine (mapFaults_any p n d c f F G L _ hp2 hp' hn hd he HF.out HG.out HL.out).mono ?_; rintro _ W11 ⟨aR_11, cR_11, rfl, hw11, hvR_11⟩
    have sz11 := hw11.size
    obtain ⟨hb11, q11⟩ := bN hb10 hw11
    clear hw11 hb10
    obtain ⟨gR_12, FR_12, eaR_12, gBR_12, gUR_12, rRx_12, hcR_12, hmR_12, cRx_12, hFbR_12, hFR_12⟩ := hvR_11.some (by omega)
    subst eaR_12
    have HFR_12 := Lib.hid hFR_12; clear hFR_12
    have HBR_12 := Lib.hid hFbR_12; clear hFbR_12
    have zRx_12 := isRow_lt rRx_12
    go_wp2_with fail
    refine (contains_yes _ (n * 64) _ _ q FR_12 _ rRx_12 cRx_12 (by have := hcR_12; omega) hK1 hq (fun t ht => by rw [HFR_12.out t (by omega) 0 (by omega)]; exact hz1 t ht) (by rw [HFR_12.out q hq 0 (by omega)]; exact hz2)).mono ?_; rintro _ W13 ⟨rfl, hw13⟩
    obtain ⟨rRx_13, cRx_13, zRx_13⟩ := keepZ hw13 zRx_12 rRx_12 cRx_12
    obtain ⟨hb13, q13⟩ := bN hb11 hw13
    clear hw13 rRx_12 cRx_12 zRx_12 hb11
    go_wp2_with fail
    go_ret2
    exact ⟨ret_bi (by rw [hi]; rfl) (by rw [hi]; rfl), bt⟩
   ·
    have hi : imgS p c d L = true := by rw [← img_same (hm2_sizes hc)]; exact hi0
    have hh := (hm2_parts hc).1
    have hm1 := (hm2_parts hc).2.1
    have hm2 := (hm2_parts hc).2.2
    obtain ⟨hp2, hp31, hn1, hn8⟩ := sizes_range (hopf_sizes hh)
    obtain ⟨n, rfl⟩ := Int.eq_ofNat_of_zero_le (show 0 ≤ n by omega)
    have hp : 0 < p := by omega
    have hp' : p ≤ 255 := by omega
    have hn : n ≤ 8 := by omega
    have HH := Lib.hid hh
    rw [Int.toNat_natCast] at hm1 hm2
    obtain ⟨_, _, hd1, hd8⟩ := sizes_range (modB_sizes (hopf_sizes hh) hm1)
    obtain ⟨d, rfl⟩ := Int.eq_ofNat_of_zero_le (show 0 ≤ d by omega)
    have hd : d ≤ 8 := by omega
    have HS := Lib.hid (modB_shape HF.out hm1)
    obtain ⟨_, _, he1, he8⟩ := sizes_range (modB_sizes (hopf_sizes hh) hm2)
    obtain ⟨c, rfl⟩ := Int.eq_ofNat_of_zero_le (show 0 ≤ c by omega)
    have he : c ≤ 8 := by omega
    have HT := Lib.hid (modB_shape HG.out hm2)
    clear hm1 hm2 hh
    have HI := Lib.hid (img_shape (d := d) HL.out hi)
    rw [Int.toNat_natCast, Int.toNat_natCast, Int.toNat_natCast] at hmp
    have hK0 : 0 < n * 64 := by omega
    have hK1 : n * 64 ≤ 1000 := by omega
    have HQ := Lib.hid (fau_iff (p := p) (n := n) (d := d) (c := c) (F := F) (G := G) (L := L) hp2 HS.out HT.out HI.out hd he hn)
    have HZ := Lib.hid (HQ.out.2 hmp)
    go_enter Tryz.func45, Tryz.ntmps45
    go_wp2_with fail
    refine atomC fun W14 e14 => ?_
    have hb14 : Below w.heap.size w W14 := by rw [e14]; exact bt
    have q14 := hb14.size
    have R14 : IsRow W14 (w.heap.size) ∧ IsRow W14 (w.heap.size + 1) ∧ IsRow W14 (w.heap.size + 2) ∧ IsRow W14 (w.heap.size + 3) := by rw [e14]; simp [go_sem]
    obtain ⟨r4_14, r5_14, r6_14, r7_14⟩ := R14
    have C14 := (⟨congrArg (blk · (w.heap.size)) e14, congrArg (blk · (w.heap.size + 1)) e14, congrArg (blk · (w.heap.size + 2)) e14, congrArg (blk · (w.heap.size + 3)) e14⟩ : _ ∧ _ ∧ _ ∧ _); simp [go_sem] at C14
    obtain ⟨c4_14, c5_14, c6_14, c7_14⟩ := C14
    have z4_14 := isRow_lt r4_14; have z5_14 := isRow_lt r5_14; have z6_14 := isRow_lt r6_14; have z7_14 := isRow_lt r7_14
    clear e14
    refine (hasImages_any p c d L _ HL.out).mono ?_; rintro _ W15 ⟨rfl, hw15⟩
    obtain ⟨r4_15, c4_15, z4_15⟩ := keepZ hw15 z4_14 r4_14 c4_14
    obtain ⟨r5_15, c5_15, z5_15⟩ := keepZ hw15 z5_14 r5_14 c5_14
    obtain ⟨r6_15, c6_15, z6_15⟩ := keepZ hw15 z6_14 r6_14 c6_14
    obtain ⟨r7_15, c7_15, z7_15⟩ := keepZ hw15 z7_14 r7_14 c7_14
    obtain ⟨hb15, q15⟩ := bN hb14 hw15
    clear hw15 r4_14 c4_14 z4_14 r5_14 c5_14 z5_14 r6_14 c6_14 z6_14 r7_14 c7_14 z7_14 hb14
    go_wp2_with fail
    have nw4_W15_0 : (w.heap.size) ≠ W15.heap.size := by omega
    have nw5_W15_0 : (w.heap.size + 1) ≠ W15.heap.size := by omega
    have nw6_W15_0 : (w.heap.size + 2) ≠ W15.heap.size := by omega
    have nw7_W15_0 : (w.heap.size + 3) ≠ W15.heap.size := by omega
    refine atomC fun W16 e16 => ?_
    have hb16 : Below w.heap.size w W16 := by rw [e16]; exact bt
    have q16 := hb16.size
    have R16 : IsRow W16 (w.heap.size) ∧ IsRow W16 (w.heap.size + 1) ∧ IsRow W16 (w.heap.size + 2) ∧ IsRow W16 (w.heap.size + 3) ∧ IsRow W16 (W15.heap.size) := by rw [e16]; simp [go_sem, r4_15, c4_15, r5_15, c5_15, r6_15, c6_15, r7_15, c7_15, nw4_W15_0, nw5_W15_0, nw6_W15_0, nw7_W15_0]
    obtain ⟨r4_16, r5_16, r6_16, r7_16, r23_16⟩ := R16
    have C16 := (⟨congrArg (blk · (w.heap.size)) e16, congrArg (blk · (w.heap.size + 1)) e16, congrArg (blk · (w.heap.size + 2)) e16, congrArg (blk · (w.heap.size + 3)) e16, congrArg (blk · (W15.heap.size)) e16⟩ : _ ∧ _ ∧ _ ∧ _ ∧ _); simp [go_sem, r4_15, c4_15, r5_15, c5_15, r6_15, c6_15, r7_15, c7_15, nw4_W15_0, nw5_W15_0, nw6_W15_0, nw7_W15_0] at C16
    obtain ⟨c4_16, c5_16, c6_16, c7_16, c23_16⟩ := C16
    have z4_16 := isRow_lt r4_16; have z5_16 := isRow_lt r5_16; have z6_16 := isRow_lt r6_16; have z7_16 := isRow_lt r7_16; have z23_16 := isRow_lt r23_16
    have n4_23 : (w.heap.size) ≠ (W15.heap.size) := by omega
    have n5_23 : (w.heap.size + 1) ≠ (W15.heap.size) := by omega
    have n6_23 : (w.heap.size + 2) ≠ (W15.heap.size) := by omega
    have n7_23 : (w.heap.size + 3) ≠ (W15.heap.size) := by omega
    have n23_4 : (W15.heap.size) ≠ (w.heap.size) := by omega
    have n23_5 : (W15.heap.size) ≠ (w.heap.size + 1) := by omega
    have n23_6 : (W15.heap.size) ≠ (w.heap.size + 2) := by omega
    have n23_7 : (W15.heap.size) ≠ (w.heap.size + 3) := by omega
    clear e16 nw4_W15_0 nw5_W15_0 nw6_W15_0 nw7_W15_0 r4_15 c4_15 z4_15 r5_15 c5_15 z5_15 r6_15 c6_15 z6_15 r7_15 c7_15 z7_15 hb15
    refine (areMod2 p n f d c F G _ _ Hf.out HF.out HG.out r23_16 c23_16).mono ?_; rintro _ W17 ⟨rfl, hw17⟩
    obtain ⟨r4_17, c4_17, z4_17⟩ := keepZ hw17 z4_16 r4_16 c4_16
    obtain ⟨r5_17, c5_17, z5_17⟩ := keepZ hw17 z5_16 r5_16 c5_16
    obtain ⟨r6_17, c6_17, z6_17⟩ := keepZ hw17 z6_16 r6_16 c6_16
    obtain ⟨r7_17, c7_17, z7_17⟩ := keepZ hw17 z7_16 r7_16 c7_16
    obtain ⟨r23_17, c23_17, z23_17⟩ := keepZ hw17 z23_16 r23_16 c23_16
    obtain ⟨hb17, q17⟩ := bN hb16 hw17
    clear hw17 r4_16 c4_16 z4_16 r5_16 c5_16 z5_16 r6_16 c6_16 z6_16 r7_16 c7_16 z7_16 r23_16 c23_16 z23_16 hb16
    go_wp2_with fail
    refine (mapFaults_any p n d c f F G L _ hp2 hp' hn hd he HF.out HG.out HL.out).mono ?_; rintro _ W18 ⟨aR_18, cR_18, rfl, hw18, hvR_18⟩
    have sz18 := hw18.size
    obtain ⟨hb18, q18⟩ := bN hb17 hw18
    clear hw18 hb17
    obtain ⟨gR_19, FR_19, eaR_19, gBR_19, gUR_19, rRx_19, hcR_19, hmR_19, cRx_19, hFbR_19, hFR_19⟩ := hvR_18.some (by omega)
    subst eaR_19
    have HFR_19 := Lib.hid hFR_19; clear hFR_19
    have HBR_19 := Lib.hid hFbR_19; clear hFbR_19
    have zRx_19 := isRow_lt rRx_19
    go_wp2_with fail
    refine (contains_no _ (n * 64) _ _ FR_19 _ rRx_19 cRx_19 (by have := hcR_19; omega) hK1 (fun t ht => by rw [HFR_19.out t ht 0 (by omega)]; exact HZ.out t ht)).mono ?_; rintro _ W20 ⟨rfl, hw20⟩
    obtain ⟨rRx_20, cRx_20, zRx_20⟩ := keepZ hw20 zRx_19 rRx_19 cRx_19
    obtain ⟨hb20, q20⟩ := bN hb18 hw20
    clear hw20 rRx_19 cRx_19 zRx_19 hb18
    go_wp2_with fail
    go_ret2
    exact ⟨ret_bi (by rw [hi]; rfl) (by rw [hi]; rfl), bt⟩

set_option maxRecDepth 100000 in
set_option maxHeartbeats 4000000 in
theorem specMap_any (p n : Int) (f : Nat → Int) (d c : Int) (F G L : Nat → Int) (w : World) (hf : Bytes 1104 f) (hF : Bytes 512 F) (hG : Bytes 512 G) (hL : Bytes 64 L) :
    Calls Tryz.prog 43 #[.agg (hop p n f), .agg (mdl d F), .agg (mdl c G), .agg (row 64 L)] w fun e w' => e = .returned (.tuple #[.bool ((hm2 p n f d c F G && imgS p c d L) && mapB p n.toNat d.toNat c.toNat F G L), .int .i64 (codeB (hm2 p n f d c F G && imgS p c d L))]) ∧ Below w.heap.size w w' := by
 have Hf := Lib.hid hf; clear hf
 have HF := Lib.hid hF; clear hF
 have HG := Lib.hid hG; clear hG
 have HL := Lib.hid hL; clear hL
 cases hc : hm2 p n f d c F G
 ·
  have hc1 : codeB false = 1 := rfl
  go_enter Tryz.func43, Tryz.ntmps43
  go_wp2_with fail
  refine atomC fun W1 e1 => ?_
  have hb1 : Below w.heap.size w W1 := by rw [e1]; exact bt
  have q1 := hb1.size
  have R1 : IsRow W1 (w.heap.size) ∧ IsRow W1 (w.heap.size + 1) ∧ IsRow W1 (w.heap.size + 2) ∧ IsRow W1 (w.heap.size + 3) ∧ IsRow W1 (w.heap.size + 4) := by rw [e1]; simp [go_sem]
  obtain ⟨r4_1, r5_1, r6_1, r7_1, r18_1⟩ := R1
  have C1 := (⟨congrArg (blk · (w.heap.size)) e1, congrArg (blk · (w.heap.size + 1)) e1, congrArg (blk · (w.heap.size + 2)) e1, congrArg (blk · (w.heap.size + 3)) e1, congrArg (blk · (w.heap.size + 4)) e1⟩ : _ ∧ _ ∧ _ ∧ _ ∧ _); simp [go_sem] at C1
  obtain ⟨c4_1, c5_1, c6_1, c7_1, c18_1⟩ := C1
  have z4_1 := isRow_lt r4_1; have z5_1 := isRow_lt r5_1; have z6_1 := isRow_lt r6_1; have z7_1 := isRow_lt r7_1; have z18_1 := isRow_lt r18_1
  clear e1
  refine (code2 p n f d c F G _ _ Hf.out HF.out HG.out r18_1 c18_1).mono ?_; rintro _ W2 ⟨rfl, hw2⟩
  obtain ⟨r4_2, c4_2, z4_2⟩ := keepZ hw2 z4_1 r4_1 c4_1
  obtain ⟨r5_2, c5_2, z5_2⟩ := keepZ hw2 z5_1 r5_1 c5_1
  obtain ⟨r6_2, c6_2, z6_2⟩ := keepZ hw2 z6_1 r6_1 c6_1
  obtain ⟨r7_2, c7_2, z7_2⟩ := keepZ hw2 z7_1 r7_1 c7_1
  obtain ⟨r18_2, c18_2, z18_2⟩ := keepZ hw2 z18_1 r18_1 c18_1
  obtain ⟨hb2, q2⟩ := bN hb1 hw2
  clear hw2 r4_1 c4_1 z4_1 r5_1 c5_1 z5_1 r6_1 c6_1 z6_1 r7_1 c7_1 z7_1 r18_1 c18_1 z18_1 hb1
  go_wp2_with fail
  go_ret2
  exact ⟨ret_bi (by rfl) (by rfl), bt⟩
 ·
  cases hi : imgS p c d L
  ·
   have hc1 : codeB true = 0 := rfl
   go_enter Tryz.func43, Tryz.ntmps43
   go_wp2_with fail
   refine atomC fun W3 e3 => ?_
   have hb3 : Below w.heap.size w W3 := by rw [e3]; exact bt
   have q3 := hb3.size
   have R3 : IsRow W3 (w.heap.size) ∧ IsRow W3 (w.heap.size + 1) ∧ IsRow W3 (w.heap.size + 2) ∧ IsRow W3 (w.heap.size + 3) ∧ IsRow W3 (w.heap.size + 4) := by rw [e3]; simp [go_sem]
   obtain ⟨r4_3, r5_3, r6_3, r7_3, r18_3⟩ := R3
   have C3 := (⟨congrArg (blk · (w.heap.size)) e3, congrArg (blk · (w.heap.size + 1)) e3, congrArg (blk · (w.heap.size + 2)) e3, congrArg (blk · (w.heap.size + 3)) e3, congrArg (blk · (w.heap.size + 4)) e3⟩ : _ ∧ _ ∧ _ ∧ _ ∧ _); simp [go_sem] at C3
   obtain ⟨c4_3, c5_3, c6_3, c7_3, c18_3⟩ := C3
   have z4_3 := isRow_lt r4_3; have z5_3 := isRow_lt r5_3; have z6_3 := isRow_lt r6_3; have z7_3 := isRow_lt r7_3; have z18_3 := isRow_lt r18_3
   clear e3
   refine (code2 p n f d c F G _ _ Hf.out HF.out HG.out r18_3 c18_3).mono ?_; rintro _ W4 ⟨rfl, hw4⟩
   obtain ⟨r4_4, c4_4, z4_4⟩ := keepZ hw4 z4_3 r4_3 c4_3
   obtain ⟨r5_4, c5_4, z5_4⟩ := keepZ hw4 z5_3 r5_3 c5_3
   obtain ⟨r6_4, c6_4, z6_4⟩ := keepZ hw4 z6_3 r6_3 c6_3
   obtain ⟨r7_4, c7_4, z7_4⟩ := keepZ hw4 z7_3 r7_3 c7_3
   obtain ⟨r18_4, c18_4, z18_4⟩ := keepZ hw4 z18_3 r18_3 c18_3
   obtain ⟨hb4, q4⟩ := bN hb3 hw4
   clear hw4 r4_3 c4_3 z4_3 r5_3 c5_3 z5_3 r6_3 c6_3 z6_3 r7_3 c7_3 z7_3 r18_3 c18_3 z18_3 hb3
   go_wp2_with fail
   refine (l06Images_any p n f d c F G L _ Hf.out HF.out HG.out HL.out).mono ?_; rintro _ W5 ⟨rfl, hw5⟩
   obtain ⟨r4_5, c4_5, z4_5⟩ := keepZ hw5 z4_4 r4_4 c4_4
   obtain ⟨r5_5, c5_5, z5_5⟩ := keepZ hw5 z5_4 r5_4 c5_4
   obtain ⟨r6_5, c6_5, z6_5⟩ := keepZ hw5 z6_4 r6_4 c6_4
   obtain ⟨r7_5, c7_5, z7_5⟩ := keepZ hw5 z7_4 r7_4 c7_4
   obtain ⟨hb5, q5⟩ := bN hb4 hw5
   clear hw5 r4_4 c4_4 z4_4 r5_4 c5_4 z5_4 r6_4 c6_4 z6_4 r7_4 c7_4 z7_4 hb4
   go_wp2_with fail
   go_ret2
   exact ⟨ret_bi (by rfl) (by rfl), bt⟩
  ·
   have hc1 : codeB true = 0 := rfl
   have hh := (hm2_parts hc).1
   have hm1 := (hm2_parts hc).2.1
   have hm2 := (hm2_parts hc).2.2
   obtain ⟨hp2, hp31, hn1, hn8⟩ := sizes_range (hopf_sizes hh)
   obtain ⟨n, rfl⟩ := Int.eq_ofNat_of_zero_le (show 0 ≤ n by omega)
   have hp : 0 < p := by omega
   have hp' : p ≤ 255 := by omega
   have hn : n ≤ 8 := by omega
   have HH := Lib.hid hh
   rw [Int.toNat_natCast] at hm1 hm2
   obtain ⟨_, _, hd1, hd8⟩ := sizes_range (modB_sizes (hopf_sizes hh) hm1)
   obtain ⟨d, rfl⟩ := Int.eq_ofNat_of_zero_le (show 0 ≤ d by omega)
   have hd : d ≤ 8 := by omega
   have HS := Lib.hid (modB_shape HF.out hm1)
   obtain ⟨_, _, he1, he8⟩ := sizes_range (modB_sizes (hopf_sizes hh) hm2)
   obtain ⟨c, rfl⟩ := Int.eq_ofNat_of_zero_le (show 0 ≤ c by omega)
   have he : c ≤ 8 := by omega
   have HT := Lib.hid (modB_shape HG.out hm2)
   clear hm1 hm2 hh
   have HI := Lib.hid (img_shape (d := d) HL.out hi)
   go_enter Tryz.func43, Tryz.ntmps43
   go_wp2_with fail
   refine atomC fun W6 e6 => ?_
   have hb6 : Below w.heap.size w W6 := by rw [e6]; exact bt
   have q6 := hb6.size
   have R6 : IsRow W6 (w.heap.size) ∧ IsRow W6 (w.heap.size + 1) ∧ IsRow W6 (w.heap.size + 2) ∧ IsRow W6 (w.heap.size + 3) ∧ IsRow W6 (w.heap.size + 4) := by rw [e6]; simp [go_sem]
   obtain ⟨r4_6, r5_6, r6_6, r7_6, r18_6⟩ := R6
   have C6 := (⟨congrArg (blk · (w.heap.size)) e6, congrArg (blk · (w.heap.size + 1)) e6, congrArg (blk · (w.heap.size + 2)) e6, congrArg (blk · (w.heap.size + 3)) e6, congrArg (blk · (w.heap.size + 4)) e6⟩ : _ ∧ _ ∧ _ ∧ _ ∧ _); simp [go_sem] at C6
   obtain ⟨c4_6, c5_6, c6_6, c7_6, c18_6⟩ := C6
   have z4_6 := isRow_lt r4_6; have z5_6 := isRow_lt r5_6; have z6_6 := isRow_lt r6_6; have z7_6 := isRow_lt r7_6; have z18_6 := isRow_lt r18_6
   clear e6
   refine (code2 p n f d c F G _ _ Hf.out HF.out HG.out r18_6 c18_6).mono ?_; rintro _ W7 ⟨rfl, hw7⟩
   obtain ⟨r4_7, c4_7, z4_7⟩ := keepZ hw7 z4_6 r4_6 c4_6
   obtain ⟨r5_7, c5_7, z5_7⟩ := keepZ hw7 z5_6 r5_6 c5_6
   obtain ⟨r6_7, c6_7, z6_7⟩ := keepZ hw7 z6_6 r6_6 c6_6
   obtain ⟨r7_7, c7_7, z7_7⟩ := keepZ hw7 z7_6 r7_6 c7_6
   obtain ⟨r18_7, c18_7, z18_7⟩ := keepZ hw7 z18_6 r18_6 c18_6
   obtain ⟨hb7, q7⟩ := bN hb6 hw7
   clear hw7 r4_6 c4_6 z4_6 r5_6 c5_6 z5_6 r6_6 c6_6 z6_6 r7_6 c7_6 z7_6 r18_6 c18_6 z18_6 hb6
   go_wp2_with fail
   refine (l06Images_any p n f d c F G L _ Hf.out HF.out HG.out HL.out).mono ?_; rintro _ W8 ⟨rfl, hw8⟩
   obtain ⟨r4_8, c4_8, z4_8⟩ := keepZ hw8 z4_7 r4_7 c4_7
   obtain ⟨r5_8, c5_8, z5_8⟩ := keepZ hw8 z5_7 r5_7 c5_7
   obtain ⟨r6_8, c6_8, z6_8⟩ := keepZ hw8 z6_7 r6_7 c6_7
   obtain ⟨r7_8, c7_8, z7_8⟩ := keepZ hw8 z7_7 r7_7 c7_7
   obtain ⟨hb8, q8⟩ := bN hb7 hw8
   clear hw8 r4_7 c4_7 z4_7 r5_7 c5_7 z5_7 r6_7 c6_7 z6_7 r7_7 c7_7 z7_7 hb7
   go_wp2
   go_loopw [11] (fun s11 wr => ∃ i : Nat, i ≤ n ∧ s11 = .int .i64 i ∧ Below w.heap.size w wr ∧ (IsRow wr (w.heap.size) ∧ blk wr (w.heap.size) = blk W8 (w.heap.size)) ∧ (IsRow wr (w.heap.size + 1) ∧ blk wr (w.heap.size + 1) = blk W8 (w.heap.size + 1)) ∧ (IsRow wr (w.heap.size + 2) ∧ blk wr (w.heap.size + 2) = blk W8 (w.heap.size + 2)) ∧ (IsRow wr (w.heap.size + 3) ∧ blk wr (w.heap.size + 3) = blk W8 (w.heap.size + 3)) ∧ ∀ a, a < i → ∀ x, x < d → mapE p d c F G L a x = true) (fun s11 _ => n - (intOf s11).toNat)
   case atStart => exact ⟨0, by omega, rfl, hb8, ⟨r4_8, rfl⟩, ⟨r5_8, rfl⟩, ⟨r6_8, rfl⟩, ⟨r7_8, rfl⟩, fun a ha => by omega⟩
   case round =>
    obtain ⟨i, hle9, rfl, hb9, ⟨r4_9, c4_9⟩, ⟨r5_9, c5_9⟩, ⟨r6_9, c6_9⟩, ⟨r7_9, c7_9⟩, hx9⟩ := hrel
    obtain ⟨W9, rfl⟩ : ∃ W9 : World, W9 = wr := ⟨_, rfl⟩
    have q9 := hb9.size
    have HX9 := Lib.hid hx9; clear hx9
    have E4_9 := Lib.hid c4_8; replace c4_9 := c4_9.trans c4_8
    have z4_9 := isRow_lt r4_9
    have E5_9 := Lib.hid c5_8; replace c5_9 := c5_9.trans c5_8
    have z5_9 := isRow_lt r5_9
    have E6_9 := Lib.hid c6_8; replace c6_9 := c6_9.trans c6_8
    have z6_9 := isRow_lt r6_9
    have E7_9 := Lib.hid c7_8; replace c7_9 := c7_9.trans c7_8
    have z7_9 := isRow_lt r7_9
    clear r4_8 c4_8 z4_8 r5_8 c5_8 z5_8 r6_8 c6_8 z6_8 r7_8 c7_8 z7_8 hb8
    by_cases hlt9 : i < n
    ·
     have i0_9 : (0 : Int) ≤ (i : Int) := by omega
     have i8_9 : (i : Int) < 8 := by omega
     have k8_9 : i < 8 := by omega
     have m8_9 : i * 8 + 8 ≤ 64 := by omega
     have m64_9 : i * 64 + 64 ≤ 512 := by omega
     have l1_9 : 10 + i * 64 + 64 ≤ 522 := by omega
     have HX0 := HX9
     go_wp2
     go_loopw [12] (fun s12 wr => ∃ x : Nat, x ≤ d ∧ s12 = .int .i64 x ∧ Below w.heap.size w wr ∧ (IsRow wr (w.heap.size) ∧ blk wr (w.heap.size) = blk W9 (w.heap.size)) ∧ (IsRow wr (w.heap.size + 1) ∧ blk wr (w.heap.size + 1) = blk W9 (w.heap.size + 1)) ∧ (IsRow wr (w.heap.size + 2) ∧ blk wr (w.heap.size + 2) = blk W9 (w.heap.size + 2)) ∧ (IsRow wr (w.heap.size + 3) ∧ blk wr (w.heap.size + 3) = blk W9 (w.heap.size + 3)) ∧ ∀ y, y < x → mapE p d c F G L i y = true) (fun s12 _ => d - (intOf s12).toNat)
     case atStart => exact ⟨0, by omega, rfl, hb9, ⟨r4_9, rfl⟩, ⟨r5_9, rfl⟩, ⟨r6_9, rfl⟩, ⟨r7_9, rfl⟩, fun y hy => by omega⟩
     case round =>
      obtain ⟨x, hle10, rfl, hb10, ⟨r4_10, c4_10⟩, ⟨r5_10, c5_10⟩, ⟨r6_10, c6_10⟩, ⟨r7_10, c7_10⟩, hx10⟩ := hrel
      obtain ⟨W10, rfl⟩ : ∃ W10 : World, W10 = wr := ⟨_, rfl⟩
      have q10 := hb10.size
      have HX10 := Lib.hid hx10; clear hx10
      have E4_10 := Lib.hid c4_9; replace c4_10 := c4_10.trans c4_9
      have z4_10 := isRow_lt r4_10
      have E5_10 := Lib.hid c5_9; replace c5_10 := c5_10.trans c5_9
      have z5_10 := isRow_lt r5_10
      have E6_10 := Lib.hid c6_9; replace c6_10 := c6_10.trans c6_9
      have z6_10 := isRow_lt r6_10
      have E7_10 := Lib.hid c7_9; replace c7_10 := c7_10.trans c7_9
      have z7_10 := isRow_lt r7_10
      clear r4_9 c4_9 z4_9 r5_9 c5_9 z5_9 r6_9 c6_9 z6_9 r7_9 c7_9 z7_9 hb9
      by_cases hlt10 : x < d
      ·
       have i0_10 : (0 : Int) ≤ (x : Int) := by omega
       have i8_10 : (x : Int) < 8 := by omega
       have k8_10 : x < 8 := by omega
       have m8_10 : x * 8 + 8 ≤ 64 := by omega
       have m64_10 : x * 64 + 64 ≤ 512 := by omega
       have l1_10 : 10 + x * 64 + 64 ≤ 522 := by omega
       have l2_10i : 10 + i * 64 + x * 8 + 8 ≤ 522 := by omega
       have l3_10i : 10 + x * 64 + i * 8 + 8 ≤ 522 := by omega
       have l4_10i : i * 64 + x * 8 + 8 ≤ 512 := by omega
       have l5_10i : x * 64 + i * 8 + 8 ≤ 512 := by omega
       have l6_10i : i * 8 + x < 64 := by omega
       have l7_10i : x * 8 + i < 64 := by omega
       have HX1 := HX10
       go_wp2
       have nw4_W10_0 : (w.heap.size) ≠ W10.heap.size := by omega
       have nw5_W10_0 : (w.heap.size + 1) ≠ W10.heap.size := by omega
       have nw6_W10_0 : (w.heap.size + 2) ≠ W10.heap.size := by omega
       have nw7_W10_0 : (w.heap.size + 3) ≠ W10.heap.size := by omega
       refine atomW fun W11 e11 => ?_
       have hb11 : Below w.heap.size w W11 := by rw [e11]; exact bt
       have q11 := hb11.size
       have R11 : IsRow W11 (w.heap.size) ∧ IsRow W11 (w.heap.size + 1) ∧ IsRow W11 (w.heap.size + 2) ∧ IsRow W11 (w.heap.size + 3) ∧ IsRow W11 (W10.heap.size) := by rw [e11]; simp [go_sem, r4_10, c4_10, r5_10, c5_10, r6_10, c6_10, r7_10, c7_10, nw4_W10_0, nw5_W10_0, nw6_W10_0, nw7_W10_0]
       obtain ⟨r4_11, r5_11, r6_11, r7_11, r13_11⟩ := R11
       have C11 := (⟨congrArg (blk · (w.heap.size)) e11, congrArg (blk · (w.heap.size + 1)) e11, congrArg (blk · (w.heap.size + 2)) e11, congrArg (blk · (w.heap.size + 3)) e11, congrArg (blk · (W10.heap.size)) e11⟩ : _ ∧ _ ∧ _ ∧ _ ∧ _); simp [go_sem, r4_10, c4_10, r5_10, c5_10, r6_10, c6_10, r7_10, c7_10, nw4_W10_0, nw5_W10_0, nw6_W10_0, nw7_W10_0] at C11
       obtain ⟨c4_11, c5_11, c6_11, c7_11, c13_11⟩ := C11
       have z4_11 := isRow_lt r4_11; have z5_11 := isRow_lt r5_11; have z6_11 := isRow_lt r6_11; have z7_11 := isRow_lt r7_11; have z13_11 := isRow_lt r13_11
       have n4_13 : (w.heap.size) ≠ (W10.heap.size) := by omega
       have n5_13 : (w.heap.size + 1) ≠ (W10.heap.size) := by omega
       have n6_13 : (w.heap.size + 2) ≠ (W10.heap.size) := by omega
       have n7_13 : (w.heap.size + 3) ≠ (W10.heap.size) := by omega
       have n13_4 : (W10.heap.size) ≠ (w.heap.size) := by omega
       have n13_5 : (W10.heap.size) ≠ (w.heap.size + 1) := by omega
       have n13_6 : (W10.heap.size) ≠ (w.heap.size + 2) := by omega
       have n13_7 : (W10.heap.size) ≠ (w.heap.size + 3) := by omega
       clear e11 nw4_W10_0 nw5_W10_0 nw6_W10_0 nw7_W10_0 r4_10 c4_10 z4_10 r5_10 c5_10 z5_10 r6_10 c6_10 z6_10 r7_10 c7_10 z7_10 hb10
       go_loopw [14] (fun s14 wr => ∃ y : Nat, y ≤ d ∧ s14 = .int .i64 y ∧ Below w.heap.size w wr ∧ (IsRow wr (w.heap.size) ∧ blk wr (w.heap.size) = blk W11 (w.heap.size)) ∧ (IsRow wr (w.heap.size + 1) ∧ blk wr (w.heap.size + 1) = blk W11 (w.heap.size + 1)) ∧ (IsRow wr (w.heap.size + 2) ∧ blk wr (w.heap.size + 2) = blk W11 (w.heap.size + 2)) ∧ (IsRow wr (w.heap.size + 3) ∧ blk wr (w.heap.size + 3) = blk W11 (w.heap.size + 3)) ∧ (IsRow wr (W10.heap.size) ∧ blk wr (W10.heap.size) = row 8 (appF p y (fun y t => L (y * 8 + t)) (act F i x)))) (fun s14 _ => d - (intOf s14).toNat)
       case atStart => exact ⟨0, by omega, rfl, hb11, ⟨r4_11, rfl⟩, ⟨r5_11, rfl⟩, ⟨r6_11, rfl⟩, ⟨r7_11, rfl⟩, ⟨r13_11, c13_11.trans (app_start p _ _)⟩⟩
       case round =>
        obtain ⟨y, hle12, rfl, hb12, ⟨r4_12, c4_12⟩, ⟨r5_12, c5_12⟩, ⟨r6_12, c6_12⟩, ⟨r7_12, c7_12⟩, ⟨r13_12, c13_12⟩⟩ := hrel
        obtain ⟨W12, rfl⟩ : ∃ W12 : World, W12 = wr := ⟨_, rfl⟩
        have q12 := hb12.size
        have E4_12 := Lib.hid c4_11; replace c4_12 := c4_12.trans c4_11
        have z4_12 := isRow_lt r4_12
        have E5_12 := Lib.hid c5_11; replace c5_12 := c5_12.trans c5_11
        have z5_12 := isRow_lt r5_12
        have E6_12 := Lib.hid c6_11; replace c6_12 := c6_12.trans c6_11
        have z6_12 := isRow_lt r6_12
        have E7_12 := Lib.hid c7_11; replace c7_12 := c7_12.trans c7_11
        have z7_12 := isRow_lt r7_12
        have z13_12 := isRow_lt r13_12
        clear r4_11 c4_11 z4_11 r5_11 c5_11 z5_11 r6_11 c6_11 z6_11 r7_11 c7_11 z7_11 r13_11 c13_11 z13_11 hb11
        by_cases hlt12 : y < d
        ·
         have i0_12 : (0 : Int) ≤ (y : Int) := by omega
         have i8_12 : (y : Int) < 8 := by omega
         have k8_12 : y < 8 := by omega
         have m8_12 : y * 8 + 8 ≤ 64 := by omega
         have m64_12 : y * 64 + 64 ≤ 512 := by omega
         have l1_12 : 10 + y * 64 + 64 ≤ 522 := by omega
         have l2_12i : 10 + i * 64 + y * 8 + 8 ≤ 522 := by omega
         have l3_12i : 10 + y * 64 + i * 8 + 8 ≤ 522 := by omega
         have l4_12i : i * 64 + y * 8 + 8 ≤ 512 := by omega
         have l5_12i : y * 64 + i * 8 + 8 ≤ 512 := by omega
         have l6_12i : i * 8 + y < 64 := by omega
         have l7_12i : y * 8 + i < 64 := by omega
         have l2_12x : 10 + x * 64 + y * 8 + 8 ≤ 522 := by omega
         have l3_12x : 10 + y * 64 + x * 8 + 8 ≤ 522 := by omega
         have l4_12x : x * 64 + y * 8 + 8 ≤ 512 := by omega
         have l5_12x : y * 64 + x * 8 + 8 ≤ 512 := by omega
         have l6_12x : x * 8 + y < 64 := by omega
         have l7_12x : y * 8 + x < 64 := by omega
         have e1 := mdl_aq d F i x y (by omega) (by omega) (by omega)
         have e2 := fun h => mdl_ae d F i x y (by omega) (by omega) (by omega) h
         have b0 := act_bytes HF.out (i := i) (j := x) (by omega) (by omega) y (by omega)
         have b1 := b0.1
         have b2 := b0.2
         have q1 : IntKind.i64.wrap (act F i x y) = act F i x y := IntWalk.i64_in _ (by omega)
         have m1 : 1 + i * 64 + 64 ≤ 513 := by omega
         have m2 : 1 + i * 64 + x * 8 + 8 ≤ 513 := by omega
         have m3 : 1 + i * 64 + x * 8 + y < 513 := by omega
         have m4 : 1 + i * 64 + x * 8 + y + 1 ≤ 513 := by omega
         have HA : Hid (Bytes 8 (appF p y (fun y t => L (y * 8 + t)) (act F i x))) := Lib.hid (bytes_mod hp hp' _)
         have HB : Hid (Bytes 8 (fun t => L (y * 8 + t))) := Lib.hid fun t ht => HL.out _ (by omega)
         go_wp2
         refine wp_quiet_tail 16 (Below W12.heap.size W12) (by kernel_rfl) (by kernel_rfl) (Below.refl _ _).drew ?_
         simp only [List.take_succ_cons, List.take_zero, List.drop_succ_cons, List.drop_zero]
         iterate 15 (refine q_plain rfl ?_; apply Exists.intro; refine ⟨fun W hW => ?_, ?_⟩; (focus (obtain ⟨x4, y4⟩ := keepB hW z4_12 r4_12 c4_12; obtain ⟨x5, y5⟩ := keepB hW z5_12 r5_12 c5_12; obtain ⟨x6, y6⟩ := keepB hW z6_12 r6_12 c6_12; obtain ⟨x7, y7⟩ := keepB hW z7_12 r7_12 c7_12; obtain ⟨x13, y13⟩ := keepB hW z13_12 r13_12 c13_12; go_simp; first | done | rfl)); simp only [Act.put, List.setIfInBounds_toArray, List.set_cons_zero, List.set_cons_succ])
         (refine q_plain rfl ?_; apply Exists.intro; refine ⟨fun W hW => ?_, ?_⟩; (focus (obtain ⟨x4, y4⟩ := keepB hW z4_12 r4_12 c4_12; obtain ⟨x5, y5⟩ := keepB hW z5_12 r5_12 c5_12; obtain ⟨x6, y6⟩ := keepB hW z6_12 r6_12 c6_12; obtain ⟨x7, y7⟩ := keepB hW z7_12 r7_12 c7_12; obtain ⟨x13, y13⟩ := keepB hW z13_12 r13_12 c13_12; go_simp; (go_at_call 87; exact (l01Add_any p (act F i x y) (appF p y (fun y t => L (y * 8 + t)) (act F i x)) (fun t => L (y * 8 + t)) _ hp hp' (by omega) (by omega) HA.out HB.out).mono fun e w2 ⟨he, hw2⟩ => ⟨he, hW.trans (hw2.mono hW.size)⟩))); simp only [Act.put, List.setIfInBounds_toArray, List.set_cons_zero, List.set_cons_succ])
         refine wpQuiet_nil ?_
         intro W13 hw13
         obtain ⟨r4_13, c4_13, z4_13⟩ := keepZ hw13 z4_12 r4_12 c4_12
         obtain ⟨r5_13, c5_13, z5_13⟩ := keepZ hw13 z5_12 r5_12 c5_12
         obtain ⟨r6_13, c6_13, z6_13⟩ := keepZ hw13 z6_12 r6_12 c6_12
         obtain ⟨r7_13, c7_13, z7_13⟩ := keepZ hw13 z7_12 r7_12 c7_12
         obtain ⟨r13_13, c13_13, z13_13⟩ := keepZ hw13 z13_12 r13_12 c13_12
         obtain ⟨hb13, q13⟩ := bN hb12 hw13
         clear hw13 r4_12 c4_12 z4_12 r5_12 c5_12 z5_12 r6_12 c6_12 z6_12 r7_12 c7_12 z7_12 r13_12 c13_12 z13_12 hb12
         go_wp2
         go_roundw
         case rel => exact ⟨y + 1, by omega, by go_num, bt, ⟨by simp [go_sem, r4_13, c4_13, n4_13, r5_13, c5_13, n5_13, r6_13, c6_13, n6_13, r7_13, c7_13, n7_13, r13_13, c13_13, n13_4, n13_5, n13_6, n13_7], (by rw [E4_12.out]; first | exact c4_13 | (simp [go_sem, r4_13, c4_13, n4_13, r5_13, c5_13, n5_13, r6_13, c6_13, n6_13, r7_13, c7_13, n7_13, r13_13, c13_13, n13_4, n13_5, n13_6, n13_7]; done))⟩, ⟨by simp [go_sem, r4_13, c4_13, n4_13, r5_13, c5_13, n5_13, r6_13, c6_13, n6_13, r7_13, c7_13, n7_13, r13_13, c13_13, n13_4, n13_5, n13_6, n13_7], (by rw [E5_12.out]; first | exact c5_13 | (simp [go_sem, r4_13, c4_13, n4_13, r5_13, c5_13, n5_13, r6_13, c6_13, n6_13, r7_13, c7_13, n7_13, r13_13, c13_13, n13_4, n13_5, n13_6, n13_7]; done))⟩, ⟨by simp [go_sem, r4_13, c4_13, n4_13, r5_13, c5_13, n5_13, r6_13, c6_13, n6_13, r7_13, c7_13, n7_13, r13_13, c13_13, n13_4, n13_5, n13_6, n13_7], (by rw [E6_12.out]; first | exact c6_13 | (simp [go_sem, r4_13, c4_13, n4_13, r5_13, c5_13, n5_13, r6_13, c6_13, n6_13, r7_13, c7_13, n7_13, r13_13, c13_13, n13_4, n13_5, n13_6, n13_7]; done))⟩, ⟨by simp [go_sem, r4_13, c4_13, n4_13, r5_13, c5_13, n5_13, r6_13, c6_13, n6_13, r7_13, c7_13, n7_13, r13_13, c13_13, n13_4, n13_5, n13_6, n13_7], (by rw [E7_12.out]; first | exact c7_13 | (simp [go_sem, r4_13, c4_13, n4_13, r5_13, c5_13, n5_13, r6_13, c6_13, n6_13, r7_13, c7_13, n7_13, r13_13, c13_13, n13_4, n13_5, n13_6, n13_7]; done))⟩, ⟨by simp [go_sem, r4_13, c4_13, n4_13, r5_13, c5_13, n5_13, r6_13, c6_13, n6_13, r7_13, c7_13, n7_13, r13_13, c13_13, n13_4, n13_5, n13_6, n13_7], (by first | (rw [blk_setRow _ _ _ _ r13_13, if_pos rfl]; exact addm_row fun t _ => app_step p y (fun y t => L (y * 8 + t)) (act F i x) t) | exact (c13_13).trans (addm_row fun t _ => app_step p y (fun y t => L (y * 8 + t)) (act F i x) t) | (simp [go_sem, r4_13, c4_13, n4_13, r5_13, c5_13, n5_13, r6_13, c6_13, n6_13, r7_13, c7_13, n7_13, r13_13, c13_13, n13_4, n13_5, n13_6, n13_7]; exact addm_row fun t _ => app_step p y (fun y t => L (y * 8 + t)) (act F i x) t))⟩⟩
         case measure => simp [intOf]; try omega
        ·
         obtain rfl : d = y := by omega
         cases he1 : segEq 0 8 (appF p d (fun y t => L (y * 8 + t)) (act F i x)) (appF p c (act G i) (fun t => L (x * 8 + t)))
         ·
          have HG2 := Lib.hid (rowOf_bytes HG.out (i := i) (by omega))
          have HV : Hid (Bytes 8 (fun t => L (x * 8 + t))) := Lib.hid fun t ht => HL.out _ (by omega)
          have e3 := mdl_act64 c G i (by omega)
          have m5 : 1 + i * 64 + 64 ≤ 513 := by omega
          have H := Lib.hid (map_no (p := p) (n := n) (d := d) (c := c) (F := F) (G := G) (L := L) (i := i) (x := x) (by omega) (by omega) he1)
          go_wp2
          refine wp_quiet_all (Below W12.heap.size W12) (by kernel_rfl) (by kernel_rfl) (Below.refl _ _).drew ?_
          iterate 12 (refine q_plain rfl ?_; apply Exists.intro; refine ⟨fun W hW => ?_, ?_⟩; (focus (obtain ⟨x4, y4⟩ := keepB hW z4_12 r4_12 c4_12; obtain ⟨x5, y5⟩ := keepB hW z5_12 r5_12 c5_12; obtain ⟨x6, y6⟩ := keepB hW z6_12 r6_12 c6_12; obtain ⟨x7, y7⟩ := keepB hW z7_12 r7_12 c7_12; obtain ⟨x13, y13⟩ := keepB hW z13_12 r13_12 c13_12; go_simp; first | done | rfl)); simp only [Act.put, List.setIfInBounds_toArray, List.set_cons_zero, List.set_cons_succ])
          (refine q_plain rfl ?_; apply Exists.intro; refine ⟨fun W hW => ?_, ?_⟩; (focus (obtain ⟨x4, y4⟩ := keepB hW z4_12 r4_12 c4_12; obtain ⟨x5, y5⟩ := keepB hW z5_12 r5_12 c5_12; obtain ⟨x6, y6⟩ := keepB hW z6_12 r6_12 c6_12; obtain ⟨x7, y7⟩ := keepB hW z7_12 r7_12 c7_12; obtain ⟨x13, y13⟩ := keepB hW z13_12 r13_12 c13_12; go_simp; (go_at_call 73; exact (applyAct p c G (fun t => L (x * 8 + t)) i _ hp hp' he HG2.out HV.out).mono fun e w2 ⟨he, hw2⟩ => ⟨he, hW.trans (hw2.mono hW.size)⟩))); simp only [Act.put, List.setIfInBounds_toArray, List.set_cons_zero, List.set_cons_succ])
          iterate 1 (refine q_plain rfl ?_; apply Exists.intro; refine ⟨fun W hW => ?_, ?_⟩; (focus (obtain ⟨x4, y4⟩ := keepB hW z4_12 r4_12 c4_12; obtain ⟨x5, y5⟩ := keepB hW z5_12 r5_12 c5_12; obtain ⟨x6, y6⟩ := keepB hW z6_12 r6_12 c6_12; obtain ⟨x7, y7⟩ := keepB hW z7_12 r7_12 c7_12; obtain ⟨x13, y13⟩ := keepB hW z13_12 r13_12 c13_12; go_simp; first | done | rfl)); simp only [Act.put, List.setIfInBounds_toArray, List.set_cons_zero, List.set_cons_succ])
          refine wpQuiet_nil ?_
          intro W14 hw14
          obtain ⟨r4_14, c4_14, z4_14⟩ := keepZ hw14 z4_12 r4_12 c4_12
          obtain ⟨r5_14, c5_14, z5_14⟩ := keepZ hw14 z5_12 r5_12 c5_12
          obtain ⟨r6_14, c6_14, z6_14⟩ := keepZ hw14 z6_12 r6_12 c6_12
          obtain ⟨r7_14, c7_14, z7_14⟩ := keepZ hw14 z7_12 r7_12 c7_12
          obtain ⟨r13_14, c13_14, z13_14⟩ := keepZ hw14 z13_12 r13_12 c13_12
          obtain ⟨hb14, q14⟩ := bN hb12 hw14
          clear hw14 r4_12 c4_12 z4_12 r5_12 c5_12 z5_12 r6_12 c6_12 z6_12 r7_12 c7_12 z7_12 r13_12 c13_12 z13_12 hb12
          go_wp2_with fail
          go_ret2
          exact ⟨ret_bi (by show false = (true && mapB p n d c F G L); rw [H.out]; rfl) (by rfl), bt⟩
         ·
          have HG2 := Lib.hid (rowOf_bytes HG.out (i := i) (by omega))
          have HV : Hid (Bytes 8 (fun t => L (x * 8 + t))) := Lib.hid fun t ht => HL.out _ (by omega)
          have e3 := mdl_act64 c G i (by omega)
          have m5 : 1 + i * 64 + 64 ≤ 513 := by omega
          have H := Lib.hid (upto_more (q := mapE p d c F G L i) HX1.out he1)
          go_wp2
          refine wp_quiet_all (Below W12.heap.size W12) (by kernel_rfl) (by kernel_rfl) (Below.refl _ _).drew ?_
          iterate 12 (refine q_plain rfl ?_; apply Exists.intro; refine ⟨fun W hW => ?_, ?_⟩; (focus (obtain ⟨x4, y4⟩ := keepB hW z4_12 r4_12 c4_12; obtain ⟨x5, y5⟩ := keepB hW z5_12 r5_12 c5_12; obtain ⟨x6, y6⟩ := keepB hW z6_12 r6_12 c6_12; obtain ⟨x7, y7⟩ := keepB hW z7_12 r7_12 c7_12; obtain ⟨x13, y13⟩ := keepB hW z13_12 r13_12 c13_12; go_simp; first | done | rfl)); simp only [Act.put, List.setIfInBounds_toArray, List.set_cons_zero, List.set_cons_succ])
          (refine q_plain rfl ?_; apply Exists.intro; refine ⟨fun W hW => ?_, ?_⟩; (focus (obtain ⟨x4, y4⟩ := keepB hW z4_12 r4_12 c4_12; obtain ⟨x5, y5⟩ := keepB hW z5_12 r5_12 c5_12; obtain ⟨x6, y6⟩ := keepB hW z6_12 r6_12 c6_12; obtain ⟨x7, y7⟩ := keepB hW z7_12 r7_12 c7_12; obtain ⟨x13, y13⟩ := keepB hW z13_12 r13_12 c13_12; go_simp; (go_at_call 73; exact (applyAct p c G (fun t => L (x * 8 + t)) i _ hp hp' he HG2.out HV.out).mono fun e w2 ⟨he, hw2⟩ => ⟨he, hW.trans (hw2.mono hW.size)⟩))); simp only [Act.put, List.setIfInBounds_toArray, List.set_cons_zero, List.set_cons_succ])
          iterate 1 (refine q_plain rfl ?_; apply Exists.intro; refine ⟨fun W hW => ?_, ?_⟩; (focus (obtain ⟨x4, y4⟩ := keepB hW z4_12 r4_12 c4_12; obtain ⟨x5, y5⟩ := keepB hW z5_12 r5_12 c5_12; obtain ⟨x6, y6⟩ := keepB hW z6_12 r6_12 c6_12; obtain ⟨x7, y7⟩ := keepB hW z7_12 r7_12 c7_12; obtain ⟨x13, y13⟩ := keepB hW z13_12 r13_12 c13_12; go_simp; first | done | rfl)); simp only [Act.put, List.setIfInBounds_toArray, List.set_cons_zero, List.set_cons_succ])
          refine wpQuiet_nil ?_
          intro W15 hw15
          obtain ⟨r4_15, c4_15, z4_15⟩ := keepZ hw15 z4_12 r4_12 c4_12
          obtain ⟨r5_15, c5_15, z5_15⟩ := keepZ hw15 z5_12 r5_12 c5_12
          obtain ⟨r6_15, c6_15, z6_15⟩ := keepZ hw15 z6_12 r6_12 c6_12
          obtain ⟨r7_15, c7_15, z7_15⟩ := keepZ hw15 z7_12 r7_12 c7_12
          obtain ⟨r13_15, c13_15, z13_15⟩ := keepZ hw15 z13_12 r13_12 c13_12
          obtain ⟨hb15, q15⟩ := bN hb12 hw15
          clear hw15 r4_12 c4_12 z4_12 r5_12 c5_12 z5_12 r6_12 c6_12 z6_12 r7_12 c7_12 z7_12 r13_12 c13_12 z13_12 hb12
          go_wp2
          go_roundw
          case rel => exact ⟨x + 1, by omega, by go_num, bt, ⟨by simp [go_sem, r4_15, c4_15, n4_13, r5_15, c5_15, n5_13, r6_15, c6_15, n6_13, r7_15, c7_15, n7_13, r13_15, c13_15, n13_4, n13_5, n13_6, n13_7], (by rw [E4_10.out]; first | exact c4_15 | (simp [go_sem, r4_15, c4_15, n4_13, r5_15, c5_15, n5_13, r6_15, c6_15, n6_13, r7_15, c7_15, n7_13, r13_15, c13_15, n13_4, n13_5, n13_6, n13_7]; done))⟩, ⟨by simp [go_sem, r4_15, c4_15, n4_13, r5_15, c5_15, n5_13, r6_15, c6_15, n6_13, r7_15, c7_15, n7_13, r13_15, c13_15, n13_4, n13_5, n13_6, n13_7], (by rw [E5_10.out]; first | exact c5_15 | (simp [go_sem, r4_15, c4_15, n4_13, r5_15, c5_15, n5_13, r6_15, c6_15, n6_13, r7_15, c7_15, n7_13, r13_15, c13_15, n13_4, n13_5, n13_6, n13_7]; done))⟩, ⟨by simp [go_sem, r4_15, c4_15, n4_13, r5_15, c5_15, n5_13, r6_15, c6_15, n6_13, r7_15, c7_15, n7_13, r13_15, c13_15, n13_4, n13_5, n13_6, n13_7], (by rw [E6_10.out]; first | exact c6_15 | (simp [go_sem, r4_15, c4_15, n4_13, r5_15, c5_15, n5_13, r6_15, c6_15, n6_13, r7_15, c7_15, n7_13, r13_15, c13_15, n13_4, n13_5, n13_6, n13_7]; done))⟩, ⟨by simp [go_sem, r4_15, c4_15, n4_13, r5_15, c5_15, n5_13, r6_15, c6_15, n6_13, r7_15, c7_15, n7_13, r13_15, c13_15, n13_4, n13_5, n13_6, n13_7], (by rw [E7_10.out]; first | exact c7_15 | (simp [go_sem, r4_15, c4_15, n4_13, r5_15, c5_15, n5_13, r6_15, c6_15, n6_13, r7_15, c7_15, n7_13, r13_15, c13_15, n13_4, n13_5, n13_6, n13_7]; done))⟩, H.out⟩
          case measure => simp [intOf]; try omega
      ·
       obtain rfl : d = x := by omega
       have H := Lib.hid (maps_more HX0.out HX10.out)
       go_wp2
       go_roundw
       case rel => exact ⟨i + 1, by omega, by go_num, bt, ⟨by simp [go_sem, r4_10, c4_10, r5_10, c5_10, r6_10, c6_10, r7_10, c7_10], (by rw [E4_9.out]; first | exact c4_10 | (simp [go_sem, r4_10, c4_10, r5_10, c5_10, r6_10, c6_10, r7_10, c7_10]; done))⟩, ⟨by simp [go_sem, r4_10, c4_10, r5_10, c5_10, r6_10, c6_10, r7_10, c7_10], (by rw [E5_9.out]; first | exact c5_10 | (simp [go_sem, r4_10, c4_10, r5_10, c5_10, r6_10, c6_10, r7_10, c7_10]; done))⟩, ⟨by simp [go_sem, r4_10, c4_10, r5_10, c5_10, r6_10, c6_10, r7_10, c7_10], (by rw [E6_9.out]; first | exact c6_10 | (simp [go_sem, r4_10, c4_10, r5_10, c5_10, r6_10, c6_10, r7_10, c7_10]; done))⟩, ⟨by simp [go_sem, r4_10, c4_10, r5_10, c5_10, r6_10, c6_10, r7_10, c7_10], (by rw [E7_9.out]; first | exact c7_10 | (simp [go_sem, r4_10, c4_10, r5_10, c5_10, r6_10, c6_10, r7_10, c7_10]; done))⟩, H.out⟩
       case measure => simp [intOf]; try omega
    ·
     obtain rfl : n = i := by omega
     have H := Lib.hid (map_yes HX9.out)
     go_wp2_with fail
     go_ret2
     exact ⟨ret_bi (by show true = (true && mapB p n d c F G L); rw [H.out]; rfl) (by rfl), bt⟩

set_option maxRecDepth 100000 in
set_option maxHeartbeats 2000000 in
theorem lawIsModuleMap (fp fn : Int) (f : Nat → Int) (md : Int) (m : Nat → Int) (kd : Int) (k : Nat → Int) (g : Nat → Int) (w : World) (_wfp : (Lit.int .i64 fp).wf = true) (_wfn : (Lit.int .i64 fn).wf = true) (hf : Bytes 1104 f) (_wmd : (Lit.int .i64 md).wf = true) (hm : Bytes 512 m) (_wkd : (Lit.int .i64 kd).wf = true) (hk : Bytes 512 k) (hg : Bytes 64 g) :
    Calls Tryz.prog 12 #[.agg (hop fp fn f), .agg (mdl md m), .agg (mdl kd k), .agg (row 64 g)] w fun e w' => e = .returned (.bool true) ∧ Below w.heap.size w w' := by
 have Hf := Lib.hid hf; clear hf
 have Hm := Lib.hid hm; clear hm
 have Hk := Lib.hid hk; clear hk
 have Hg := Lib.hid hg; clear hg
 go_enter Tryz.func12, Tryz.ntmps12
 go_wp2
 refine atomW fun W1 e1 => ?_
 have hb1 : Below w.heap.size w W1 := by rw [e1]; exact bt
 have q1 := hb1.size
 have R1 : IsRow W1 (w.heap.size) ∧ IsRow W1 (w.heap.size + 1) ∧ IsRow W1 (w.heap.size + 2) ∧ IsRow W1 (w.heap.size + 3) := by rw [e1]; simp [go_sem]
 obtain ⟨r4_1, r5_1, r6_1, r7_1⟩ := R1
 have C1 := (⟨congrArg (blk · (w.heap.size)) e1, congrArg (blk · (w.heap.size + 1)) e1, congrArg (blk · (w.heap.size + 2)) e1, congrArg (blk · (w.heap.size + 3)) e1⟩ : _ ∧ _ ∧ _ ∧ _); simp [go_sem] at C1
 obtain ⟨c4_1, c5_1, c6_1, c7_1⟩ := C1
 have z4_1 := isRow_lt r4_1; have z5_1 := isRow_lt r5_1; have z6_1 := isRow_lt r6_1; have z7_1 := isRow_lt r7_1
 clear e1
 refine wp_quiet_all (Below W1.heap.size W1) (by kernel_rfl) (by kernel_rfl) (Below.refl _ _).drew ?_
 iterate 1 (refine q_plain rfl ?_; apply Exists.intro; refine ⟨fun W hW => ?_, ?_⟩; (focus (obtain ⟨x4, y4⟩ := keepB hW z4_1 r4_1 c4_1; obtain ⟨x5, y5⟩ := keepB hW z5_1 r5_1 c5_1; obtain ⟨x6, y6⟩ := keepB hW z6_1 r6_1 c6_1; obtain ⟨x7, y7⟩ := keepB hW z7_1 r7_1 c7_1; go_simp; first | done | rfl)); simp only [Act.put, List.setIfInBounds_toArray, List.set_cons_zero, List.set_cons_succ])
 (refine q_plain rfl ?_; apply Exists.intro; refine ⟨fun W hW => ?_, ?_⟩; (focus (obtain ⟨x4, y4⟩ := keepB hW z4_1 r4_1 c4_1; obtain ⟨x5, y5⟩ := keepB hW z5_1 r5_1 c5_1; obtain ⟨x6, y6⟩ := keepB hW z6_1 r6_1 c6_1; obtain ⟨x7, y7⟩ := keepB hW z7_1 r7_1 c7_1; go_simp; (go_at_call 15; exact (toHopf_any _ _ _ _).mono fun e w2 ⟨he, hw2⟩ => ⟨he, hW.trans (hw2.mono hW.size)⟩))); simp only [Act.put, List.setIfInBounds_toArray, List.set_cons_zero, List.set_cons_succ])
 iterate 1 (refine q_plain rfl ?_; apply Exists.intro; refine ⟨fun W hW => ?_, ?_⟩; (focus (obtain ⟨x4, y4⟩ := keepB hW z4_1 r4_1 c4_1; obtain ⟨x5, y5⟩ := keepB hW z5_1 r5_1 c5_1; obtain ⟨x6, y6⟩ := keepB hW z6_1 r6_1 c6_1; obtain ⟨x7, y7⟩ := keepB hW z7_1 r7_1 c7_1; go_simp; first | done | rfl)); simp only [Act.put, List.setIfInBounds_toArray, List.set_cons_zero, List.set_cons_succ])
 (refine q_plain rfl ?_; apply Exists.intro; refine ⟨fun W hW => ?_, ?_⟩; (focus (obtain ⟨x4, y4⟩ := keepB hW z4_1 r4_1 c4_1; obtain ⟨x5, y5⟩ := keepB hW z5_1 r5_1 c5_1; obtain ⟨x6, y6⟩ := keepB hW z6_1 r6_1 c6_1; obtain ⟨x7, y7⟩ := keepB hW z7_1 r7_1 c7_1; go_simp; (go_at_call 18; exact (toModule_any _ _ _).mono fun e w2 ⟨he, hw2⟩ => ⟨he, hW.trans (hw2.mono hW.size)⟩))); simp only [Act.put, List.setIfInBounds_toArray, List.set_cons_zero, List.set_cons_succ])
 iterate 1 (refine q_plain rfl ?_; apply Exists.intro; refine ⟨fun W hW => ?_, ?_⟩; (focus (obtain ⟨x4, y4⟩ := keepB hW z4_1 r4_1 c4_1; obtain ⟨x5, y5⟩ := keepB hW z5_1 r5_1 c5_1; obtain ⟨x6, y6⟩ := keepB hW z6_1 r6_1 c6_1; obtain ⟨x7, y7⟩ := keepB hW z7_1 r7_1 c7_1; go_simp; first | done | rfl)); simp only [Act.put, List.setIfInBounds_toArray, List.set_cons_zero, List.set_cons_succ])
 (refine q_plain rfl ?_; apply Exists.intro; refine ⟨fun W hW => ?_, ?_⟩; (focus (obtain ⟨x4, y4⟩ := keepB hW z4_1 r4_1 c4_1; obtain ⟨x5, y5⟩ := keepB hW z5_1 r5_1 c5_1; obtain ⟨x6, y6⟩ := keepB hW z6_1 r6_1 c6_1; obtain ⟨x7, y7⟩ := keepB hW z7_1 r7_1 c7_1; go_simp; (go_at_call 18; exact (toModule_any _ _ _).mono fun e w2 ⟨he, hw2⟩ => ⟨he, hW.trans (hw2.mono hW.size)⟩))); simp only [Act.put, List.setIfInBounds_toArray, List.set_cons_zero, List.set_cons_succ])
 iterate 1 (refine q_plain rfl ?_; apply Exists.intro; refine ⟨fun W hW => ?_, ?_⟩; (focus (obtain ⟨x4, y4⟩ := keepB hW z4_1 r4_1 c4_1; obtain ⟨x5, y5⟩ := keepB hW z5_1 r5_1 c5_1; obtain ⟨x6, y6⟩ := keepB hW z6_1 r6_1 c6_1; obtain ⟨x7, y7⟩ := keepB hW z7_1 r7_1 c7_1; go_simp; first | done | rfl)); simp only [Act.put, List.setIfInBounds_toArray, List.set_cons_zero, List.set_cons_succ])
 (refine q_plain rfl ?_; apply Exists.intro; refine ⟨fun W hW => ?_, ?_⟩; (focus (obtain ⟨x4, y4⟩ := keepB hW z4_1 r4_1 c4_1; obtain ⟨x5, y5⟩ := keepB hW z5_1 r5_1 c5_1; obtain ⟨x6, y6⟩ := keepB hW z6_1 r6_1 c6_1; obtain ⟨x7, y7⟩ := keepB hW z7_1 r7_1 c7_1; go_simp; (go_at_call 44; exact (toLinear_any _ _).mono fun e w2 ⟨he, hw2⟩ => ⟨he, hW.trans (hw2.mono hW.size)⟩))); simp only [Act.put, List.setIfInBounds_toArray, List.set_cons_zero, List.set_cons_succ])
 (refine q_plain rfl ?_; apply Exists.intro; refine ⟨fun W hW => ?_, ?_⟩; (focus (obtain ⟨x4, y4⟩ := keepB hW z4_1 r4_1 c4_1; obtain ⟨x5, y5⟩ := keepB hW z5_1 r5_1 c5_1; obtain ⟨x6, y6⟩ := keepB hW z6_1 r6_1 c6_1; obtain ⟨x7, y7⟩ := keepB hW z7_1 r7_1 c7_1; go_simp; (go_at_call 43; exact (specMap_any _ _ _ _ _ _ _ _ _ Hf.out Hm.out Hk.out Hg.out).mono fun e w2 ⟨he, hw2⟩ => ⟨he, hW.trans (hw2.mono hW.size)⟩))); simp only [Act.put, List.setIfInBounds_toArray, List.set_cons_zero, List.set_cons_succ])
 iterate 5 (refine q_plain rfl ?_; apply Exists.intro; refine ⟨fun W hW => ?_, ?_⟩; (focus (obtain ⟨x4, y4⟩ := keepB hW z4_1 r4_1 c4_1; obtain ⟨x5, y5⟩ := keepB hW z5_1 r5_1 c5_1; obtain ⟨x6, y6⟩ := keepB hW z6_1 r6_1 c6_1; obtain ⟨x7, y7⟩ := keepB hW z7_1 r7_1 c7_1; go_simp; first | done | rfl)); simp only [Act.put, List.setIfInBounds_toArray, List.set_cons_zero, List.set_cons_succ])
 refine wpQuiet_nil ?_
 intro W2 hw2
 obtain ⟨r4_2, c4_2, z4_2⟩ := keepZ hw2 z4_1 r4_1 c4_1
 obtain ⟨r5_2, c5_2, z5_2⟩ := keepZ hw2 z5_1 r5_1 c5_1
 obtain ⟨r6_2, c6_2, z6_2⟩ := keepZ hw2 z6_1 r6_1 c6_1
 obtain ⟨r7_2, c7_2, z7_2⟩ := keepZ hw2 z7_1 r7_1 c7_1
 obtain ⟨hb2, q2⟩ := bN hb1 hw2
 clear hw2 r4_1 c4_1 z4_1 r5_1 c5_1 z5_1 r6_1 c6_1 z6_1 r7_1 c7_1 z7_1 hb1
 go_wp2
 refine wp_quiet_all (Below W2.heap.size W2) (by kernel_rfl) (by kernel_rfl) (Below.refl _ _).drew ?_
 iterate 1 (refine q_plain rfl ?_; apply Exists.intro; refine ⟨fun W hW => ?_, ?_⟩; (focus (obtain ⟨x4, y4⟩ := keepB hW z4_2 r4_2 c4_2; obtain ⟨x5, y5⟩ := keepB hW z5_2 r5_2 c5_2; obtain ⟨x6, y6⟩ := keepB hW z6_2 r6_2 c6_2; obtain ⟨x7, y7⟩ := keepB hW z7_2 r7_2 c7_2; go_simp; first | done | rfl)); simp only [Act.put, List.setIfInBounds_toArray, List.set_cons_zero, List.set_cons_succ])
 (refine q_plain rfl ?_; apply Exists.intro; refine ⟨fun W hW => ?_, ?_⟩; (focus (obtain ⟨x4, y4⟩ := keepB hW z4_2 r4_2 c4_2; obtain ⟨x5, y5⟩ := keepB hW z5_2 r5_2 c5_2; obtain ⟨x6, y6⟩ := keepB hW z6_2 r6_2 c6_2; obtain ⟨x7, y7⟩ := keepB hW z7_2 r7_2 c7_2; go_simp; (go_at_call 15; exact (toHopf_any _ _ _ _).mono fun e w2 ⟨he, hw2⟩ => ⟨he, hW.trans (hw2.mono hW.size)⟩))); simp only [Act.put, List.setIfInBounds_toArray, List.set_cons_zero, List.set_cons_succ])
 iterate 1 (refine q_plain rfl ?_; apply Exists.intro; refine ⟨fun W hW => ?_, ?_⟩; (focus (obtain ⟨x4, y4⟩ := keepB hW z4_2 r4_2 c4_2; obtain ⟨x5, y5⟩ := keepB hW z5_2 r5_2 c5_2; obtain ⟨x6, y6⟩ := keepB hW z6_2 r6_2 c6_2; obtain ⟨x7, y7⟩ := keepB hW z7_2 r7_2 c7_2; go_simp; first | done | rfl)); simp only [Act.put, List.setIfInBounds_toArray, List.set_cons_zero, List.set_cons_succ])
 (refine q_plain rfl ?_; apply Exists.intro; refine ⟨fun W hW => ?_, ?_⟩; (focus (obtain ⟨x4, y4⟩ := keepB hW z4_2 r4_2 c4_2; obtain ⟨x5, y5⟩ := keepB hW z5_2 r5_2 c5_2; obtain ⟨x6, y6⟩ := keepB hW z6_2 r6_2 c6_2; obtain ⟨x7, y7⟩ := keepB hW z7_2 r7_2 c7_2; go_simp; (go_at_call 18; exact (toModule_any _ _ _).mono fun e w2 ⟨he, hw2⟩ => ⟨he, hW.trans (hw2.mono hW.size)⟩))); simp only [Act.put, List.setIfInBounds_toArray, List.set_cons_zero, List.set_cons_succ])
 iterate 1 (refine q_plain rfl ?_; apply Exists.intro; refine ⟨fun W hW => ?_, ?_⟩; (focus (obtain ⟨x4, y4⟩ := keepB hW z4_2 r4_2 c4_2; obtain ⟨x5, y5⟩ := keepB hW z5_2 r5_2 c5_2; obtain ⟨x6, y6⟩ := keepB hW z6_2 r6_2 c6_2; obtain ⟨x7, y7⟩ := keepB hW z7_2 r7_2 c7_2; go_simp; first | done | rfl)); simp only [Act.put, List.setIfInBounds_toArray, List.set_cons_zero, List.set_cons_succ])
 (refine q_plain rfl ?_; apply Exists.intro; refine ⟨fun W hW => ?_, ?_⟩; (focus (obtain ⟨x4, y4⟩ := keepB hW z4_2 r4_2 c4_2; obtain ⟨x5, y5⟩ := keepB hW z5_2 r5_2 c5_2; obtain ⟨x6, y6⟩ := keepB hW z6_2 r6_2 c6_2; obtain ⟨x7, y7⟩ := keepB hW z7_2 r7_2 c7_2; go_simp; (go_at_call 18; exact (toModule_any _ _ _).mono fun e w2 ⟨he, hw2⟩ => ⟨he, hW.trans (hw2.mono hW.size)⟩))); simp only [Act.put, List.setIfInBounds_toArray, List.set_cons_zero, List.set_cons_succ])
 iterate 1 (refine q_plain rfl ?_; apply Exists.intro; refine ⟨fun W hW => ?_, ?_⟩; (focus (obtain ⟨x4, y4⟩ := keepB hW z4_2 r4_2 c4_2; obtain ⟨x5, y5⟩ := keepB hW z5_2 r5_2 c5_2; obtain ⟨x6, y6⟩ := keepB hW z6_2 r6_2 c6_2; obtain ⟨x7, y7⟩ := keepB hW z7_2 r7_2 c7_2; go_simp; first | done | rfl)); simp only [Act.put, List.setIfInBounds_toArray, List.set_cons_zero, List.set_cons_succ])
 (refine q_plain rfl ?_; apply Exists.intro; refine ⟨fun W hW => ?_, ?_⟩; (focus (obtain ⟨x4, y4⟩ := keepB hW z4_2 r4_2 c4_2; obtain ⟨x5, y5⟩ := keepB hW z5_2 r5_2 c5_2; obtain ⟨x6, y6⟩ := keepB hW z6_2 r6_2 c6_2; obtain ⟨x7, y7⟩ := keepB hW z7_2 r7_2 c7_2; go_simp; (go_at_call 44; exact (toLinear_any _ _).mono fun e w2 ⟨he, hw2⟩ => ⟨he, hW.trans (hw2.mono hW.size)⟩))); simp only [Act.put, List.setIfInBounds_toArray, List.set_cons_zero, List.set_cons_succ])
 (refine q_plain rfl ?_; apply Exists.intro; refine ⟨fun W hW => ?_, ?_⟩; (focus (obtain ⟨x4, y4⟩ := keepB hW z4_2 r4_2 c4_2; obtain ⟨x5, y5⟩ := keepB hW z5_2 r5_2 c5_2; obtain ⟨x6, y6⟩ := keepB hW z6_2 r6_2 c6_2; obtain ⟨x7, y7⟩ := keepB hW z7_2 r7_2 c7_2; go_simp; (go_at_call 45; exact (implMap_any _ _ _ _ _ _ _ _ _ Hf.out Hm.out Hk.out Hg.out).mono fun e w2 ⟨he, hw2⟩ => ⟨he, hW.trans (hw2.mono hW.size)⟩))); simp only [Act.put, List.setIfInBounds_toArray, List.set_cons_zero, List.set_cons_succ])
 iterate 5 (refine q_plain rfl ?_; apply Exists.intro; refine ⟨fun W hW => ?_, ?_⟩; (focus (obtain ⟨x4, y4⟩ := keepB hW z4_2 r4_2 c4_2; obtain ⟨x5, y5⟩ := keepB hW z5_2 r5_2 c5_2; obtain ⟨x6, y6⟩ := keepB hW z6_2 r6_2 c6_2; obtain ⟨x7, y7⟩ := keepB hW z7_2 r7_2 c7_2; go_simp; first | done | rfl)); simp only [Act.put, List.setIfInBounds_toArray, List.set_cons_zero, List.set_cons_succ])
 refine wpQuiet_nil ?_
 intro W3 hw3
 obtain ⟨r4_3, c4_3, z4_3⟩ := keepZ hw3 z4_2 r4_2 c4_2
 obtain ⟨r5_3, c5_3, z5_3⟩ := keepZ hw3 z5_2 r5_2 c5_2
 obtain ⟨r6_3, c6_3, z6_3⟩ := keepZ hw3 z6_2 r6_2 c6_2
 obtain ⟨r7_3, c7_3, z7_3⟩ := keepZ hw3 z7_2 r7_2 c7_2
 obtain ⟨hb3, q3⟩ := bN hb2 hw3
 clear hw3 r4_2 c4_2 z4_2 r5_2 c5_2 z5_2 r6_2 c6_2 z6_2 r7_2 c7_2 z7_2 hb2
 go_wp2_with fail
 go_ret
 exact ⟨rfl, bt⟩

end Go.Proofs.YtfmhgfnadgaiaaaGreat
