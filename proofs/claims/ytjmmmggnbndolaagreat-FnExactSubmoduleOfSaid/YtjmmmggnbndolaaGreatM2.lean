/- Modules: the check of modules by the program says what that of the reference model says; lists of modules. -/
import Derived.Test.YtjmmmggnbndolaaGreatM1
namespace Go.Proofs.YtjmmmggnbndolaaGreat
open Go.RowKit
set_option linter.unusedSimpArgs false
set_option linter.unusedVariables false
attribute [local irreducible] wpQuiet wpQE

theorem maps_shape {p d : Int} {n : Nat} {F : Nat → Int} (hs : sizesB p n = true) : mapsB p d n F = shapeM p n d F := by
  obtain ⟨hp2, _, hn1, hn8⟩ := sizes_range hs
  cases hd : sizesB p d
  · have h1 : (decide (1 ≤ d) && decide (d ≤ 8)) = false := by
      unfold sizesB at hs hd
      simp only [Bool.and_eq_true] at hs
      rw [hs.1, Bool.true_and] at hd
      exact hd
    have h2 : mapsB p d n F = false := all_no 0 8 (by omega) (by unfold entM; rw [hd, decide_eq_false (show ¬ (n : Int) ≤ ((0 : Nat) : Int) by omega)]; rfl)
    unfold shapeM; rw [h1, h2]; rfl
  · have h1 : (decide (1 ≤ d) && decide (d ≤ 8)) = true := by obtain ⟨_, _, a, b⟩ := sizes_range hd; rw [decide_eq_true a, decide_eq_true b]; rfl
    unfold shapeM mapsB
    rw [h1, Bool.true_and]
    congr 1
    funext i
    unfold entM entA
    rw [hd, Bool.true_and]
    by_cases h : (i : Int) < n
    · rw [decide_eq_true h, decide_eq_false (p := (n : Int) ≤ (i : Int)) (by omega), Bool.false_or, Bool.true_or]
    · rw [decide_eq_false h, decide_eq_true (p := (n : Int) ≤ (i : Int)) (by omega), Bool.true_or, Bool.true_and, Bool.false_or]
      cases hz : segEq 0 64 (rowOf 64 F i) zf
      · rw [Bool.and_false]
      · rw [linB_zero (by omega) hz]; rfl
theorem shapeM_sizes {p d : Int} {n : Nat} {F : Nat → Int} (hs : sizesB p n = true) (h : shapeM p n d F = true) : sizesB p d = true := by
  unfold sizesB at hs ⊢
  unfold shapeM at h
  simp only [Bool.and_eq_true] at hs h ⊢
  exact ⟨hs.1, h.1⟩
/-- what the shape of a module tells of its entries -/
structure ModS (p : Int) (n d : Nat) (F : Nat → Int) : Prop where
  lt : ∀ i j t, i < 8 → j < 8 → t < 8 → 0 ≤ act F i j t ∧ act F i j t < p
  far : ∀ i j t, n ≤ i → i < 8 → j < 8 → t < 8 → act F i j t = 0
  low : ∀ i j t, i < 8 → d ≤ j → j < 8 → t < 8 → act F i j t = 0
theorem mod_shape {p : Int} {n d : Nat} {F : Nat → Int} (hF : Bytes 512 F) (h : shapeM p n d F = true) : ModS p n d F := by
  unfold shapeM at h
  simp only [Bool.and_eq_true] at h
  have hr : ∀ i j, i < 8 → j < 8 → vecB p d (rowOf 8 (rowOf 64 F i) j) = true ∧ (j < d ∨ segEq 0 8 (rowOf 8 (rowOf 64 F i) j) zf = true) := fun i j hi hj => by
    have h1 := all_get h.2 i hi
    unfold entA at h1
    simp only [Bool.and_eq_true] at h1
    have h2 := all_get h1.1 j hj
    unfold entL at h2
    simp only [Bool.and_eq_true, Bool.or_eq_true, decide_eq_true_eq] at h2
    exact ⟨h2.1, h2.2.imp (fun h => by omega) id⟩
  have e : ∀ i j t, rowOf 8 (rowOf 64 F i) j t = act F i j t := fun i j t => rfl
  refine ⟨fun i j t hi hj ht => ?_, fun i j t h0 hi hj ht => ?_, fun i j t hi h0 hj ht => ?_⟩
  · have := (vecB_iff p d _).1 (hr i j hi hj).1 t ht
    rw [e] at this
    exact ⟨(hF (i * 64 + (j * 8 + t)) (by omega)).1, this.1⟩
  · have h1 := all_get h.2 i hi
    unfold entA at h1
    simp only [Bool.and_eq_true, Bool.or_eq_true, decide_eq_true_eq] at h1
    have h2 := h1.2.resolve_left (by omega)
    exact zero_row h2 (j * 8 + t) (by omega)
  · have h2 := (hr i j hi hj).2.resolve_left (by omega)
    exact zero_row h2 t ht
theorem app_ebas {p : Int} {d : Nat} {g : Nat → Nat → Int} {k t : Nat} (hk : k < d) : appF p d g (ebas k) t = g k t % p := by
  unfold appF
  rw [sumTo_one (k := k) d hk fun a _ ha => by unfold ebas upd zf; rw [if_neg ha, Int.zero_mul]]
  unfold ebas upd
  rw [if_pos rfl, Int.one_mul]
theorem actT_times {p : Int} {n d : Nat} {F a : Nat → Int} (hS : ModS p n d F) (hn : n ≤ 8) (hd : d ≤ 8) {k t : Nat} (hk : k < d) (ht : t < 8) : actT p d F a (k * 8 + t) = timesF p d (act F) a (ebas k) n t := by
  unfold actT timesF
  rw [show (k * 8 + t) / 8 = k by omega, show (k * 8 + t) % 8 = t by omega, if_pos hk, sumTo_more (n := n) (fun i h1 h2 => by rw [hS.far i k t h1 h2 (by omega) ht, Int.mul_zero]) hn]
  refine sum_mod p _ _ n fun i _ => ?_
  rw [app_ebas hk]
  exact emod_mul_congr rfl (Int.emod_emod _ _).symm
theorem actT_low {p : Int} {d : Nat} {F a : Nat → Int} {k t : Nat} (hk : d ≤ k) (ht : t < 8) : actT p d F a (k * 8 + t) = 0 := by
  unfold actT
  rw [if_neg (by omega)]
theorem actT_basis {p : Int} {n d : Nat} {F : Nat → Int} (hS : ModS p n d F) (hd : d ≤ 8) {i k t : Nat} (hi : i < 8) (hk : k < d) (ht : t < 8) : actT p d F (ebas i) (k * 8 + t) = act F i k t := by
  unfold actT
  rw [show (k * 8 + t) / 8 = k by omega, show (k * 8 + t) % 8 = t by omega, if_pos hk, sumTo_one (k := i) 8 hi fun a _ ha => by unfold ebas upd zf; rw [if_neg ha, Int.zero_mul]]
  unfold ebas upd
  rw [if_pos rfl, Int.one_mul]
  have := hS.lt i k t hi (by omega) ht
  exact Int.emod_eq_of_lt this.1 this.2
theorem comp_act {p : Int} {n d : Nat} {F : Nat → Int} (hS : ModS p n d F) (hd : d ≤ 8) {i j k t : Nat} (hi : i < 8) (hj : j < 8) (hk : k < d) (ht : t < 8) : compF p (actT p d F (ebas i)) (actT p d F (ebas j)) (k * 8 + t) = appF p d (act F i) (act F j k) t := by
  unfold compF appF
  rw [show (k * 8 + t) / 8 = k by omega, show (k * 8 + t) % 8 = t by omega, sumTo_more (n := d) (fun x h1 h2 => by show actT p d F (ebas j) (k * 8 + x) * actT p d F (ebas i) (x * 8 + t) = 0; rw [actT_low (k := x) h1 ht, Int.mul_zero]) hd]
  exact congrArg (· % p) (sumTo_congr d fun x hx => by show actT p d F (ebas j) (k * 8 + x) * actT p d F (ebas i) (x * 8 + t) = act F j k x * act F i x t; rw [actT_basis hS hd hj hk (by omega), actT_basis hS hd hi hx ht])
theorem comp_low {p : Int} {d : Nat} {F a b : Nat → Int} {k t : Nat} (hk : d ≤ k) (ht : t < 8) : compF p (actT p d F a) (actT p d F b) (k * 8 + t) = 0 := by
  unfold compF appF
  rw [show (k * 8 + t) / 8 = k by omega, sumTo_zero 8 fun x hx => by show actT p d F b (k * 8 + x) * _ = 0; rw [actT_low (k := k) (t := x) hk hx, Int.zero_mul]]
  simp
/-- by the program: e(i) e(j) acts as e(i) behind e(j) -/
def likeE (p : Int) (n : Nat) (f : Nat → Int) (d : Nat) (F : Nat → Int) (i j : Nat) : Bool := segEq 0 64 (actT p d F (mtab f i j)) (compF p (actT p d F (ebas i)) (actT p d F (ebas j)))
def likeB (p : Int) (n : Nat) (f : Nat → Int) (d : Nat) (F : Nat → Int) : Bool := ((List.range n).all fun i => (List.range n).all fun j => likeE p n f d F i j) && segEq 0 64 (actT p d F f) (idK d)
theorem like_no1 {p : Int} {n : Nat} {f : Nat → Int} {d : Nat} {F : Nat → Int} {i j : Nat} (hi : i < n) (hj : j < n) (h : likeE p n f d F i j = false) : likeB p n f d F = false := by
  unfold likeB
  rw [all_no (q := fun i => (List.range n).all fun j => likeE p n f d F i j) i n hi (all_no j n hj h)]; rfl
theorem like_yes {p : Int} {n : Nat} {f : Nat → Int} {d : Nat} {F : Nat → Int} (h : ∀ i, i < n → ∀ j, j < n → likeE p n f d F i j = true) : likeB p n f d F = segEq 0 64 (actT p d F f) (idK d) := by
  unfold likeB
  rw [all_yes n fun i hi => all_yes n fun j hj => h i hi j hj]; rfl
theorem likes_more {p : Int} {n : Nat} {f : Nat → Int} {d : Nat} {F : Nat → Int} {i : Nat} (h : ∀ a, a < i → ∀ j, j < n → likeE p n f d F a j = true) (hi : ∀ j, j < n → likeE p n f d F i j = true) : ∀ a, a < i + 1 → ∀ j, j < n → likeE p n f d F a j = true := fun a ha j hj => by
  by_cases e : a = i
  · subst e; exact hi j hj
  · exact h a (by omega) j hj
theorem seg64 (F G : Nat → Int) : segEq 0 64 F G = true ↔ ∀ k, k < 8 → ∀ t, t < 8 → F (k * 8 + t) = G (k * 8 + t) := by
  rw [segEq_iff]
  constructor
  · intro h k hk t ht
    have := h (k * 8 + t) (by omega)
    rw [Nat.zero_add] at this
    exact this
  · intro h u hu
    have := h (u / 8) (by omega) (u % 8) (by omega)
    rw [show u / 8 * 8 + u % 8 = u by omega] at this
    rw [Nat.zero_add]; exact this
theorem seg8 (F G : Nat → Int) : segEq 0 8 F G = true ↔ ∀ t, t < 8 → F t = G t := by
  rw [segEq_iff]
  constructor
  · intro h t ht
    have := h t ht
    rw [Nat.zero_add] at this
    exact this
  · intro h t ht
    rw [Nat.zero_add]; exact h t ht
theorem idk_at {d k t : Nat} (ht : t < 8) : idK d (k * 8 + t) = if k < d then ebas k t else 0 := by
  unfold idK
  rw [show (k * 8 + t) / 8 = k by omega, show (k * 8 + t) % 8 = t by omega]
/-- both programs check the same -/
theorem like_acts {p : Int} {n d : Nat} {f F : Nat → Int} (hS : ModS p n d F) (hn : n ≤ 8) (hd : d ≤ 8) : likeB p n f d F = actsB p n f d F := by
  rw [Bool.eq_iff_iff]
  unfold likeB actsB likeE rowE prodE
  simp only [Bool.and_eq_true, List.all_eq_true, List.mem_range, seg64, seg8]
  constructor
  · rintro ⟨h1, h2⟩ k hk
    refine ⟨fun t ht => ?_, fun i hi j hj t ht => ?_⟩
    · rw [← actT_times hS hn hd hk ht, h2 k (by omega) t ht, idk_at ht, if_pos hk]
    · rw [← actT_times hS hn hd hk ht, h1 i hi j hj k (by omega) t ht, comp_act hS hd (by omega) (by omega) hk ht]
  · intro h
    refine ⟨fun i hi j hj k hk t ht => ?_, fun k hk t ht => ?_⟩
    · by_cases h8 : k < d
      · rw [actT_times hS hn hd h8 ht, comp_act hS hd (by omega) (by omega) h8 ht, (h k h8).2 i hi j hj t ht]
      · rw [actT_low (by omega) ht, comp_low (by omega) ht]
    · by_cases h8 : k < d
      · rw [actT_times hS hn hd h8 ht, (h k h8).1 t ht, idk_at ht, if_pos h8]
      · rw [actT_low (by omega) ht, idk_at ht, if_neg h8]
theorem modB_maps {p : Int} {n d : Nat} {f F : Nat → Int} (hs : sizesB p n = true) (hF : Bytes 512 F) (h : mapsB p d n F = true) : modB p n f d F = likeB p n f d F := by
  rw [maps_shape hs] at h
  obtain ⟨_, _, _, hd⟩ := sizes_range (shapeM_sizes hs h)
  obtain ⟨_, _, _, hn⟩ := sizes_range hs
  unfold modB
  rw [h, Int.toNat_natCast, like_acts (mod_shape hF h) (by omega) (by omega)]; rfl
theorem modB_none {p : Int} {n : Nat} {d : Int} {f F : Nat → Int} (hs : sizesB p n = true) (h : mapsB p d n F = false) : modB p n f d F = false := by
  rw [maps_shape hs] at h
  unfold modB
  rw [h]; rfl
theorem modB_sizes {p : Int} {n : Nat} {d : Int} {f F : Nat → Int} (hs : sizesB p n = true) (h : modB p n f d F = true) : sizesB p d = true := by
  unfold modB at h
  simp only [Bool.and_eq_true] at h
  exact shapeM_sizes hs h.1
theorem modB_shape {p : Int} {n d : Nat} {f F : Nat → Int} (hF : Bytes 512 F) (h : modB p n f d F = true) : ModS p n d F := by
  unfold modB at h
  simp only [Bool.and_eq_true] at h
  exact mod_shape hF h.1

set_option maxRecDepth 100000 in
set_option maxHeartbeats 4000000 in
theorem actsLikeAlgebra_any (p : Int) (n d : Nat) (f F : Nat → Int) (w : World) (hp : 0 < p) (hp' : p ≤ 255) (hn : n ≤ 8) (hf : Bytes 1104 f) (hF : Bytes 512 F) (hd : d ≤ 8) :
    Calls Tryz.prog 128 #[.agg (hop p n f), .iface 41 (.agg (mdl d F))] w fun e w' => e = .returned (.bool (likeB p n f d F)) ∧ Below w.heap.size w w' := by
 have Hf := Lib.hid hf; clear hf
 have HF := Lib.hid hF; clear hF
 go_enter Tryz.func128, Tryz.ntmps128
 go_wp2
 refine atomW fun W1 e1 => ?_
 have hb1 : Below w.heap.size w W1 := by rw [e1]; exact bt
 have q1 := hb1.size
 have r2_1 : IsRow W1 (w.heap.size) := by rw [e1]; simp [go_sem]
 have c2_1 := congrArg (fun x => blk x (w.heap.size)) e1; simp [go_sem] at c2_1
 have z2_1 := isRow_lt r2_1
 clear e1
 go_loopw [11] (fun s11 wr => ∃ i : Nat, i ≤ n ∧ s11 = .int .i64 i ∧ Below w.heap.size w wr ∧ (IsRow wr (w.heap.size) ∧ blk wr (w.heap.size) = blk W1 (w.heap.size)) ∧ ∀ a, a < i → ∀ j, j < n → likeE p n f d F a j = true) (fun s11 _ => n - (intOf s11).toNat)
 case atStart => exact ⟨0, by omega, rfl, hb1, ⟨r2_1, rfl⟩, fun a ha => by omega⟩
 case round =>
  obtain ⟨i, hle2, rfl, hb2, ⟨r2_2, c2_2⟩, hx2⟩ := hrel
  obtain ⟨W2, rfl⟩ : ∃ W2 : World, W2 = wr := ⟨_, rfl⟩
  have q2 := hb2.size
  have HX2 := Lib.hid hx2; clear hx2
  have E2_2 := Lib.hid c2_1; replace c2_2 := c2_2.trans c2_1
  have z2_2 := isRow_lt r2_2
  clear r2_1 c2_1 z2_1 hb1
  by_cases hlt2 : i < n
  ·
   have i0_2 : (0 : Int) ≤ (i : Int) := by omega
   have i8_2 : (i : Int) < 8 := by omega
   have k8_2 : i < 8 := by omega
   have m8_2 : i * 8 + 8 ≤ 64 := by omega
   have m64_2 : i * 64 + 64 ≤ 512 := by omega
   have l1_2 : 10 + i * 64 + 64 ≤ 522 := by omega
   have HI := HX2
   go_wp2
   go_loopw [16] (fun s16 wr => ∃ j : Nat, j ≤ n ∧ s16 = .int .i64 j ∧ Below w.heap.size w wr ∧ (IsRow wr (w.heap.size) ∧ blk wr (w.heap.size) = blk W2 (w.heap.size)) ∧ ∀ y, y < j → likeE p n f d F i y = true) (fun s16 _ => n - (intOf s16).toNat)
   case atStart => exact ⟨0, by omega, rfl, hb2, ⟨r2_2, rfl⟩, fun y hy => by omega⟩
   case round =>
    obtain ⟨j, hle3, rfl, hb3, ⟨r2_3, c2_3⟩, hx3⟩ := hrel
    obtain ⟨W3, rfl⟩ : ∃ W3 : World, W3 = wr := ⟨_, rfl⟩
    have q3 := hb3.size
    have HX3 := Lib.hid hx3; clear hx3
    have E2_3 := Lib.hid c2_2; replace c2_3 := c2_3.trans c2_2
    have z2_3 := isRow_lt r2_3
    clear r2_2 c2_2 z2_2 hb2
    by_cases hlt3 : j < n
    ·
     have i0_3 : (0 : Int) ≤ (j : Int) := by omega
     have i8_3 : (j : Int) < 8 := by omega
     have k8_3 : j < 8 := by omega
     have m8_3 : j * 8 + 8 ≤ 64 := by omega
     have m64_3 : j * 64 + 64 ≤ 512 := by omega
     have l1_3 : 10 + j * 64 + 64 ≤ 522 := by omega
     have l2_3i : 10 + i * 64 + j * 8 + 8 ≤ 522 := by omega
     have l3_3i : 10 + j * 64 + i * 8 + 8 ≤ 522 := by omega
     have l4_3i : i * 64 + j * 8 + 8 ≤ 512 := by omega
     have l5_3i : j * 64 + i * 8 + 8 ≤ 512 := by omega
     have l6_3i : i * 8 + j < 64 := by omega
     have l7_3i : j * 8 + i < 64 := by omega
     cases he : segEq 0 64 (actT p d F (mtab f i j)) (compF p (actT p d F (ebas i)) (actT p d F (ebas j)))
     ·
      have HM := Lib.hid (mtab_bt (hop_bytes Hf.out) (i := i) (j := j) (by omega) (by omega))
      have e3 := hop_mul8 p n f i j (by omega) (by omega)
      have l4 : 10 + i * 64 + j * 8 + 8 ≤ 1106 := by omega
      have l5 : 10 + i * 64 + 64 ≤ 1106 := by omega
      have A1 := Lib.hid (actT_bytes hp hp' d F (ebas i))
      have A2 := Lib.hid (actT_bytes hp hp' d F (ebas j))
      have H := Lib.hid (like_no1 (p := p) (n := n) (f := f) (d := d) (F := F) (i := i) (j := j) (by omega) (by omega) he)
      go_wp2
      refine wp_quiet_alloc 6 _ (.cells (row 64 zf) 34) (Below W3.heap.size W3) (Made W3 (row 64 zf)) (by kernel_rfl) rfl rfl (by kernel_rfl) (fun a W => (xallocLin _ _ _ _ _ _ _).trans (allocLin W)) (closed_below W3) (closed_made W3 _) (fun b W h => h.1) (fun W h => made_new W3 _ _ W h) (Below.refl _ _).drew ?_
      simp only [List.take_succ_cons, List.take_zero, List.drop_succ_cons, List.drop_zero]
      iterate 4 (refine e_plain rfl ?_; apply Exists.intro; refine ⟨fun D hD hK W hW => ?_, ?_⟩; (focus (obtain ⟨x2, y2⟩ := keepB (hD W hW) z2_3 r2_3 c2_3; unfold Oper.quietAt; go_simp; first | done | rfl)); simp only [Act.put, List.setIfInBounds_toArray, List.set_cons_zero, List.set_cons_succ])
      (refine e_plain rfl ?_; apply Exists.intro; refine ⟨fun D hD hK W hW => ?_, ?_⟩; (focus (obtain ⟨x2, y2⟩ := keepB (hD W hW) z2_3 r2_3 c2_3; unfold Oper.quietAt; go_simp; (go_at_call 71; exact (basisAt j (by omega) _).mono fun e w2 ⟨he, hw2⟩ => ⟨he, hK _ _ hW hw2⟩))); simp only [Act.put, List.setIfInBounds_toArray, List.set_cons_zero, List.set_cons_succ])
      (refine e_plain rfl ?_; apply Exists.intro; refine ⟨fun D hD hK W hW => ?_, ?_⟩; (focus (obtain ⟨x2, y2⟩ := keepB (hD W hW) z2_3 r2_3 c2_3; unfold Oper.quietAt; go_simp; (go_at_call 70; exact (actTable_any p d F (ebas j) _ hp hp' hd HF.out (ebas_bytes j)).mono fun e w2 ⟨he, hw2⟩ => ⟨he, hK _ _ hW hw2⟩))); simp only [Act.put, List.setIfInBounds_toArray, List.set_cons_zero, List.set_cons_succ])
      refine e_nil ?_
      intro a4 W4 hW4
      obtain ⟨hw4, hl4, m1_4, m2_4⟩ := hW4
      have n2_7 : (w.heap.size) ≠ (a4) := by have := z2_3; omega
      have n7_2 : (a4) ≠ (w.heap.size) := by have := z2_3; omega
      obtain ⟨r2_4, c2_4, z2_4⟩ := keepZ hw4 z2_3 r2_3 c2_3
      obtain ⟨hb4, q4⟩ := bN hb3 hw4
      clear hw4 r2_3 c2_3 z2_3 hb3
      have z7_4 := isRow_lt m1_4
      simp only [Act.put, List.setIfInBounds_toArray, List.set_cons_zero, List.set_cons_succ]
      go_wp2
      refine atomW fun W5 e5 => ?_
      have hb5 : Below w.heap.size w W5 := by rw [e5]; exact bt
      have q5 := hb5.size
      have R5 : IsRow W5 (w.heap.size) ∧ IsRow W5 (a4) := by rw [e5]; simp [go_sem, r2_4, c2_4, n2_7, m1_4, m2_4, n7_2]
      obtain ⟨r2_5, r7_5⟩ := R5
      have C5 := (⟨congrArg (blk · (w.heap.size)) e5, congrArg (blk · (a4)) e5⟩ : _ ∧ _); simp [go_sem, r2_4, c2_4, n2_7, m1_4, m2_4, n7_2] at C5
      obtain ⟨c2_5, c7_5⟩ := C5
      have z2_5 := isRow_lt r2_5; have z7_5 := isRow_lt r7_5
      clear e5 r2_4 c2_4 z2_4 m1_4 m2_4 z7_4 hb4
      refine wp_quiet_alloc 6 _ (.cells (row 64 zf) 34) (Below W5.heap.size W5) (Made W5 (row 64 zf)) (by kernel_rfl) rfl rfl (by kernel_rfl) (fun a W => (xallocLin _ _ _ _ _ _ _).trans (allocLin W)) (closed_below W5) (closed_made W5 _) (fun b W h => h.1) (fun W h => made_new W5 _ _ W h) (Below.refl _ _).drew ?_
      simp only [List.take_succ_cons, List.take_zero, List.drop_succ_cons, List.drop_zero]
      iterate 4 (refine e_plain rfl ?_; apply Exists.intro; refine ⟨fun D hD hK W hW => ?_, ?_⟩; (focus (obtain ⟨x2, y2⟩ := keepB (hD W hW) z2_5 r2_5 c2_5; obtain ⟨x7, y7⟩ := keepB (hD W hW) z7_5 r7_5 c7_5; unfold Oper.quietAt; go_simp; first | done | rfl)); simp only [Act.put, List.setIfInBounds_toArray, List.set_cons_zero, List.set_cons_succ])
      (refine e_plain rfl ?_; apply Exists.intro; refine ⟨fun D hD hK W hW => ?_, ?_⟩; (focus (obtain ⟨x2, y2⟩ := keepB (hD W hW) z2_5 r2_5 c2_5; obtain ⟨x7, y7⟩ := keepB (hD W hW) z7_5 r7_5 c7_5; unfold Oper.quietAt; go_simp; (go_at_call 71; exact (basisAt i (by omega) _).mono fun e w2 ⟨he, hw2⟩ => ⟨he, hK _ _ hW hw2⟩))); simp only [Act.put, List.setIfInBounds_toArray, List.set_cons_zero, List.set_cons_succ])
      (refine e_plain rfl ?_; apply Exists.intro; refine ⟨fun D hD hK W hW => ?_, ?_⟩; (focus (obtain ⟨x2, y2⟩ := keepB (hD W hW) z2_5 r2_5 c2_5; obtain ⟨x7, y7⟩ := keepB (hD W hW) z7_5 r7_5 c7_5; unfold Oper.quietAt; go_simp; (go_at_call 70; exact (actTable_any p d F (ebas i) _ hp hp' hd HF.out (ebas_bytes i)).mono fun e w2 ⟨he, hw2⟩ => ⟨he, hK _ _ hW hw2⟩))); simp only [Act.put, List.setIfInBounds_toArray, List.set_cons_zero, List.set_cons_succ])
      refine e_nil ?_
      intro a6 W6 hW6
      obtain ⟨hw6, hl6, m1_6, m2_6⟩ := hW6
      have n2_8 : (w.heap.size) ≠ (a6) := by have := z2_5; omega
      have n8_2 : (a6) ≠ (w.heap.size) := by have := z2_5; omega
      have n7_8 : (a4) ≠ (a6) := by have := z7_5; omega
      have n8_7 : (a6) ≠ (a4) := by have := z7_5; omega
      obtain ⟨r2_6, c2_6, z2_6⟩ := keepZ hw6 z2_5 r2_5 c2_5
      obtain ⟨r7_6, c7_6, z7_6⟩ := keepZ hw6 z7_5 r7_5 c7_5
      obtain ⟨hb6, q6⟩ := bN hb5 hw6
      clear hw6 r2_5 c2_5 z2_5 r7_5 c7_5 z7_5 hb5
      have z8_6 := isRow_lt m1_6
      simp only [Act.put, List.setIfInBounds_toArray, List.set_cons_zero, List.set_cons_succ]
      go_wp2
      refine atomW fun W7 e7 => ?_
      have hb7 : Below w.heap.size w W7 := by rw [e7]; exact bt
      have q7 := hb7.size
      have R7 : IsRow W7 (w.heap.size) ∧ IsRow W7 (a4) ∧ IsRow W7 (a6) := by rw [e7]; simp [go_sem, r2_6, c2_6, n2_7, n2_8, r7_6, c7_6, n7_2, n7_8, m1_6, m2_6, n8_2, n8_7]
      obtain ⟨r2_7, r7_7, r8_7⟩ := R7
      have C7 := (⟨congrArg (blk · (w.heap.size)) e7, congrArg (blk · (a4)) e7, congrArg (blk · (a6)) e7⟩ : _ ∧ _ ∧ _); simp [go_sem, r2_6, c2_6, n2_7, n2_8, r7_6, c7_6, n7_2, n7_8, m1_6, m2_6, n8_2, n8_7] at C7
      obtain ⟨c2_7, c7_7, c8_7⟩ := C7
      have z2_7 := isRow_lt r2_7; have z7_7 := isRow_lt r7_7; have z8_7 := isRow_lt r8_7
      clear e7 r2_6 c2_6 z2_6 r7_6 c7_6 z7_6 m1_6 m2_6 z8_6 hb6
      refine wp_quiet_all (Below W7.heap.size W7) (by kernel_rfl) (by kernel_rfl) (Below.refl _ _).drew ?_
      iterate 9 (refine q_plain rfl ?_; apply Exists.intro; refine ⟨fun W hW => ?_, ?_⟩; (focus (obtain ⟨x2, y2⟩ := keepB hW z2_7 r2_7 c2_7; obtain ⟨x7, y7⟩ := keepB hW z7_7 r7_7 c7_7; obtain ⟨x8, y8⟩ := keepB hW z8_7 r8_7 c8_7; go_simp; first | done | rfl)); simp only [Act.put, List.setIfInBounds_toArray, List.set_cons_zero, List.set_cons_succ])
      (refine q_plain rfl ?_; apply Exists.intro; refine ⟨fun W hW => ?_, ?_⟩; (focus (obtain ⟨x2, y2⟩ := keepB hW z2_7 r2_7 c2_7; obtain ⟨x7, y7⟩ := keepB hW z7_7 r7_7 c7_7; obtain ⟨x8, y8⟩ := keepB hW z8_7 r8_7 c8_7; go_simp; (go_at_call 70; exact (actTable_any p d F (mtab f i j) _ hp hp' hd HF.out (HM.out)).mono fun e w2 ⟨he, hw2⟩ => ⟨he, hW.trans (hw2.mono hW.size)⟩))); simp only [Act.put, List.setIfInBounds_toArray, List.set_cons_zero, List.set_cons_succ])
      iterate 4 (refine q_plain rfl ?_; apply Exists.intro; refine ⟨fun W hW => ?_, ?_⟩; (focus (obtain ⟨x2, y2⟩ := keepB hW z2_7 r2_7 c2_7; obtain ⟨x7, y7⟩ := keepB hW z7_7 r7_7 c7_7; obtain ⟨x8, y8⟩ := keepB hW z8_7 r8_7 c8_7; go_simp; first | done | rfl)); simp only [Act.put, List.setIfInBounds_toArray, List.set_cons_zero, List.set_cons_succ])
      (refine q_plain rfl ?_; apply Exists.intro; refine ⟨fun W hW => ?_, ?_⟩; (focus (obtain ⟨x2, y2⟩ := keepB hW z2_7 r2_7 c2_7; obtain ⟨x7, y7⟩ := keepB hW z7_7 r7_7 c7_7; obtain ⟨x8, y8⟩ := keepB hW z8_7 r8_7 c8_7; go_simp; (go_at_call 154; exact (composeLinear_any p (actT p d F (ebas i)) (actT p d F (ebas j)) _ hp hp' A1.out A2.out).mono fun e w2 ⟨he, hw2⟩ => ⟨he, hW.trans (hw2.mono hW.size)⟩))); simp only [Act.put, List.setIfInBounds_toArray, List.set_cons_zero, List.set_cons_succ])
      iterate 1 (refine q_plain rfl ?_; apply Exists.intro; refine ⟨fun W hW => ?_, ?_⟩; (focus (obtain ⟨x2, y2⟩ := keepB hW z2_7 r2_7 c2_7; obtain ⟨x7, y7⟩ := keepB hW z7_7 r7_7 c7_7; obtain ⟨x8, y8⟩ := keepB hW z8_7 r8_7 c8_7; go_simp; first | done | rfl)); simp only [Act.put, List.setIfInBounds_toArray, List.set_cons_zero, List.set_cons_succ])
      refine wpQuiet_nil ?_
      intro W8 hw8
      obtain ⟨r2_8, c2_8, z2_8⟩ := keepZ hw8 z2_7 r2_7 c2_7
      obtain ⟨r7_8, c7_8, z7_8⟩ := keepZ hw8 z7_7 r7_7 c7_7
      obtain ⟨r8_8, c8_8, z8_8⟩ := keepZ hw8 z8_7 r8_7 c8_7
      obtain ⟨hb8, q8⟩ := bN hb7 hw8
      clear hw8 r2_7 c2_7 z2_7 r7_7 c7_7 z7_7 r8_7 c8_7 z8_7 hb7
      go_wp2_with fail
      go_ret
      exact ⟨ret_bool (by rw [H.out]), bt⟩
     ·
      have HM := Lib.hid (mtab_bt (hop_bytes Hf.out) (i := i) (j := j) (by omega) (by omega))
      have e3 := hop_mul8 p n f i j (by omega) (by omega)
      have l4 : 10 + i * 64 + j * 8 + 8 ≤ 1106 := by omega
      have l5 : 10 + i * 64 + 64 ≤ 1106 := by omega
      have A1 := Lib.hid (actT_bytes hp hp' d F (ebas i))
      have A2 := Lib.hid (actT_bytes hp hp' d F (ebas j))
      have H := Lib.hid (upto_more (q := likeE p n f d F i) HX3.out he)
      go_wp2
      refine wp_quiet_alloc 6 _ (.cells (row 64 zf) 34) (Below W3.heap.size W3) (Made W3 (row 64 zf)) (by kernel_rfl) rfl rfl (by kernel_rfl) (fun a W => (xallocLin _ _ _ _ _ _ _).trans (allocLin W)) (closed_below W3) (closed_made W3 _) (fun b W h => h.1) (fun W h => made_new W3 _ _ W h) (Below.refl _ _).drew ?_
      simp only [List.take_succ_cons, List.take_zero, List.drop_succ_cons, List.drop_zero]
      iterate 4 (refine e_plain rfl ?_; apply Exists.intro; refine ⟨fun D hD hK W hW => ?_, ?_⟩; (focus (obtain ⟨x2, y2⟩ := keepB (hD W hW) z2_3 r2_3 c2_3; unfold Oper.quietAt; go_simp; first | done | rfl)); simp only [Act.put, List.setIfInBounds_toArray, List.set_cons_zero, List.set_cons_succ])
      (refine e_plain rfl ?_; apply Exists.intro; refine ⟨fun D hD hK W hW => ?_, ?_⟩; (focus (obtain ⟨x2, y2⟩ := keepB (hD W hW) z2_3 r2_3 c2_3; unfold Oper.quietAt; go_simp; (go_at_call 71; exact (basisAt j (by omega) _).mono fun e w2 ⟨he, hw2⟩ => ⟨he, hK _ _ hW hw2⟩))); simp only [Act.put, List.setIfInBounds_toArray, List.set_cons_zero, List.set_cons_succ])
      (refine e_plain rfl ?_; apply Exists.intro; refine ⟨fun D hD hK W hW => ?_, ?_⟩; (focus (obtain ⟨x2, y2⟩ := keepB (hD W hW) z2_3 r2_3 c2_3; unfold Oper.quietAt; go_simp; (go_at_call 70; exact (actTable_any p d F (ebas j) _ hp hp' hd HF.out (ebas_bytes j)).mono fun e w2 ⟨he, hw2⟩ => ⟨he, hK _ _ hW hw2⟩))); simp only [Act.put, List.setIfInBounds_toArray, List.set_cons_zero, List.set_cons_succ])
      refine e_nil ?_
      intro a9 W9 hW9
      obtain ⟨hw9, hl9, m1_9, m2_9⟩ := hW9
      have n2_7 : (w.heap.size) ≠ (a9) := by have := z2_3; omega
      have n7_2 : (a9) ≠ (w.heap.size) := by have := z2_3; omega
      obtain ⟨r2_9, c2_9, z2_9⟩ := keepZ hw9 z2_3 r2_3 c2_3
      obtain ⟨hb9, q9⟩ := bN hb3 hw9
      clear hw9 r2_3 c2_3 z2_3 hb3
      have z7_9 := isRow_lt m1_9
      simp only [Act.put, List.setIfInBounds_toArray, List.set_cons_zero, List.set_cons_succ]
      go_wp2
      refine atomW fun W10 e10 => ?_
      have hb10 : Below w.heap.size w W10 := by rw [e10]; exact bt
      have q10 := hb10.size
      have R10 : IsRow W10 (w.heap.size) ∧ IsRow W10 (a9) := by rw [e10]; simp [go_sem, r2_9, c2_9, n2_7, m1_9, m2_9, n7_2]
      obtain ⟨r2_10, r7_10⟩ := R10
      have C10 := (⟨congrArg (blk · (w.heap.size)) e10, congrArg (blk · (a9)) e10⟩ : _ ∧ _); simp [go_sem, r2_9, c2_9, n2_7, m1_9, m2_9, n7_2] at C10
      obtain ⟨c2_10, c7_10⟩ := C10
      have z2_10 := isRow_lt r2_10; have z7_10 := isRow_lt r7_10
      clear e10 r2_9 c2_9 z2_9 m1_9 m2_9 z7_9 hb9
      refine wp_quiet_alloc 6 _ (.cells (row 64 zf) 34) (Below W10.heap.size W10) (Made W10 (row 64 zf)) (by kernel_rfl) rfl rfl (by kernel_rfl) (fun a W => (xallocLin _ _ _ _ _ _ _).trans (allocLin W)) (closed_below W10) (closed_made W10 _) (fun b W h => h.1) (fun W h => made_new W10 _ _ W h) (Below.refl _ _).drew ?_
      simp only [List.take_succ_cons, List.take_zero, List.drop_succ_cons, List.drop_zero]
      iterate 4 (refine e_plain rfl ?_; apply Exists.intro; refine ⟨fun D hD hK W hW => ?_, ?_⟩; (focus (obtain ⟨x2, y2⟩ := keepB (hD W hW) z2_10 r2_10 c2_10; obtain ⟨x7, y7⟩ := keepB (hD W hW) z7_10 r7_10 c7_10; unfold Oper.quietAt; go_simp; first | done | rfl)); simp only [Act.put, List.setIfInBounds_toArray, List.set_cons_zero, List.set_cons_succ])
      (refine e_plain rfl ?_; apply Exists.intro; refine ⟨fun D hD hK W hW => ?_, ?_⟩; (focus (obtain ⟨x2, y2⟩ := keepB (hD W hW) z2_10 r2_10 c2_10; obtain ⟨x7, y7⟩ := keepB (hD W hW) z7_10 r7_10 c7_10; unfold Oper.quietAt; go_simp; (go_at_call 71; exact (basisAt i (by omega) _).mono fun e w2 ⟨he, hw2⟩ => ⟨he, hK _ _ hW hw2⟩))); simp only [Act.put, List.setIfInBounds_toArray, List.set_cons_zero, List.set_cons_succ])
      (refine e_plain rfl ?_; apply Exists.intro; refine ⟨fun D hD hK W hW => ?_, ?_⟩; (focus (obtain ⟨x2, y2⟩ := keepB (hD W hW) z2_10 r2_10 c2_10; obtain ⟨x7, y7⟩ := keepB (hD W hW) z7_10 r7_10 c7_10; unfold Oper.quietAt; go_simp; (go_at_call 70; exact (actTable_any p d F (ebas i) _ hp hp' hd HF.out (ebas_bytes i)).mono fun e w2 ⟨he, hw2⟩ => ⟨he, hK _ _ hW hw2⟩))); simp only [Act.put, List.setIfInBounds_toArray, List.set_cons_zero, List.set_cons_succ])
      refine e_nil ?_
      intro a11 W11 hW11
      obtain ⟨hw11, hl11, m1_11, m2_11⟩ := hW11
      have n2_8 : (w.heap.size) ≠ (a11) := by have := z2_10; omega
      have n8_2 : (a11) ≠ (w.heap.size) := by have := z2_10; omega
      have n7_8 : (a9) ≠ (a11) := by have := z7_10; omega
      have n8_7 : (a11) ≠ (a9) := by have := z7_10; omega
      obtain ⟨r2_11, c2_11, z2_11⟩ := keepZ hw11 z2_10 r2_10 c2_10
      obtain ⟨r7_11, c7_11, z7_11⟩ := keepZ hw11 z7_10 r7_10 c7_10
      obtain ⟨hb11, q11⟩ := bN hb10 hw11
      clear hw11 r2_10 c2_10 z2_10 r7_10 c7_10 z7_10 hb10
      have z8_11 := isRow_lt m1_11
      simp only [Act.put, List.setIfInBounds_toArray, List.set_cons_zero, List.set_cons_succ]
      go_wp2
      refine atomW fun W12 e12 => ?_
      have hb12 : Below w.heap.size w W12 := by rw [e12]; exact bt
      have q12 := hb12.size
      have R12 : IsRow W12 (w.heap.size) ∧ IsRow W12 (a9) ∧ IsRow W12 (a11) := by rw [e12]; simp [go_sem, r2_11, c2_11, n2_7, n2_8, r7_11, c7_11, n7_2, n7_8, m1_11, m2_11, n8_2, n8_7]
      obtain ⟨r2_12, r7_12, r8_12⟩ := R12
      have C12 := (⟨congrArg (blk · (w.heap.size)) e12, congrArg (blk · (a9)) e12, congrArg (blk · (a11)) e12⟩ : _ ∧ _ ∧ _); simp [go_sem, r2_11, c2_11, n2_7, n2_8, r7_11, c7_11, n7_2, n7_8, m1_11, m2_11, n8_2, n8_7] at C12
      obtain ⟨c2_12, c7_12, c8_12⟩ := C12
      have z2_12 := isRow_lt r2_12; have z7_12 := isRow_lt r7_12; have z8_12 := isRow_lt r8_12
      clear e12 r2_11 c2_11 z2_11 r7_11 c7_11 z7_11 m1_11 m2_11 z8_11 hb11
      refine wp_quiet_all (Below W12.heap.size W12) (by kernel_rfl) (by kernel_rfl) (Below.refl _ _).drew ?_
      iterate 9 (refine q_plain rfl ?_; apply Exists.intro; refine ⟨fun W hW => ?_, ?_⟩; (focus (obtain ⟨x2, y2⟩ := keepB hW z2_12 r2_12 c2_12; obtain ⟨x7, y7⟩ := keepB hW z7_12 r7_12 c7_12; obtain ⟨x8, y8⟩ := keepB hW z8_12 r8_12 c8_12; go_simp; first | done | rfl)); simp only [Act.put, List.setIfInBounds_toArray, List.set_cons_zero, List.set_cons_succ])
      (refine q_plain rfl ?_; apply Exists.intro; refine ⟨fun W hW => ?_, ?_⟩; (focus (obtain ⟨x2, y2⟩ := keepB hW z2_12 r2_12 c2_12; obtain ⟨x7, y7⟩ := keepB hW z7_12 r7_12 c7_12; obtain ⟨x8, y8⟩ := keepB hW z8_12 r8_12 c8_12; go_simp; (go_at_call 70; exact (actTable_any p d F (mtab f i j) _ hp hp' hd HF.out (HM.out)).mono fun e w2 ⟨he, hw2⟩ => ⟨he, hW.trans (hw2.mono hW.size)⟩))); simp only [Act.put, List.setIfInBounds_toArray, List.set_cons_zero, List.set_cons_succ])
      iterate 4 (refine q_plain rfl ?_; apply Exists.intro; refine ⟨fun W hW => ?_, ?_⟩; (focus (obtain ⟨x2, y2⟩ := keepB hW z2_12 r2_12 c2_12; obtain ⟨x7, y7⟩ := keepB hW z7_12 r7_12 c7_12; obtain ⟨x8, y8⟩ := keepB hW z8_12 r8_12 c8_12; go_simp; first | done | rfl)); simp only [Act.put, List.setIfInBounds_toArray, List.set_cons_zero, List.set_cons_succ])
      (refine q_plain rfl ?_; apply Exists.intro; refine ⟨fun W hW => ?_, ?_⟩; (focus (obtain ⟨x2, y2⟩ := keepB hW z2_12 r2_12 c2_12; obtain ⟨x7, y7⟩ := keepB hW z7_12 r7_12 c7_12; obtain ⟨x8, y8⟩ := keepB hW z8_12 r8_12 c8_12; go_simp; (go_at_call 154; exact (composeLinear_any p (actT p d F (ebas i)) (actT p d F (ebas j)) _ hp hp' A1.out A2.out).mono fun e w2 ⟨he, hw2⟩ => ⟨he, hW.trans (hw2.mono hW.size)⟩))); simp only [Act.put, List.setIfInBounds_toArray, List.set_cons_zero, List.set_cons_succ])
      iterate 1 (refine q_plain rfl ?_; apply Exists.intro; refine ⟨fun W hW => ?_, ?_⟩; (focus (obtain ⟨x2, y2⟩ := keepB hW z2_12 r2_12 c2_12; obtain ⟨x7, y7⟩ := keepB hW z7_12 r7_12 c7_12; obtain ⟨x8, y8⟩ := keepB hW z8_12 r8_12 c8_12; go_simp; first | done | rfl)); simp only [Act.put, List.setIfInBounds_toArray, List.set_cons_zero, List.set_cons_succ])
      refine wpQuiet_nil ?_
      intro W13 hw13
      obtain ⟨r2_13, c2_13, z2_13⟩ := keepZ hw13 z2_12 r2_12 c2_12
      obtain ⟨r7_13, c7_13, z7_13⟩ := keepZ hw13 z7_12 r7_12 c7_12
      obtain ⟨r8_13, c8_13, z8_13⟩ := keepZ hw13 z8_12 r8_12 c8_12
      obtain ⟨hb13, q13⟩ := bN hb12 hw13
      clear hw13 r2_12 c2_12 z2_12 r7_12 c7_12 z7_12 r8_12 c8_12 z8_12 hb12
      go_wp2
      go_roundw
      case rel => exact ⟨j + 1, by omega, by go_num, bt, ⟨by simp [go_sem, r2_13, c2_13, n2_7, n2_8, r7_13, c7_13, n7_2, n7_8, r8_13, c8_13, n8_2, n8_7], (by rw [E2_3.out]; first | exact c2_13 | (simp [go_sem, r2_13, c2_13, n2_7, n2_8, r7_13, c7_13, n7_2, n7_8, r8_13, c8_13, n8_2, n8_7]; done))⟩, H.out⟩
      case measure => simp [intOf]; try omega
    ·
     obtain rfl : n = j := by omega
     have H := Lib.hid (likes_more HI.out HX3.out)
     go_wp2
     go_roundw
     case rel => exact ⟨i + 1, by omega, by go_num, bt, ⟨by simp [go_sem, r2_3, c2_3], (by rw [E2_2.out]; first | exact c2_3 | (simp [go_sem, r2_3, c2_3]; done))⟩, H.out⟩
     case measure => simp [intOf]; try omega
  ·
   obtain rfl : n = i := by omega
   cases hu : segEq 0 64 (actT p d F f) (idK d)
   ·
    have HU : Hid (Bytes 8 f) := Lib.hid fun t ht => Hf.out t (by omega)
    have H := Lib.hid ((like_yes HX2.out).trans hu)
    go_wp2_with fail
    refine (actTable_any p d F (f) _ hp hp' hd HF.out (HU.out)).mono ?_; rintro _ W14 ⟨rfl, hw14⟩
    obtain ⟨hb14, q14⟩ := bN hb2 hw14
    clear hw14 hb2
    go_wp2_with fail
    refine (mdim_any d F _).mono ?_; rintro _ W15 ⟨rfl, hw15⟩
    obtain ⟨hb15, q15⟩ := bN hb14 hw15
    clear hw15 hb14
    go_wp2_with fail
    refine (identityLinear_any d _ hd).mono ?_; rintro _ W16 ⟨rfl, hw16⟩
    obtain ⟨hb16, q16⟩ := bN hb15 hw16
    clear hw16 hb15
    go_wp2_with fail
    go_ret
    exact ⟨ret_bool (by rw [H.out] <;> rfl), bt⟩
   ·
    have HU : Hid (Bytes 8 f) := Lib.hid fun t ht => Hf.out t (by omega)
    have H := Lib.hid ((like_yes HX2.out).trans hu)
    go_wp2_with fail
    refine (actTable_any p d F (f) _ hp hp' hd HF.out (HU.out)).mono ?_; rintro _ W17 ⟨rfl, hw17⟩
    obtain ⟨hb17, q17⟩ := bN hb2 hw17
    clear hw17 hb2
    go_wp2_with fail
    refine (mdim_any d F _).mono ?_; rintro _ W18 ⟨rfl, hw18⟩
    obtain ⟨hb18, q18⟩ := bN hb17 hw18
    clear hw18 hb17
    go_wp2_with fail
    refine (identityLinear_any d _ hd).mono ?_; rintro _ W19 ⟨rfl, hw19⟩
    obtain ⟨hb19, q19⟩ := bN hb18 hw19
    clear hw19 hb18
    go_wp2_with fail
    go_ret
    exact ⟨ret_bool (by rw [H.out] <;> rfl), bt⟩

set_option maxRecDepth 100000 in
set_option maxHeartbeats 1000000 in
theorem isModule_any (p : Int) (n : Nat) (f : Nat → Int) (d : Int) (F : Nat → Int) (w : World) (hs : sizesB p n = true) (hf : Bytes 1104 f) (hF : Bytes 512 F) :
    Calls Tryz.prog 100 #[.agg (hop p n f), .agg (mdl d F)] w fun e w' => e = .returned (.bool (modB p n f d F)) ∧ Below w.heap.size w w' := by
 have Hs := Lib.hid hs; clear hs
 have Hf := Lib.hid hf; clear hf
 have HF := Lib.hid hF; clear hF
 obtain ⟨hp2, hp31, hn1, hn8⟩ := sizes_range Hs.out
 have hp : 0 < p := by omega
 have hp' : p ≤ 255 := by omega
 have hn : n ≤ 8 := by omega
 cases hm : mapsB p d n F
 ·
  have H := Lib.hid (modB_none (f := f) Hs.out hm)
  go_enter Tryz.func100, Tryz.ntmps100
  go_wp2_with fail
  refine atomC fun W1 e1 => ?_
  have hb1 : Below w.heap.size w W1 := by rw [e1]; exact bt
  have q1 := hb1.size
  have R1 : IsRow W1 (w.heap.size) ∧ IsRow W1 (w.heap.size + 1) := by rw [e1]; simp [go_sem]
  obtain ⟨r2_1, r3_1⟩ := R1
  have C1 := (⟨congrArg (blk · (w.heap.size)) e1, congrArg (blk · (w.heap.size + 1)) e1⟩ : _ ∧ _); simp [go_sem] at C1
  obtain ⟨c2_1, c3_1⟩ := C1
  have z2_1 := isRow_lt r2_1; have z3_1 := isRow_lt r3_1
  clear e1
  refine (hasMaps_any p d n F _ HF.out).mono ?_; rintro _ W2 ⟨rfl, hw2⟩
  obtain ⟨r2_2, c2_2, z2_2⟩ := keepZ hw2 z2_1 r2_1 c2_1
  obtain ⟨r3_2, c3_2, z3_2⟩ := keepZ hw2 z3_1 r3_1 c3_1
  obtain ⟨hb2, q2⟩ := bN hb1 hw2
  clear hw2 r2_1 c2_1 z2_1 r3_1 c3_1 z3_1 hb1
  go_wp2_with fail
  go_ret
  exact ⟨ret_bool (by rw [H.out]), bt⟩
 ·
  obtain ⟨_, _, hd1, hd8⟩ := sizes_range (shapeM_sizes Hs.out (by rw [← maps_shape Hs.out]; exact hm))
  obtain ⟨d, rfl⟩ := Int.eq_ofNat_of_zero_le (show 0 ≤ d by omega)
  have hd : d ≤ 8 := by omega
  have H := Lib.hid (modB_maps (f := f) Hs.out HF.out hm)
  go_enter Tryz.func100, Tryz.ntmps100
  go_wp2_with fail
  refine atomC fun W3 e3 => ?_
  have hb3 : Below w.heap.size w W3 := by rw [e3]; exact bt
  have q3 := hb3.size
  have R3 : IsRow W3 (w.heap.size) ∧ IsRow W3 (w.heap.size + 1) := by rw [e3]; simp [go_sem]
  obtain ⟨r2_3, r3_3⟩ := R3
  have C3 := (⟨congrArg (blk · (w.heap.size)) e3, congrArg (blk · (w.heap.size + 1)) e3⟩ : _ ∧ _); simp [go_sem] at C3
  obtain ⟨c2_3, c3_3⟩ := C3
  have z2_3 := isRow_lt r2_3; have z3_3 := isRow_lt r3_3
  clear e3
  refine (hasMaps_any p d n F _ HF.out).mono ?_; rintro _ W4 ⟨rfl, hw4⟩
  obtain ⟨r2_4, c2_4, z2_4⟩ := keepZ hw4 z2_3 r2_3 c2_3
  obtain ⟨r3_4, c3_4, z3_4⟩ := keepZ hw4 z3_3 r3_3 c3_3
  obtain ⟨hb4, q4⟩ := bN hb3 hw4
  clear hw4 r2_3 c2_3 z2_3 r3_3 c3_3 z3_3 hb3
  go_wp2_with fail
  refine (actsLikeAlgebra_any p n d f F _ hp hp' hn Hf.out HF.out hd).mono ?_; rintro _ W5 ⟨rfl, hw5⟩
  obtain ⟨hb5, q5⟩ := bN hb4 hw5
  clear hw5 hb4
  go_wp2_with fail
  go_ret
  exact ⟨ret_bool (by rw [H.out]), bt⟩

/-! ### lists of modules -/
/-- the block has m modules -/
def ModsAt (cs : Array Value) (m : Nat) (ds : Nat → Int) (Fs : Nat → Nat → Int) : Prop := ∀ i, i < m → i * 513 + 513 ≤ cs.size ∧ cs.extract (i * 513) (i * 513 + 513) = mdl (ds i) (Fs i) ∧ Bytes 512 (Fs i)
def allMod (p : Int) (n : Nat) (f : Nat → Int) (m : Nat) (ds : Nat → Int) (Fs : Nat → Nat → Int) : Bool := (List.range m).all fun i => modB p n f (ds i) (Fs i)
theorem first_false {q : Nat → Bool} : ∀ (m : Nat), (List.range m).all q = false → ∃ k, k < m ∧ (∀ i, i < k → q i = true) ∧ q k = false
  | 0, h => by simp at h
  | m + 1, h => by
    cases hm : (List.range m).all q
    · obtain ⟨k, h1, h2, h3⟩ := first_false m hm
      exact ⟨k, by omega, h2, h3⟩
    · refine ⟨m, by omega, fun i hi => all_get hm i hi, ?_⟩
      rw [List.range_succ, List.all_append, hm, Bool.true_and] at h
      simpa using h

set_option maxRecDepth 100000 in
set_option maxHeartbeats 1000000 in
theorem isNone_any (p : Int) (n b : Nat) (f : Nat → Int) (d : Int) (F : Nat → Int) (w : World) (hs : sizesB p n = true) (hf : Bytes 1104 f) (hF : Bytes 512 F) (hr : IsRow w b) (hb : blk w b = hop p n f) :
    Calls Tryz.prog 99 #[.agg (mdl d F), .pointer (some ⟨b, 0, none⟩)] w fun e w' => e = .returned (.bool (!(modB p n f d F))) ∧ Below w.heap.size w w' := by
 have Hs := Lib.hid hs; clear hs
 have Hf := Lib.hid hf; clear hf
 have HF := Lib.hid hF; clear hF
 have hbw := isRow_lt hr
 go_enter Tryz.func99, Tryz.ntmps99
 go_wp2_with fail
 have nwh_w_0 : (b) ≠ w.heap.size := by omega
 refine atomC fun W1 e1 => ?_
 have hb1 : Below w.heap.size w W1 := by rw [e1]; exact bt
 have q1 := hb1.size
 have rh_1 : IsRow W1 (b) := by rw [e1]; simp [go_sem, hr, hb, nwh_w_0]
 have ch_1 := congrArg (fun x => blk x (b)) e1; simp [go_sem, hr, hb, nwh_w_0] at ch_1
 have zh_1 := isRow_lt rh_1
 clear e1 nwh_w_0 hr hb
 refine (isModule_any p n f d F _ Hs.out Hf.out HF.out).mono ?_; rintro _ W2 ⟨rfl, hw2⟩
 obtain ⟨rh_2, ch_2, zh_2⟩ := keepZ hw2 zh_1 rh_1 ch_1
 obtain ⟨hb2, q2⟩ := bN hb1 hw2
 clear hw2 rh_1 ch_1 zh_1 hb1
 go_wp2_with fail
 go_ret
 exact ⟨rfl, bt⟩

set_option maxRecDepth 100000 in
set_option maxHeartbeats 1000000 in
theorem indexMods_no (p : Int) (n b l m : Nat) (f : Nat → Int) (ds : Nat → Int) (Fs : Nat → Nat → Int) (cs : Array Value) (w : World) (hs : sizesB p n = true) (hf : Bytes 1104 f) (hm : m ≤ 1000) (hrb : IsRow w b) (hbb : blk w b = hop p n f) (hrl : IsRow w l) (hbl : blk w l = cs) (hM : ModsAt cs m ds Fs) (ha : ∀ i, i < m → modB p n f (ds i) (Fs i) = true) :
    Calls Tryz.prog 129 #[.slice (some ⟨l, 0, none⟩) m m, .func (.func 99) #[] #[.pointer (some ⟨b, 0, none⟩)]] w fun e w' => e = .returned (.int .i64 (-1)) ∧ Below w.heap.size w w' := by
 have Hs := Lib.hid hs; clear hs
 have Hf := Lib.hid hf; clear hf
 have HM := Lib.hid hM; clear hM
 have Ha := Lib.hid ha; clear ha
 have hbw := isRow_lt hrb
 have hlw := isRow_lt hrl
 go_enter Tryz.func129, Tryz.ntmps129
 go_wp2
 refine atomW fun W1 e1 => ?_
 have hb1 : Below w.heap.size w W1 := by rw [e1]; exact bt
 have q1 := hb1.size
 have R1 : IsRow W1 (b) ∧ IsRow W1 (l) := by rw [e1]; simp [go_sem, hrb, hbb, hrl, hbl]
 obtain ⟨rh_1, rl_1⟩ := R1
 have C1 := (⟨congrArg (blk · (b)) e1, congrArg (blk · (l)) e1⟩ : _ ∧ _); simp [go_sem, hrb, hbb, hrl, hbl] at C1
 obtain ⟨ch_1, cl_1⟩ := C1
 have zh_1 := isRow_lt rh_1; have zl_1 := isRow_lt rl_1
 clear e1 hrb hbb hrl hbl
 go_loopw [8] (fun s8 wr => ∃ i : Nat, i ≤ m ∧ s8 = .int .i64 i ∧ Below w.heap.size w wr ∧ (IsRow wr (b) ∧ blk wr (b) = blk W1 (b)) ∧ (IsRow wr (l) ∧ blk wr (l) = blk W1 (l))) (fun s8 _ => m - (intOf s8).toNat)
 case atStart => exact ⟨0, by omega, rfl, hb1, ⟨rh_1, rfl⟩, ⟨rl_1, rfl⟩⟩
 case round =>
  obtain ⟨i, hle2, rfl, hb2, ⟨rh_2, ch_2⟩, ⟨rl_2, cl_2⟩⟩ := hrel
  obtain ⟨W2, rfl⟩ : ∃ W2 : World, W2 = wr := ⟨_, rfl⟩
  have q2 := hb2.size
  have Eh_2 := Lib.hid ch_1; replace ch_2 := ch_2.trans ch_1
  have zh_2 := isRow_lt rh_2
  have El_2 := Lib.hid cl_1; replace cl_2 := cl_2.trans cl_1
  have zl_2 := isRow_lt rl_2
  clear rh_1 ch_1 zh_1 rl_1 cl_1 zl_1 hb1
  by_cases hlt2 : i < m
  ·
   have g1 := (HM.out i hlt2).1
   have g2 := (HM.out i hlt2).2.1
   have HB : Hid (Bytes 512 (Fs i)) := Lib.hid (HM.out i hlt2).2.2
   have y1 := Ha.out i hlt2
   go_wp2_with fail
   refine (isNone_any p n b f (ds i) (Fs i) _ Hs.out Hf.out HB.out rh_2 ch_2).mono ?_; rintro _ W3 ⟨rfl, hw3⟩
   obtain ⟨rh_3, ch_3, zh_3⟩ := keepZ hw3 zh_2 rh_2 ch_2
   obtain ⟨rl_3, cl_3, zl_3⟩ := keepZ hw3 zl_2 rl_2 cl_2
   obtain ⟨hb3, q3⟩ := bN hb2 hw3
   clear hw3 rh_2 ch_2 zh_2 rl_2 cl_2 zl_2 hb2
   go_wp2
   go_roundw
   case rel => exact ⟨i + 1, by omega, by go_num, bt, ⟨by simp [go_sem, rh_3, ch_3, rl_3, cl_3], (by rw [Eh_2.out]; first | exact ch_3 | (simp [go_sem, rh_3, ch_3, rl_3, cl_3]; done))⟩, ⟨by simp [go_sem, rh_3, ch_3, rl_3, cl_3], (by rw [El_2.out]; first | exact cl_3 | (simp [go_sem, rh_3, ch_3, rl_3, cl_3]; done))⟩⟩
   case measure => simp [intOf]; try omega
  ·
   obtain rfl : m = i := by omega
   go_wp2_with fail
   go_ret
   exact ⟨rfl, bt⟩

set_option maxRecDepth 100000 in
set_option maxHeartbeats 1000000 in
theorem indexMods_at (p : Int) (n b l m q : Nat) (f : Nat → Int) (ds : Nat → Int) (Fs : Nat → Nat → Int) (cs : Array Value) (w : World) (hs : sizesB p n = true) (hf : Bytes 1104 f) (hm : m ≤ 1000) (hrb : IsRow w b) (hbb : blk w b = hop p n f) (hrl : IsRow w l) (hbl : blk w l = cs) (hM : ModsAt cs m ds Fs) (hq : q < m) (ha : ∀ i, i < q → modB p n f (ds i) (Fs i) = true) (hqf : modB p n f (ds q) (Fs q) = false) :
    Calls Tryz.prog 129 #[.slice (some ⟨l, 0, none⟩) m m, .func (.func 99) #[] #[.pointer (some ⟨b, 0, none⟩)]] w fun e w' => e = .returned (.int .i64 q) ∧ Below w.heap.size w w' := by
 have Hs := Lib.hid hs; clear hs
 have Hf := Lib.hid hf; clear hf
 have HM := Lib.hid hM; clear hM
 have Ha := Lib.hid ha; clear ha
 have hbw := isRow_lt hrb
 have hlw := isRow_lt hrl
 go_enter Tryz.func129, Tryz.ntmps129
 go_wp2
 refine atomW fun W1 e1 => ?_
 have hb1 : Below w.heap.size w W1 := by rw [e1]; exact bt
 have q1 := hb1.size
 have R1 : IsRow W1 (b) ∧ IsRow W1 (l) := by rw [e1]; simp [go_sem, hrb, hbb, hrl, hbl]
 obtain ⟨rh_1, rl_1⟩ := R1
 have C1 := (⟨congrArg (blk · (b)) e1, congrArg (blk · (l)) e1⟩ : _ ∧ _); simp [go_sem, hrb, hbb, hrl, hbl] at C1
 obtain ⟨ch_1, cl_1⟩ := C1
 have zh_1 := isRow_lt rh_1; have zl_1 := isRow_lt rl_1
 clear e1 hrb hbb hrl hbl
 go_loopw [8] (fun s8 wr => ∃ i : Nat, i ≤ q ∧ s8 = .int .i64 i ∧ Below w.heap.size w wr ∧ (IsRow wr (b) ∧ blk wr (b) = blk W1 (b)) ∧ (IsRow wr (l) ∧ blk wr (l) = blk W1 (l))) (fun s8 _ => q - (intOf s8).toNat)
 case atStart => exact ⟨0, by omega, rfl, hb1, ⟨rh_1, rfl⟩, ⟨rl_1, rfl⟩⟩
 case round =>
  obtain ⟨i, hle2, rfl, hb2, ⟨rh_2, ch_2⟩, ⟨rl_2, cl_2⟩⟩ := hrel
  obtain ⟨W2, rfl⟩ : ∃ W2 : World, W2 = wr := ⟨_, rfl⟩
  have q2 := hb2.size
  have Eh_2 := Lib.hid ch_1; replace ch_2 := ch_2.trans ch_1
  have zh_2 := isRow_lt rh_2
  have El_2 := Lib.hid cl_1; replace cl_2 := cl_2.trans cl_1
  have zl_2 := isRow_lt rl_2
  clear rh_1 ch_1 zh_1 rl_1 cl_1 zl_1 hb1
  by_cases hlt2 : i < q
  ·
   have hlm : i < m := by omega
   have l2 : (i : Int) < m := by omega
   have g1 := (HM.out i hlm).1
   have g2 := (HM.out i hlm).2.1
   have HB : Hid (Bytes 512 (Fs i)) := Lib.hid (HM.out i hlm).2.2
   have y1 := Ha.out i hlt2
   go_wp2_with fail
   refine (isNone_any p n b f (ds i) (Fs i) _ Hs.out Hf.out HB.out rh_2 ch_2).mono ?_; rintro _ W3 ⟨rfl, hw3⟩
   obtain ⟨rh_3, ch_3, zh_3⟩ := keepZ hw3 zh_2 rh_2 ch_2
   obtain ⟨rl_3, cl_3, zl_3⟩ := keepZ hw3 zl_2 rl_2 cl_2
   obtain ⟨hb3, q3⟩ := bN hb2 hw3
   clear hw3 rh_2 ch_2 zh_2 rl_2 cl_2 zl_2 hb2
   go_wp2
   go_roundw
   case rel => exact ⟨i + 1, by omega, by go_num, bt, ⟨by simp [go_sem, rh_3, ch_3, rl_3, cl_3], (by rw [Eh_2.out]; first | exact ch_3 | (simp [go_sem, rh_3, ch_3, rl_3, cl_3]; done))⟩, ⟨by simp [go_sem, rh_3, ch_3, rl_3, cl_3], (by rw [El_2.out]; first | exact cl_3 | (simp [go_sem, rh_3, ch_3, rl_3, cl_3]; done))⟩⟩
   case measure => simp [intOf]; try omega
  ·
   obtain rfl : q = i := by omega
   have l2 : (q : Int) < m := by omega
   have g1 := (HM.out q hq).1
   have g2 := (HM.out q hq).2.1
   have HB : Hid (Bytes 512 (Fs q)) := Lib.hid (HM.out q hq).2.2
   go_wp2_with fail
   refine (isNone_any p n b f (ds q) (Fs q) _ Hs.out Hf.out HB.out rh_2 ch_2).mono ?_; rintro _ W4 ⟨rfl, hw4⟩
   obtain ⟨rh_4, ch_4, zh_4⟩ := keepZ hw4 zh_2 rh_2 ch_2
   obtain ⟨rl_4, cl_4, zl_4⟩ := keepZ hw4 zl_2 rl_2 cl_2
   obtain ⟨hb4, q4⟩ := bN hb2 hw4
   clear hw4 rh_2 ch_2 zh_2 rl_2 cl_2 zl_2 hb2
   go_wp2_with fail
   go_ret
   exact ⟨rfl, bt⟩

set_option maxRecDepth 100000 in
set_option maxHeartbeats 1000000 in
theorem containsMods_no (p : Int) (n b l m : Nat) (f : Nat → Int) (ds : Nat → Int) (Fs : Nat → Nat → Int) (cs : Array Value) (w : World) (hs : sizesB p n = true) (hf : Bytes 1104 f) (hm : m ≤ 1000) (hrb : IsRow w b) (hbb : blk w b = hop p n f) (hrl : IsRow w l) (hbl : blk w l = cs) (hM : ModsAt cs m ds Fs) (ha : ∀ i, i < m → modB p n f (ds i) (Fs i) = true) :
    Calls Tryz.prog 101 #[.slice (some ⟨l, 0, none⟩) m m, .func (.func 99) #[] #[.pointer (some ⟨b, 0, none⟩)]] w fun e w' => e = .returned (.bool false) ∧ Below w.heap.size w w' := by
 have Hs := Lib.hid hs; clear hs
 have Hf := Lib.hid hf; clear hf
 have HM := Lib.hid hM; clear hM
 have Ha := Lib.hid ha; clear ha
 have hbw := isRow_lt hrb
 have hlw := isRow_lt hrl
 go_enter Tryz.func101, Tryz.ntmps101
 go_wp2_with fail
 refine atomC fun W1 e1 => ?_
 have hb1 : Below w.heap.size w W1 := by rw [e1]; exact bt
 have q1 := hb1.size
 have R1 : IsRow W1 (b) ∧ IsRow W1 (l) := by rw [e1]; simp [go_sem, hrb, hbb, hrl, hbl]
 obtain ⟨rh_1, rl_1⟩ := R1
 have C1 := (⟨congrArg (blk · (b)) e1, congrArg (blk · (l)) e1⟩ : _ ∧ _); simp [go_sem, hrb, hbb, hrl, hbl] at C1
 obtain ⟨ch_1, cl_1⟩ := C1
 have zh_1 := isRow_lt rh_1; have zl_1 := isRow_lt rl_1
 clear e1 hrb hbb hrl hbl
 refine (indexMods_no p n b l m f ds Fs cs _ Hs.out Hf.out hm rh_1 ch_1 rl_1 cl_1 HM.out Ha.out).mono ?_; rintro _ W2 ⟨rfl, hw2⟩
 obtain ⟨rh_2, ch_2, zh_2⟩ := keepZ hw2 zh_1 rh_1 ch_1
 obtain ⟨rl_2, cl_2, zl_2⟩ := keepZ hw2 zl_1 rl_1 cl_1
 obtain ⟨hb2, q2⟩ := bN hb1 hw2
 clear hw2 rh_1 ch_1 zh_1 rl_1 cl_1 zl_1 hb1
 go_wp2_with fail
 go_ret
 exact ⟨rfl, bt⟩

set_option maxRecDepth 100000 in
set_option maxHeartbeats 1000000 in
theorem containsMods_yes (p : Int) (n b l m q : Nat) (f : Nat → Int) (ds : Nat → Int) (Fs : Nat → Nat → Int) (cs : Array Value) (w : World) (hs : sizesB p n = true) (hf : Bytes 1104 f) (hm : m ≤ 1000) (hrb : IsRow w b) (hbb : blk w b = hop p n f) (hrl : IsRow w l) (hbl : blk w l = cs) (hM : ModsAt cs m ds Fs) (hq : q < m) (ha : ∀ i, i < q → modB p n f (ds i) (Fs i) = true) (hqf : modB p n f (ds q) (Fs q) = false) :
    Calls Tryz.prog 101 #[.slice (some ⟨l, 0, none⟩) m m, .func (.func 99) #[] #[.pointer (some ⟨b, 0, none⟩)]] w fun e w' => e = .returned (.bool true) ∧ Below w.heap.size w w' := by
 have Hs := Lib.hid hs; clear hs
 have Hf := Lib.hid hf; clear hf
 have HM := Lib.hid hM; clear hM
 have Ha := Lib.hid ha; clear ha
 have hbw := isRow_lt hrb
 have hlw := isRow_lt hrl
 have n1 : decide ((0 : Int) ≤ q) = true := by simp
 go_enter Tryz.func101, Tryz.ntmps101
 go_wp2_with fail
 refine atomC fun W1 e1 => ?_
 have hb1 : Below w.heap.size w W1 := by rw [e1]; exact bt
 have q1 := hb1.size
 have R1 : IsRow W1 (b) ∧ IsRow W1 (l) := by rw [e1]; simp [go_sem, hrb, hbb, hrl, hbl]
 obtain ⟨rh_1, rl_1⟩ := R1
 have C1 := (⟨congrArg (blk · (b)) e1, congrArg (blk · (l)) e1⟩ : _ ∧ _); simp [go_sem, hrb, hbb, hrl, hbl] at C1
 obtain ⟨ch_1, cl_1⟩ := C1
 have zh_1 := isRow_lt rh_1; have zl_1 := isRow_lt rl_1
 clear e1 hrb hbb hrl hbl
 refine (indexMods_at p n b l m q f ds Fs cs _ Hs.out Hf.out hm rh_1 ch_1 rl_1 cl_1 HM.out hq Ha.out hqf).mono ?_; rintro _ W2 ⟨rfl, hw2⟩
 obtain ⟨rh_2, ch_2, zh_2⟩ := keepZ hw2 zh_1 rh_1 ch_1
 obtain ⟨rl_2, cl_2, zl_2⟩ := keepZ hw2 zl_1 rl_1 cl_1
 obtain ⟨hb2, q2⟩ := bN hb1 hw2
 clear hw2 rh_1 ch_1 zh_1 rl_1 cl_1 zl_1 hb1
 go_wp2_with fail
 go_ret
 exact ⟨rfl, bt⟩

set_option maxRecDepth 100000 in
set_option maxHeartbeats 1000000 in
theorem areModules_any (p n : Int) (f : Nat → Int) (l m : Nat) (ds : Nat → Int) (Fs : Nat → Nat → Int) (cs : Array Value) (w : World) (hf : Bytes 1104 f) (hm : m ≤ 1000) (hrl : IsRow w l) (hbl : blk w l = cs) (hM : ModsAt cs m ds Fs) :
    Calls Tryz.prog 69 #[.agg (hop p n f), .slice (some ⟨l, 0, none⟩) m m] w fun e w' => e = .returned (.bool (hopfB p n f && allMod p n.toNat f m ds Fs)) ∧ Below w.heap.size w w' := by
 have Hf := Lib.hid hf; clear hf
 have HM := Lib.hid hM; clear hM
 have hlw := isRow_lt hrl
 cases hh : hopfB p n f
 ·
  have H : Hid ((hopfB p n f && allMod p n.toNat f m ds Fs) = false) := Lib.hid (by rw [hh]; rfl)
  go_enter Tryz.func69, Tryz.ntmps69
  go_wp2_with fail
  have nwl_w_0 : (l) ≠ w.heap.size := by omega
  refine atomC fun W1 e1 => ?_
  have hb1 : Below w.heap.size w W1 := by rw [e1]; exact bt
  have q1 := hb1.size
  have R1 : IsRow W1 (l) ∧ IsRow W1 (w.heap.size) := by rw [e1]; simp [go_sem, hrl, hbl, nwl_w_0]
  obtain ⟨rl_1, r2_1⟩ := R1
  have C1 := (⟨congrArg (blk · (l)) e1, congrArg (blk · (w.heap.size)) e1⟩ : _ ∧ _); simp [go_sem, hrl, hbl, nwl_w_0] at C1
  obtain ⟨cl_1, c2_1⟩ := C1
  have zl_1 := isRow_lt rl_1; have z2_1 := isRow_lt r2_1
  have nl_2 : (l) ≠ (w.heap.size) := by omega
  have n2_l : (w.heap.size) ≠ (l) := by omega
  clear e1 nwl_w_0 hrl hbl
  refine (isHopf_any _ _ _ _ Hf.out).mono ?_; rintro _ W2 ⟨rfl, hw2⟩
  obtain ⟨rl_2, cl_2, zl_2⟩ := keepZ hw2 zl_1 rl_1 cl_1
  obtain ⟨r2_2, c2_2, z2_2⟩ := keepZ hw2 z2_1 r2_1 c2_1
  obtain ⟨hb2, q2⟩ := bN hb1 hw2
  clear hw2 rl_1 cl_1 zl_1 r2_1 c2_1 z2_1 hb1
  go_wp2_with fail
  go_ret
  exact ⟨ret_bool (by first | rfl | (rw [hh] <;> rfl)), bt⟩
 ·
  cases ha : allMod p n.toNat f m ds Fs
  ·
   have hsz := hopf_sizes hh
   obtain ⟨hp2, hp31, hn1, hn8⟩ := sizes_range hsz
   obtain ⟨n, rfl⟩ := Int.eq_ofNat_of_zero_le (show 0 ≤ n by omega)
   have Hs := Lib.hid hsz
   have ht : ((n : Nat) : Int).toNat = n := by omega
   clear hsz
   rw [ht] at ha
   obtain ⟨q, hq, ha1, hqf⟩ := first_false m ha
   have Ha := Lib.hid ha1
   have H : Hid ((hopfB p n f && allMod p ((n : Nat) : Int).toNat f m ds Fs) = false) := Lib.hid (by rw [ht, ha, Bool.and_false])
   clear ha1 ha
   go_enter Tryz.func69, Tryz.ntmps69
   go_wp2_with fail
   have nwl_w_0 : (l) ≠ w.heap.size := by omega
   refine atomC fun W3 e3 => ?_
   have hb3 : Below w.heap.size w W3 := by rw [e3]; exact bt
   have q3 := hb3.size
   have R3 : IsRow W3 (l) ∧ IsRow W3 (w.heap.size) := by rw [e3]; simp [go_sem, hrl, hbl, nwl_w_0]
   obtain ⟨rl_3, r2_3⟩ := R3
   have C3 := (⟨congrArg (blk · (l)) e3, congrArg (blk · (w.heap.size)) e3⟩ : _ ∧ _); simp [go_sem, hrl, hbl, nwl_w_0] at C3
   obtain ⟨cl_3, c2_3⟩ := C3
   have zl_3 := isRow_lt rl_3; have z2_3 := isRow_lt r2_3
   have nl_2 : (l) ≠ (w.heap.size) := by omega
   have n2_l : (w.heap.size) ≠ (l) := by omega
   clear e3 nwl_w_0 hrl hbl
   refine (isHopf_any _ _ _ _ Hf.out).mono ?_; rintro _ W4 ⟨rfl, hw4⟩
   obtain ⟨rl_4, cl_4, zl_4⟩ := keepZ hw4 zl_3 rl_3 cl_3
   obtain ⟨r2_4, c2_4, z2_4⟩ := keepZ hw4 z2_3 r2_3 c2_3
   obtain ⟨hb4, q4⟩ := bN hb3 hw4
   clear hw4 rl_3 cl_3 zl_3 r2_3 c2_3 z2_3 hb3
   go_wp2_with fail
   refine (containsMods_yes p n _ l m q f ds Fs cs _ Hs.out Hf.out hm r2_4 c2_4 rl_4 cl_4 HM.out hq Ha.out hqf).mono ?_; rintro _ W5 ⟨rfl, hw5⟩
   obtain ⟨rl_5, cl_5, zl_5⟩ := keepZ hw5 zl_4 rl_4 cl_4
   obtain ⟨r2_5, c2_5, z2_5⟩ := keepZ hw5 z2_4 r2_4 c2_4
   obtain ⟨hb5, q5⟩ := bN hb4 hw5
   clear hw5 rl_4 cl_4 zl_4 r2_4 c2_4 z2_4 hb4
   go_wp2_with fail
   go_ret
   exact ⟨ret_bool (by first | rfl | rw [H.out]), bt⟩
  ·
   have hsz := hopf_sizes hh
   obtain ⟨hp2, hp31, hn1, hn8⟩ := sizes_range hsz
   obtain ⟨n, rfl⟩ := Int.eq_ofNat_of_zero_le (show 0 ≤ n by omega)
   have Hs := Lib.hid hsz
   have ht : ((n : Nat) : Int).toNat = n := by omega
   clear hsz
   rw [ht] at ha
   have Ha : Hid (∀ i, i < m → modB p n f (ds i) (Fs i) = true) := Lib.hid fun i hi => all_get ha i hi
   have H : Hid ((hopfB p n f && allMod p ((n : Nat) : Int).toNat f m ds Fs) = true) := Lib.hid (by rw [ht, ha, hh]; rfl)
   clear ha
   go_enter Tryz.func69, Tryz.ntmps69
   go_wp2_with fail
   have nwl_w_0 : (l) ≠ w.heap.size := by omega
   refine atomC fun W6 e6 => ?_
   have hb6 : Below w.heap.size w W6 := by rw [e6]; exact bt
   have q6 := hb6.size
   have R6 : IsRow W6 (l) ∧ IsRow W6 (w.heap.size) := by rw [e6]; simp [go_sem, hrl, hbl, nwl_w_0]
   obtain ⟨rl_6, r2_6⟩ := R6
   have C6 := (⟨congrArg (blk · (l)) e6, congrArg (blk · (w.heap.size)) e6⟩ : _ ∧ _); simp [go_sem, hrl, hbl, nwl_w_0] at C6
   obtain ⟨cl_6, c2_6⟩ := C6
   have zl_6 := isRow_lt rl_6; have z2_6 := isRow_lt r2_6
   have nl_2 : (l) ≠ (w.heap.size) := by omega
   have n2_l : (w.heap.size) ≠ (l) := by omega
   clear e6 nwl_w_0 hrl hbl
   refine (isHopf_any _ _ _ _ Hf.out).mono ?_; rintro _ W7 ⟨rfl, hw7⟩
   obtain ⟨rl_7, cl_7, zl_7⟩ := keepZ hw7 zl_6 rl_6 cl_6
   obtain ⟨r2_7, c2_7, z2_7⟩ := keepZ hw7 z2_6 r2_6 c2_6
   obtain ⟨hb7, q7⟩ := bN hb6 hw7
   clear hw7 rl_6 cl_6 zl_6 r2_6 c2_6 z2_6 hb6
   go_wp2_with fail
   refine (containsMods_no p n _ l m f ds Fs cs _ Hs.out Hf.out hm r2_7 c2_7 rl_7 cl_7 HM.out Ha.out).mono ?_; rintro _ W8 ⟨rfl, hw8⟩
   obtain ⟨rl_8, cl_8, zl_8⟩ := keepZ hw8 zl_7 rl_7 cl_7
   obtain ⟨r2_8, c2_8, z2_8⟩ := keepZ hw8 z2_7 r2_7 c2_7
   obtain ⟨hb8, q8⟩ := bN hb7 hw8
   clear hw8 rl_7 cl_7 zl_7 r2_7 c2_7 z2_7 hb7
   go_wp2_with fail
   go_ret
   exact ⟨ret_bool (by first | rfl | rw [H.out]), bt⟩

set_option maxRecDepth 100000 in
set_option maxHeartbeats 1000000 in
theorem l06Code_no (p n : Int) (f : Nat → Int) (l m : Nat) (ds : Nat → Int) (Fs : Nat → Nat → Int) (cs : Array Value) (w : World) (hf : Bytes 1104 f) (hm : m ≤ 1000) (hrl : IsRow w l) (hbl : blk w l = cs) (hM : ModsAt cs m ds Fs) (hh : hopfB p n f = false) :
    Calls Tryz.prog 63 #[.agg (hop p n f), .slice (some ⟨l, 0, none⟩) m m] w fun e w' => e = .returned (.int .i64 (codeB (hopfB p n f && allMod p n.toNat f m ds Fs))) ∧ Below w.heap.size w w' := by
 have Hf := Lib.hid hf; clear hf
 have HM := Lib.hid hM; clear hM
 have hlw := isRow_lt hrl
 go_enter Tryz.func63, Tryz.ntmps63
 go_wp2_with fail
 have nwl_w_0 : (l) ≠ w.heap.size := by omega
 refine atomC fun W1 e1 => ?_
 have hb1 : Below w.heap.size w W1 := by rw [e1]; exact bt
 have q1 := hb1.size
 have R1 : IsRow W1 (l) ∧ IsRow W1 (w.heap.size) := by rw [e1]; simp [go_sem, hrl, hbl, nwl_w_0]
 obtain ⟨rl_1, r2_1⟩ := R1
 have C1 := (⟨congrArg (blk · (l)) e1, congrArg (blk · (w.heap.size)) e1⟩ : _ ∧ _); simp [go_sem, hrl, hbl, nwl_w_0] at C1
 obtain ⟨cl_1, c2_1⟩ := C1
 have zl_1 := isRow_lt rl_1; have z2_1 := isRow_lt r2_1
 have nl_2 : (l) ≠ (w.heap.size) := by omega
 have n2_l : (w.heap.size) ≠ (l) := by omega
 clear e1 nwl_w_0 hrl hbl
 refine (l03Is_any _ _ _ _ Hf.out).mono ?_; rintro _ W2 ⟨rfl, hw2⟩
 obtain ⟨rl_2, cl_2, zl_2⟩ := keepZ hw2 zl_1 rl_1 cl_1
 obtain ⟨r2_2, c2_2, z2_2⟩ := keepZ hw2 z2_1 r2_1 c2_1
 obtain ⟨hb2, q2⟩ := bN hb1 hw2
 clear hw2 rl_1 cl_1 zl_1 r2_1 c2_1 z2_1 hb1
 go_wp2_with fail
 go_ret
 exact ⟨ret_int (by rw [hh]; rfl), bt⟩

set_option maxRecDepth 100000 in
set_option maxHeartbeats 1000000 in
theorem l06Code_yes (p : Int) (n : Nat) (f : Nat → Int) (l m : Nat) (ds : Nat → Int) (Fs : Nat → Nat → Int) (cs : Array Value) (w : World) (hf : Bytes 1104 f) (hm : m ≤ 1000) (hrl : IsRow w l) (hbl : blk w l = cs) (hM : ModsAt cs m ds Fs) (hh : hopfB p n f = true) (hs : sizesB p n = true) :
    Calls Tryz.prog 63 #[.agg (hop p n f), .slice (some ⟨l, 0, none⟩) m m] w fun e w' => e = .returned (.int .i64 (codeB (hopfB p n f && allMod p n f m ds Fs))) ∧ Below w.heap.size w w' := by
 have Hf := Lib.hid hf; clear hf
 have HM := Lib.hid hM; clear hM
 have Hs := Lib.hid hs; clear hs
 obtain ⟨hp2, hp31, hn1, hn8⟩ := sizes_range Hs.out
 have hp : 0 < p := by omega
 have hp' : p ≤ 255 := by omega
 have hn : n ≤ 8 := by omega
 have hlw := isRow_lt hrl
 go_enter Tryz.func63, Tryz.ntmps63
 go_wp2_with fail
 have nwl_w_0 : (l) ≠ w.heap.size := by omega
 refine atomC fun W1 e1 => ?_
 have hb1 : Below w.heap.size w W1 := by rw [e1]; exact bt
 have q1 := hb1.size
 have R1 : IsRow W1 (l) ∧ IsRow W1 (w.heap.size) := by rw [e1]; simp [go_sem, hrl, hbl, nwl_w_0]
 obtain ⟨rl_1, r2_1⟩ := R1
 have C1 := (⟨congrArg (blk · (l)) e1, congrArg (blk · (w.heap.size)) e1⟩ : _ ∧ _); simp [go_sem, hrl, hbl, nwl_w_0] at C1
 obtain ⟨cl_1, c2_1⟩ := C1
 have zl_1 := isRow_lt rl_1; have z2_1 := isRow_lt r2_1
 have nl_2 : (l) ≠ (w.heap.size) := by omega
 have n2_l : (w.heap.size) ≠ (l) := by omega
 clear e1 nwl_w_0 hrl hbl
 refine (l03Is_any _ _ _ _ Hf.out).mono ?_; rintro _ W2 ⟨rfl, hw2⟩
 obtain ⟨rl_2, cl_2, zl_2⟩ := keepZ hw2 zl_1 rl_1 cl_1
 obtain ⟨r2_2, c2_2, z2_2⟩ := keepZ hw2 z2_1 r2_1 c2_1
 obtain ⟨hb2, q2⟩ := bN hb1 hw2
 clear hw2 rl_1 cl_1 zl_1 r2_1 c2_1 z2_1 hb1
 go_wp2
 go_loopw [5] (fun s5 wr => ∃ i : Nat, i ≤ m ∧ s5 = .int .i64 i ∧ Below w.heap.size w wr ∧ (IsRow wr (l) ∧ blk wr (l) = blk W2 (l)) ∧ (IsRow wr (w.heap.size) ∧ blk wr (w.heap.size) = blk W2 (w.heap.size)) ∧ ∀ x, x < i → modB p n f (ds x) (Fs x) = true) (fun s5 _ => m - (intOf s5).toNat)
 case atStart => exact ⟨0, by omega, rfl, hb2, ⟨rl_2, rfl⟩, ⟨r2_2, rfl⟩, fun x hx => by omega⟩
 case round =>
  obtain ⟨i, hle3, rfl, hb3, ⟨rl_3, cl_3⟩, ⟨r2_3, c2_3⟩, hx3⟩ := hrel
  obtain ⟨W3, rfl⟩ : ∃ W3 : World, W3 = wr := ⟨_, rfl⟩
  have q3 := hb3.size
  have HX3 := Lib.hid hx3; clear hx3
  have El_3 := Lib.hid cl_2; replace cl_3 := cl_3.trans cl_2
  have zl_3 := isRow_lt rl_3
  have E2_3 := Lib.hid c2_2; replace c2_3 := c2_3.trans c2_2
  have z2_3 := isRow_lt r2_3
  clear rl_2 cl_2 zl_2 r2_2 c2_2 z2_2 hb2
  by_cases hlt3 : i < m
  ·
   cases hv : modB p n f (ds i) (Fs i)
   ·
    have g1 := (HM.out i hlt3).1
    have g2 := (HM.out i hlt3).2.1
    have HB : Hid (Bytes 512 (Fs i)) := Lib.hid (HM.out i hlt3).2.2
    have H := Lib.hid (all_no (q := fun i => modB p n f (ds i) (Fs i)) i m hlt3 hv)
    go_wp2
    refine wp_quiet_all (Below W3.heap.size W3) (by kernel_rfl) (by kernel_rfl) (Below.refl _ _).drew ?_
    iterate 5 (refine q_plain rfl ?_; apply Exists.intro; refine ⟨fun W hW => ?_, ?_⟩; (focus (obtain ⟨xl, yl⟩ := keepB hW zl_3 rl_3 cl_3; obtain ⟨x2, y2⟩ := keepB hW z2_3 r2_3 c2_3; go_simp; first | done | rfl)); simp only [Act.put, List.setIfInBounds_toArray, List.set_cons_zero, List.set_cons_succ])
    (refine q_plain rfl ?_; apply Exists.intro; refine ⟨fun W hW => ?_, ?_⟩; (focus (obtain ⟨xl, yl⟩ := keepB hW zl_3 rl_3 cl_3; obtain ⟨x2, y2⟩ := keepB hW z2_3 r2_3 c2_3; go_simp; (go_at_call 95; exact (l06Holds_any p n f (ds i) (Fs i) _ hp hp' hn Hf.out HB.out).mono fun e w2 ⟨he, hw2⟩ => ⟨he, hW.trans (hw2.mono hW.size)⟩))); simp only [Act.put, List.setIfInBounds_toArray, List.set_cons_zero, List.set_cons_succ])
    iterate 1 (refine q_plain rfl ?_; apply Exists.intro; refine ⟨fun W hW => ?_, ?_⟩; (focus (obtain ⟨xl, yl⟩ := keepB hW zl_3 rl_3 cl_3; obtain ⟨x2, y2⟩ := keepB hW z2_3 r2_3 c2_3; go_simp; first | done | rfl)); simp only [Act.put, List.setIfInBounds_toArray, List.set_cons_zero, List.set_cons_succ])
    refine wpQuiet_nil ?_
    intro W4 hw4
    obtain ⟨rl_4, cl_4, zl_4⟩ := keepZ hw4 zl_3 rl_3 cl_3
    obtain ⟨r2_4, c2_4, z2_4⟩ := keepZ hw4 z2_3 r2_3 c2_3
    obtain ⟨hb4, q4⟩ := bN hb3 hw4
    clear hw4 rl_3 cl_3 zl_3 r2_3 c2_3 z2_3 hb3
    go_wp2_with fail
    go_ret
    exact ⟨ret_int (by rw [hh]; unfold allMod; rw [H.out]; rfl), bt⟩
   ·
    have g1 := (HM.out i hlt3).1
    have g2 := (HM.out i hlt3).2.1
    have HB : Hid (Bytes 512 (Fs i)) := Lib.hid (HM.out i hlt3).2.2
    have H := Lib.hid (upto_more (q := fun i => modB p n f (ds i) (Fs i)) HX3.out hv)
    go_wp2
    refine wp_quiet_all (Below W3.heap.size W3) (by kernel_rfl) (by kernel_rfl) (Below.refl _ _).drew ?_
    iterate 5 (refine q_plain rfl ?_; apply Exists.intro; refine ⟨fun W hW => ?_, ?_⟩; (focus (obtain ⟨xl, yl⟩ := keepB hW zl_3 rl_3 cl_3; obtain ⟨x2, y2⟩ := keepB hW z2_3 r2_3 c2_3; go_simp; first | done | rfl)); simp only [Act.put, List.setIfInBounds_toArray, List.set_cons_zero, List.set_cons_succ])
    (refine q_plain rfl ?_; apply Exists.intro; refine ⟨fun W hW => ?_, ?_⟩; (focus (obtain ⟨xl, yl⟩ := keepB hW zl_3 rl_3 cl_3; obtain ⟨x2, y2⟩ := keepB hW z2_3 r2_3 c2_3; go_simp; (go_at_call 95; exact (l06Holds_any p n f (ds i) (Fs i) _ hp hp' hn Hf.out HB.out).mono fun e w2 ⟨he, hw2⟩ => ⟨he, hW.trans (hw2.mono hW.size)⟩))); simp only [Act.put, List.setIfInBounds_toArray, List.set_cons_zero, List.set_cons_succ])
    iterate 1 (refine q_plain rfl ?_; apply Exists.intro; refine ⟨fun W hW => ?_, ?_⟩; (focus (obtain ⟨xl, yl⟩ := keepB hW zl_3 rl_3 cl_3; obtain ⟨x2, y2⟩ := keepB hW z2_3 r2_3 c2_3; go_simp; first | done | rfl)); simp only [Act.put, List.setIfInBounds_toArray, List.set_cons_zero, List.set_cons_succ])
    refine wpQuiet_nil ?_
    intro W5 hw5
    obtain ⟨rl_5, cl_5, zl_5⟩ := keepZ hw5 zl_3 rl_3 cl_3
    obtain ⟨r2_5, c2_5, z2_5⟩ := keepZ hw5 z2_3 r2_3 c2_3
    obtain ⟨hb5, q5⟩ := bN hb3 hw5
    clear hw5 rl_3 cl_3 zl_3 r2_3 c2_3 z2_3 hb3
    go_wp2
    go_roundw
    case rel => exact ⟨i + 1, by omega, by go_num, bt, ⟨by simp [go_sem, rl_5, cl_5, nl_2, r2_5, c2_5, n2_l], (by rw [El_3.out]; first | exact cl_5 | (simp [go_sem, rl_5, cl_5, nl_2, r2_5, c2_5, n2_l]; done))⟩, ⟨by simp [go_sem, rl_5, cl_5, nl_2, r2_5, c2_5, n2_l], (by rw [E2_3.out]; first | exact c2_5 | (simp [go_sem, rl_5, cl_5, nl_2, r2_5, c2_5, n2_l]; done))⟩, H.out⟩
    case measure => simp [intOf]; try omega
  ·
   obtain rfl : m = i := by omega
   have H := Lib.hid (all_yes (q := fun i => modB p n f (ds i) (Fs i)) m fun i hi => HX3.out i (by omega))
   go_wp2_with fail
   go_ret
   exact ⟨ret_int (by rw [hh]; unfold allMod; rw [H.out]; rfl), bt⟩

theorem l06Code_any (p n : Int) (f : Nat → Int) (l m : Nat) (ds : Nat → Int) (Fs : Nat → Nat → Int) (cs : Array Value) (w : World) (hf : Bytes 1104 f) (hm : m ≤ 1000) (hrl : IsRow w l) (hbl : blk w l = cs) (hM : ModsAt cs m ds Fs) :
    Calls Tryz.prog 63 #[.agg (hop p n f), .slice (some ⟨l, 0, none⟩) m m] w fun e w' => e = .returned (.int .i64 (codeB (hopfB p n f && allMod p n.toNat f m ds Fs))) ∧ Below w.heap.size w w' := by
  cases hh : hopfB p n f
  · have := l06Code_no p n f l m ds Fs cs w hf hm hrl hbl hM hh
    rw [hh] at this; exact this
  · have hsz := hopf_sizes hh
    obtain ⟨hp2, hp31, hn1, hn8⟩ := sizes_range hsz
    obtain ⟨n, rfl⟩ := Int.eq_ofNat_of_zero_le (show 0 ≤ n by omega)
    have := l06Code_yes p n f l m ds Fs cs w hf hm hrl hbl hM hh hsz
    rw [hh] at this; exact this
theorem mods1 {d : Int} {F : Nat → Int} (hF : Bytes 512 F) : ModsAt (mdl d F) 1 (fun _ => d) (fun _ => F) := fun i hi => by
  obtain rfl : i = 0 := by omega
  exact ⟨by rw [mdl_size]; omega, by rw [Nat.zero_mul, Nat.zero_add, mdl_all], hF⟩
theorem allMod1 (p : Int) (n : Nat) (f : Nat → Int) (d : Int) (F : Nat → Int) : allMod p n f 1 (fun _ => d) (fun _ => F) = modB p n f d F := by
  show (modB p n f d F && true) = _
  rw [Bool.and_true]
/-- a Hopf algebra, and a module of it -/
def hm1 (p n : Int) (f : Nat → Int) (d : Int) (F : Nat → Int) : Bool := hopfB p n f && modB p n.toNat f d F
theorem areMod1 (p n : Int) (f : Nat → Int) (d : Int) (F : Nat → Int) (l : Nat) (w : World) (hf : Bytes 1104 f) (hF : Bytes 512 F) (hrl : IsRow w l) (hbl : blk w l = mdl d F) :
    Calls Tryz.prog 69 #[.agg (hop p n f), .slice (some ⟨l, 0, none⟩) 1 1] w fun e w' => e = .returned (.bool (hm1 p n f d F)) ∧ Below w.heap.size w w' := by
  have := areModules_any p n f l 1 (fun _ => d) (fun _ => F) _ w hf (by omega) hrl hbl (mods1 hF)
  rw [allMod1] at this; exact this
theorem code1 (p n : Int) (f : Nat → Int) (d : Int) (F : Nat → Int) (l : Nat) (w : World) (hf : Bytes 1104 f) (hF : Bytes 512 F) (hrl : IsRow w l) (hbl : blk w l = mdl d F) :
    Calls Tryz.prog 63 #[.agg (hop p n f), .slice (some ⟨l, 0, none⟩) 1 1] w fun e w' => e = .returned (.int .i64 (codeB (hm1 p n f d F))) ∧ Below w.heap.size w w' := by
  have := l06Code_any p n f l 1 (fun _ => d) (fun _ => F) _ w hf (by omega) hrl hbl (mods1 hF)
  rw [allMod1] at this; exact this
/-! ### the laws' copies -/
theorem actsz (F : Nat → Int) : row 512 zf = row 512 (upto (0 * 64) F) := by rw [Nat.zero_mul, upto_zero]

set_option maxRecDepth 100000 in
set_option maxHeartbeats 1000000 in
theorem toActs_any (F : Nat → Int) (w : World)  :
    Calls Tryz.prog 36 #[.agg (row 512 F)] w fun e w' => e = .returned (.agg (row 512 F)) ∧ Below w.heap.size w w' := by
 go_enter Tryz.func36, Tryz.ntmps36
 go_wp2
 refine atomW fun W1 e1 => ?_
 have hb1 : Below w.heap.size w W1 := by rw [e1]; exact bt
 have q1 := hb1.size
 have R1 : IsRow W1 (w.heap.size) ∧ IsRow W1 (w.heap.size + 1) ∧ IsRow W1 (w.heap.size + 2) := by rw [e1]; simp [go_sem]
 obtain ⟨r1_1, r2_1, r3_1⟩ := R1
 have C1 := (⟨congrArg (blk · (w.heap.size)) e1, congrArg (blk · (w.heap.size + 1)) e1, congrArg (blk · (w.heap.size + 2)) e1⟩ : _ ∧ _ ∧ _); simp [go_sem] at C1
 obtain ⟨c1_1, c2_1, c3_1⟩ := C1
 have z1_1 := isRow_lt r1_1; have z2_1 := isRow_lt r2_1; have z3_1 := isRow_lt r3_1
 clear e1
 go_loopw [4] (fun s4 wr => ∃ i : Nat, i ≤ 8 ∧ s4 = .int .i64 i ∧ Below w.heap.size w wr ∧ (IsRow wr (w.heap.size) ∧ blk wr (w.heap.size) = blk W1 (w.heap.size)) ∧ (IsRow wr (w.heap.size + 1) ∧ blk wr (w.heap.size + 1) = blk W1 (w.heap.size + 1)) ∧ (IsRow wr (w.heap.size + 2) ∧ blk wr (w.heap.size + 2) = row 512 (upto (i * 64) F))) (fun s4 _ => 8 - (intOf s4).toNat)
 case atStart => exact ⟨0, by omega, rfl, hb1, ⟨r1_1, rfl⟩, ⟨r2_1, rfl⟩, ⟨r3_1, c3_1.trans (actsz F)⟩⟩
 case round =>
  obtain ⟨i, hle2, rfl, hb2, ⟨r1_2, c1_2⟩, ⟨r2_2, c2_2⟩, ⟨r3_2, c3_2⟩⟩ := hrel
  obtain ⟨W2, rfl⟩ : ∃ W2 : World, W2 = wr := ⟨_, rfl⟩
  have q2 := hb2.size
  have E1_2 := Lib.hid c1_1; replace c1_2 := c1_2.trans c1_1
  have z1_2 := isRow_lt r1_2
  have E2_2 := Lib.hid c2_1; replace c2_2 := c2_2.trans c2_1
  have z2_2 := isRow_lt r2_2
  have z3_2 := isRow_lt r3_2
  clear r1_1 c1_1 z1_1 r2_1 c2_1 z2_1 r3_1 c3_1 z3_1 hb1
  by_cases hlt2 : i < 8
  ·
   have i0_2 : (0 : Int) ≤ (i : Int) := by omega
   have i8_2 : (i : Int) < 8 := by omega
   have k8_2 : i < 8 := by omega
   have m8_2 : i * 8 + 8 ≤ 64 := by omega
   have m64_2 : i * 64 + 64 ≤ 512 := by omega
   have l1_2 : 10 + i * 64 + 64 ≤ 522 := by omega
   go_wp2_with fail
   refine (toLinear_any (fun t => F (i * 64 + t)) _).mono ?_; rintro _ W3 ⟨rfl, hw3⟩
   obtain ⟨r1_3, c1_3, z1_3⟩ := keepZ hw3 z1_2 r1_2 c1_2
   obtain ⟨r2_3, c2_3, z2_3⟩ := keepZ hw3 z2_2 r2_2 c2_2
   obtain ⟨r3_3, c3_3, z3_3⟩ := keepZ hw3 z3_2 r3_2 c3_2
   obtain ⟨hb3, q3⟩ := bN hb2 hw3
   clear hw3 r1_2 c1_2 z1_2 r2_2 c2_2 z2_2 r3_2 c3_2 z3_2 hb2
   go_wp2
   go_roundw
   case rel => exact ⟨i + 1, by omega, by go_num, bt, ⟨by simp [go_sem, r1_3, c1_3, r2_3, c2_3, r3_3, c3_3], (by rw [E1_2.out]; first | exact c1_3 | (simp [go_sem, r1_3, c1_3, r2_3, c2_3, r3_3, c3_3]; done))⟩, ⟨by simp [go_sem, r1_3, c1_3, r2_3, c2_3, r3_3, c3_3], (by rw [E2_2.out]; first | exact c2_3 | (simp [go_sem, r1_3, c1_3, r2_3, c2_3, r3_3, c3_3]; done))⟩, ⟨by simp [go_sem, r1_3, c1_3, r2_3, c2_3, r3_3, c3_3], (by first | (rw [blk_setRow _ _ _ _ r3_3, if_pos rfl]; exact upto_part 512 64 i F (by omega)) | exact (c3_3).trans (upto_part 512 64 i F (by omega)) | (simp [go_sem, r1_3, c1_3, r2_3, c2_3, r3_3, c3_3]; exact upto_part 512 64 i F (by omega)))⟩⟩
   case measure => simp [intOf]; try omega
  ·
   obtain rfl : i = 8 := by omega
   rw [show row 512 (upto (8 * 64) F) = row 512 F from upto_all 512 F] at c3_2
   go_wp2_with fail
   refine bodyPost_ret (result_cell rfl aggActs _ _ (row 512 F) _ rfl ?_ ?_) rfl ⟨rfl, ?_⟩
   · simp [go_sem, r1_2, c1_2, r2_2, c2_2, r3_2, c3_2]
   · simp [go_sem, r1_2, c1_2, r2_2, c2_2, r3_2, c3_2]
   · exact bt

set_option maxRecDepth 100000 in
set_option maxHeartbeats 1000000 in
theorem toModule_any (d : Int) (F : Nat → Int) (w : World)  :
    Calls Tryz.prog 11 #[.agg (mdl d F)] w fun e w' => e = .returned (.agg (mdl d F)) ∧ Below w.heap.size w w' := by
 go_enter Tryz.func11, Tryz.ntmps11
 go_wp2_with fail
 refine atomC fun W1 e1 => ?_
 have hb1 : Below w.heap.size w W1 := by rw [e1]; exact bt
 have q1 := hb1.size
 have R1 : IsRow W1 (w.heap.size + 1) ∧ IsRow W1 (w.heap.size + 2) := by rw [e1]; simp [go_sem]
 obtain ⟨r2_1, r3_1⟩ := R1
 have C1 := (⟨congrArg (blk · (w.heap.size + 1)) e1, congrArg (blk · (w.heap.size + 2)) e1⟩ : _ ∧ _); simp [go_sem] at C1
 obtain ⟨c2_1, c3_1⟩ := C1
 have z2_1 := isRow_lt r2_1; have z3_1 := isRow_lt r3_1
 clear e1
 refine (toActs_any _ _).mono ?_; rintro _ W2 ⟨rfl, hw2⟩
 obtain ⟨r2_2, c2_2, z2_2⟩ := keepZ hw2 z2_1 r2_1 c2_1
 obtain ⟨r3_2, c3_2, z3_2⟩ := keepZ hw2 z3_1 r3_1 c3_1
 obtain ⟨hb2, q2⟩ := bN hb1 hw2
 clear hw2 r2_1 c2_1 z2_1 r3_1 c3_1 z3_1 hb1
 go_wp2_with fail
 refine bodyPost_ret (result_cell rfl aggMod _ _ (mdl d F) _ rfl ?_ ?_) rfl ⟨rfl, ?_⟩
 · simp [go_sem, r2_2, c2_2, r3_2, c3_2]
 · simp [go_sem, r2_2, c2_2, r3_2, c3_2]
 · exact bt

end Go.Proofs.YtjmmmggnbndolaaGreat
