/- Invariants of modules. -/
import Derived.Test.YtfmhgfnadgaiaaaGreatM3
import Derived.Test.YtfmhgfnadgaiaaaGreatMN
import Derived.Test.YtfmhgfnadgaiaaaGreatL7
import Derived.Test.YtfmhgfnadgaiaaaGreatRegionF
namespace Go.Proofs.YtfmhgfnadgaiaaaGreat
open Go.RowKit
set_option linter.unusedSimpArgs false
set_option linter.unusedVariables false
attribute [local irreducible] wpQuiet wpQE

/-! ### invariants -/
theorem emodI {p : Int} (hp : 0 < p) (x : Int) : 0 ≤ x % p ∧ x % p < p := ⟨Int.emod_nonneg _ (by omega), Int.emod_lt_of_pos _ hp⟩
theorem mod_right {p : Int} {n d : Nat} {f F : Nat → Int} (h : modB p n f d F = true) {i j t : Nat} (hi : i < 8) (hj : j < 8) (h0 : d ≤ t) (ht : t < 8) : act F i j t = 0 := by
  unfold modB shapeM at h
  simp only [Bool.and_eq_true] at h
  have h1 := all_get h.1.2 i hi
  unfold entA at h1
  simp only [Bool.and_eq_true] at h1
  have h2 := all_get h1.1 j hj
  unfold entL at h2
  simp only [Bool.and_eq_true] at h2
  have h3 := ((vecB_iff p d _).1 h2.1 t ht).2
  have e : rowOf 8 (rowOf 64 F i) j t = act F i j t := rfl
  rw [e] at h3
  omega
theorem hopf_cof {p : Int} {n : Nat} {f : Nat → Int} (h : hopfB p n f = true) (hf : Bytes 1104 f) {i : Nat} (hi : i < 8) : 0 ≤ coF f i ∧ coF f i < p := ⟨(co_bytes hf i (by omega)).1, ((vecB_iff p n _).1 (shape_parts (shapeH_parts (hopf_shape h)).2.1).2.1 i hi).1⟩
def invX (f F : Nat → Int) (i j k : Nat) : Int := act F i k j - (if k = j then coF f i else 0)
def invA (p : Int) (d : Nat) (f F : Nat → Int) (i j : Nat) : Nat → Int := genF p (invX f F i j) d
def InS (p : Int) (n d : Nat) (f F : Nat → Int) : (Nat → Int) → Prop := AllDot p n d (invA p d f F)
/-- e(i) v -/
def apI (p : Int) (d : Nat) (F v : Nat → Int) (i : Nat) : Nat → Int := fun s => appF p 8 (fun a b => actT p d F (ebas i) (a * 8 + b)) v s
/-- the images less the Counits, of the first c -/
def divK (p : Int) (d : Nat) (f F v : Nat → Int) (c : Nat) : Nat → Int := fun t => if t / 8 < c then (apI p d F v (t / 8) (t % 8) + -coF f (t / 8) % p * v (t % 8)) % p else 0
theorem div_zero (p : Int) (d : Nat) (f F v : Nat → Int) : row 64 zf = row 64 (divK p d f F v 0) := row_congr fun t _ => by unfold divK zf; rw [if_neg (by omega)]
def divM (p : Int) (d : Nat) (f F v : Nat → Int) (c : Nat) : Nat → Int := fun t => if t / 8 = c then apI p d F v c (t % 8) else divK p d f F v c t
theorem div_lay {p : Int} {d : Nat} {f F v : Nat → Int} {c : Nat} (hc : c < 8) : lay (row 64 (divK p d f F v c)) (c * 8) (row 8 (apI p d F v c)) = row 64 (divM p d f F v c) := by
  rw [lay_row _ _ _ _ _ (by omega)]
  refine row_congr fun t ht => ?_
  unfold divM
  by_cases h : c * 8 ≤ t ∧ t < c * 8 + 8
  · rw [if_pos h, if_pos (by omega), show t - c * 8 = t % 8 by omega]
  · rw [if_neg h, if_neg (by omega)]
theorem div_step {p : Int} {d : Nat} {f F v : Nat → Int} {c : Nat} (hc : c < 8) : row 64 (addm p (c * 8) 8 (-coF f c % p) (divM p d f F v c) v) = row 64 (divK p d f F v (c + 1)) := row_congr fun t ht => by
  unfold addm divM divK
  by_cases h : c * 8 ≤ t ∧ t < c * 8 + 8
  · rw [if_pos h, if_pos (by omega), if_pos (by omega), show t / 8 = c by omega, show t - c * 8 = t % 8 by omega]
  · rw [if_neg h, if_neg (by omega)]
    by_cases h2 : t / 8 < c
    · rw [if_pos h2, if_pos (by omega)]
    · rw [if_neg h2, if_neg (by omega)]
theorem ap_range {p : Int} (hp : 0 < p) (d : Nat) (F v : Nat → Int) (i s : Nat) : 0 ≤ apI p d F v i s ∧ apI p d F v i s < p := emodI hp _
theorem divM_range {p : Int} (hp : 0 < p) (d : Nat) (f F v : Nat → Int) (c t : Nat) : 0 ≤ divM p d f F v c t ∧ divM p d f F v c t < p := by
  unfold divM
  split
  · exact ap_range hp _ _ _ _ _
  · unfold divK
    split
    · exact emodI hp _
    · omega
theorem divK_range {p : Int} (hp : 0 < p) (d : Nat) (f F v : Nat → Int) (c t : Nat) : 0 ≤ divK p d f F v c t ∧ divK p d f F v c t < p := by
  unfold divK
  split
  · exact emodI hp _
  · omega
theorem div_at {p : Int} {n d : Nat} {f F : Nat → Int} (hS : ModS p n d F) (hd : d ≤ 8) {i j k : Nat} (hin : i < n) (hi : i < 8) (hj : j < 8) (hk : k < d) : divK p d f F (ebas k) n (i * 8 + j) % p = invX f F i j k % p := by
  unfold divK apI
  rw [if_pos (show (i * 8 + j) / 8 < n by omega), show (i * 8 + j) / 8 = i by omega, show (i * 8 + j) % 8 = j by omega, Int.emod_emod]
  have e1 : appF p 8 (fun a b => actT p d F (ebas i) (a * 8 + b)) (ebas k) j % p = act F i k j % p := by
    unfold appF
    rw [Int.emod_emod, sumTo_one (k := k) 8 (by omega) fun a _ ha => by unfold ebas upd zf; rw [if_neg ha, Int.zero_mul]]
    rw [show ebas k k = 1 by unfold ebas upd; rw [if_pos rfl], Int.one_mul]
    dsimp only
    rw [actT_basis hS hd hi hk hj]
  have e2 : (-coF f i % p * ebas k j) % p = (-(if k = j then coF f i else 0)) % p := by
    by_cases h : k = j
    · rw [if_pos h, show ebas k j = 1 by unfold ebas upd; rw [if_pos h.symm], Int.mul_one, Int.emod_emod]
    · rw [if_neg h, show ebas k j = 0 by unfold ebas upd zf; rw [if_neg (fun e => h e.symm)], Int.mul_zero, Int.neg_zero]
  rw [emod_add_congr e1 e2]
  rfl
theorem div_out {d : Nat} {f F : Nat → Int} (hr : ∀ i k j, i < 8 → k < 8 → d ≤ j → j < 8 → act F i k j = 0) {i j k : Nat} (hi : i < 8) (hk : k < d) (hd : d ≤ 8) (hj : j < 8) (ho : d ≤ j) : invX f F i j k = 0 := by
  unfold invX
  rw [hr i k j hi (by omega) ho hj, if_neg (by omega)]
  rfl
theorem inv_ker {p : Int} {n d : Nat} {f F : Nat → Int} (hn : n ≤ 8) (hd : d ≤ 8) (hS : ModS p n d F) (hr : ∀ i k j, i < 8 → k < 8 → d ≤ j → j < 8 → act F i k j = 0) (x : Nat → Int) : KerOf p 64 d (fun k => divK p d f F (ebas k) n) x ↔ InS p n d f F x := by
  have e : ∀ i j, i < n → j < d → dotF d x (invA p d f F i j) % p = sumTo (fun k => x k * divK p d f F (ebas k) n (i * 8 + j)) d % p := fun i j hi hj => dot_gen fun k hk => div_at hS hd hi (by omega) (by omega) hk
  unfold KerOf InS AllDot
  constructor
  · rintro ⟨h1, h2⟩
    exact ⟨fun i hi j hj => by rw [e i j hi hj]; exact h1 (i * 8 + j) (by omega), h2⟩
  · rintro ⟨h1, h2⟩
    refine ⟨fun t ht => ?_, h2⟩
    show sumTo (fun k => x k * divK p d f F (ebas k) n t) d % p = 0
    by_cases ho : t / 8 < n ∧ t % 8 < d
    · have := h1 (t / 8) ho.1 (t % 8) ho.2
      rw [e _ _ ho.1 ho.2, show t / 8 * 8 + t % 8 = t by omega] at this
      exact this
    · rw [sum_mod p _ (fun _ => 0) d fun k hk => ?_, sumTo_zero d fun _ _ => rfl]
      · simp
      · show x k * divK p d f F (ebas k) n t % p = 0 % p
        have h3 : divK p d f F (ebas k) n t % p = 0 := by
          by_cases h4 : t / 8 < n
          · have := div_at (f := f) hS hd (i := t / 8) (j := t % 8) (k := k) h4 (by omega) (by omega) hk
            rw [show t / 8 * 8 + t % 8 = t by omega, div_out hr (by omega) hk hd (by omega) (by omega), Int.zero_emod] at this
            exact this
          · unfold divK
            rw [if_neg h4, Int.zero_emod]
        rw [Int.mul_emod, h3, Int.mul_zero, Int.zero_emod]
noncomputable def inN (p n : Int) (f : Nat → Int) (d : Int) (F : Nat → Int) : Nat := if hm1 p n f d F then telN p (InS p n.toNat d.toNat f F) else 0
noncomputable def inG (p n : Int) (f : Nat → Int) (d : Int) (F : Nat → Int) : Nat → Nat → Int := telG p (InS p n.toNat d.toNat f F)
theorem in_no {p n : Int} {f : Nat → Int} {d : Int} {F : Nat → Int} (h : hm1 p n f d F = false) : inN p n f d F = 0 := by unfold inN; rw [h]; rfl
theorem in_yes {p n : Int} {f : Nat → Int} {d : Int} {F : Nat → Int} (h : hm1 p n f d F = true) : inN p n f d F = telN p (InS p n.toNat d.toNat f F) := by unfold inN; rw [h]; rfl
theorem in_le (p n : Int) (f : Nat → Int) (d : Int) (F : Nat → Int) : inN p n f d F ≤ 8 := by
  unfold inN
  split
  · exact tel_le _ _
  · omega
@[go_sem] theorem invRowP (v : Value) (w : World) : invokeP Tryz.prog "loop.example/g01230/impl.row" (.iface 31 v) w = .ok (.enter 231 #[v]) w := by kernel_rfl
/-- the space of the invariants, as a value -/
def spv (p d : Int) (b1 b2 : Nat) : Array Value := #[.int .i64 p, .int .i64 d, .func (.func 111) #[] #[.pointer (some ⟨b1, 0, none⟩), .pointer (some ⟨b2, 0, none⟩)]]
@[go_sem] theorem spv_size (p d : Int) (b1 b2 : Nat) : (spv p d b1 b2).size = 3 := rfl
@[go_sem] theorem spv_0 (p d : Int) (b1 b2 : Nat) : (spv p d b1 b2)[0]? = some (.int .i64 p) := rfl
@[go_sem] theorem spv_1 (p d : Int) (b1 b2 : Nat) : (spv p d b1 b2)[1]? = some (.int .i64 d) := rfl
@[go_sem] theorem spv_2 (p d : Int) (b1 b2 : Nat) : (spv p d b1 b2)[2]? = some (.func (.func 111) #[] #[.pointer (some ⟨b1, 0, none⟩), .pointer (some ⟨b2, 0, none⟩)]) := rfl
@[go_sem] theorem spv_0' (p d : Int) (b1 b2 : Nat) (h : 0 < (spv p d b1 b2).size) : (spv p d b1 b2)[0] = .int .i64 p := rfl
@[go_sem] theorem spv_1' (p d : Int) (b1 b2 : Nat) (h : 1 < (spv p d b1 b2).size) : (spv p d b1 b2)[1] = .int .i64 d := rfl
@[go_sem] theorem spv_2' (p d : Int) (b1 b2 : Nat) (h : 2 < (spv p d b1 b2).size) : (spv p d b1 b2)[2] = .func (.func 111) #[] #[.pointer (some ⟨b1, 0, none⟩), .pointer (some ⟨b2, 0, none⟩)] := rfl
@[go_sem] theorem spv_all (p d : Int) (b1 b2 : Nat) : (spv p d b1 b2).extract 0 3 = spv p d b1 b2 := by
  rw [show (3 : Nat) = (spv p d b1 b2).size from rfl]; simp
def spvZ : Array Value := #[.int .i64 0, .int .i64 0, .nilFunc]
@[go_sem] theorem spvZ_size : spvZ.size = 3 := rfl
@[go_sem ↓] theorem xbuildSpv (ρ : Operand → Value) (dst : Option Tmp) (a b c : Operand) (ty : TypeId) (pos : String) (after : Array Edge) (guard : Option (Nat × Bool)) (w : World) :
    (execOp ρ ⟨dst, .build 148 #[(0, a), (1, b), (2, c)], ty, pos, after, guard⟩).run Tryz.prog w = buildS Tryz.prog 148 #[(0, ρ a), (1, ρ b), (2, ρ c)] w := by kernel_rfl
@[go_sem] theorem buildSpv (p d : Int) (b1 b2 : Nat) (w : World) : buildS Tryz.prog 148 #[(0, .int .i64 p), (1, .int .i64 d), (2, .func (.func 111) #[] #[.pointer (some ⟨b1, 0, none⟩), .pointer (some ⟨b2, 0, none⟩)])] w = .ok (.value (.agg (spv p d b1 b2))) w := by
  refine build_struct (fields := fieldsOf Tryz.prog 148) (places := #[(0, 1), (1, 1), (2, 1)]) (zc := spvZ) (by kernel_rfl) (by kernel_rfl) (fun w => by kernel_rfl) ?_ w
  show Instr.fill _ _ [_, _, _] = _
  rw [fill_cell (off := 0) rfl rfl (by rw [spvZ_size]; omega), fill_cell (off := 1) rfl rfl (by simp [spvZ_size]), fill_cell (off := 2) rfl rfl (by simp [spvZ_size])]
  rfl

set_option maxRecDepth 100000 in
set_option maxHeartbeats 1000000 in
theorem rowI_any (F : Nat → Int) (w : World) (hF : Bytes 64 F) :
    Calls Tryz.prog 231 #[.agg (row 64 F)] w fun e w' => ∃ a c, e = .returned (.slice a 64 c) ∧ Below w.heap.size w w' ∧ BL w' w.heap.size w'.heap.size a (64) c (fun i _ => F i) := by
 have HF := Lib.hid hF; clear hF
 go_enter Tryz.func231, Tryz.ntmps231
 go_wp2_with fail
 refine atomC fun W1 e1 => ?_
 have hb1 : Below w.heap.size w W1 := by rw [e1]; exact bt
 have q1 := hb1.size
 clear e1
 refine (flatLinear_any F _ HF.out).mono ?_; rintro _ W2 ⟨aS_2, cS_2, rfl, hw2, hvS_2⟩
 have sz2 := hw2.size
 obtain ⟨hb2, q2⟩ := bN hb1 hw2
 clear hw2 hb1
 go_wp2_with fail
 go_ret
 exact ⟨aS_2, cS_2, rfl, bt, (hvS_2).wider (by omega) (by omega)⟩

set_option maxRecDepth 100000 in
set_option maxHeartbeats 1000000 in
theorem inv1_any (p : Int) (n d b1 b2 : Nat) (f F v : Nat → Int) (w : World) (hp : 0 < p) (hp' : p ≤ 255) (hn : n ≤ 8) (hd : d ≤ 8) (hf : Bytes 1104 f) (hF : Bytes 512 F) (hE : ∀ i, i < 8 → coF f i < p) (hv : Bytes 8 v) (hr1 : IsRow w b1) (hc1 : blk w b1 = hop p n f) (hr2 : IsRow w b2) (hc2 : blk w b2 = #[.iface 41 (.agg (mdl d F))]) :
    Calls Tryz.prog 111 #[.agg (row 8 v), .pointer (some ⟨b1, 0, none⟩), .pointer (some ⟨b2, 0, none⟩)] w fun e w' => e = .returned (.agg (row 64 (divK p d f F v n))) ∧ Below w.heap.size w w' := by
 have Hf := Lib.hid hf; clear hf
 have HF := Lib.hid hF; clear hF
 have HE := Lib.hid hE; clear hE
 have Hv := Lib.hid hv; clear hv
 have hbw1 := isRow_lt hr1
 have hbw2 := isRow_lt hr2
 go_enter Tryz.func111, Tryz.ntmps111
 go_wp2
 have nwh_w_0 : (b1) ≠ w.heap.size := by omega
 have nwh_w_1 : (b1) ≠ w.heap.size + 1 := by omega
 have nwh_w_2 : (b1) ≠ w.heap.size + 2 := by omega
 have nwm_w_0 : (b2) ≠ w.heap.size := by omega
 have nwm_w_1 : (b2) ≠ w.heap.size + 1 := by omega
 have nwm_w_2 : (b2) ≠ w.heap.size + 2 := by omega
 refine atomW fun W1 e1 => ?_
 have hb1 : Below w.heap.size w W1 := by rw [e1]; exact bt
 have q1 := hb1.size
 have R1 : IsRow W1 (b1) ∧ IsRow W1 (b2) ∧ IsRow W1 (w.heap.size) ∧ IsRow W1 (w.heap.size + 1) ∧ IsRow W1 (w.heap.size + 2) := by rw [e1]; simp [go_sem, hr1, hc1, hr2, hc2, nwh_w_0, nwh_w_1, nwh_w_2, nwm_w_0, nwm_w_1, nwm_w_2]
 obtain ⟨rh_1, rm_1, r3_1, r4_1, r5_1⟩ := R1
 have C1 := (⟨congrArg (blk · (b1)) e1, congrArg (blk · (b2)) e1, congrArg (blk · (w.heap.size)) e1, congrArg (blk · (w.heap.size + 1)) e1, congrArg (blk · (w.heap.size + 2)) e1⟩ : _ ∧ _ ∧ _ ∧ _ ∧ _); simp [go_sem, hr1, hc1, hr2, hc2, nwh_w_0, nwh_w_1, nwh_w_2, nwm_w_0, nwm_w_1, nwm_w_2] at C1
 obtain ⟨ch_1, cm_1, c3_1, c4_1, c5_1⟩ := C1
 have zh_1 := isRow_lt rh_1; have zm_1 := isRow_lt rm_1; have z3_1 := isRow_lt r3_1; have z4_1 := isRow_lt r4_1; have z5_1 := isRow_lt r5_1
 have nh_3 : (b1) ≠ (w.heap.size) := by omega
 have nh_4 : (b1) ≠ (w.heap.size + 1) := by omega
 have nh_5 : (b1) ≠ (w.heap.size + 2) := by omega
 have nm_3 : (b2) ≠ (w.heap.size) := by omega
 have nm_4 : (b2) ≠ (w.heap.size + 1) := by omega
 have nm_5 : (b2) ≠ (w.heap.size + 2) := by omega
 have n3_h : (w.heap.size) ≠ (b1) := by omega
 have n3_m : (w.heap.size) ≠ (b2) := by omega
 have n4_h : (w.heap.size + 1) ≠ (b1) := by omega
 have n4_m : (w.heap.size + 1) ≠ (b2) := by omega
 have n5_h : (w.heap.size + 2) ≠ (b1) := by omega
 have n5_m : (w.heap.size + 2) ≠ (b2) := by omega
 clear e1 nwh_w_0 nwh_w_1 nwh_w_2 nwm_w_0 nwm_w_1 nwm_w_2 hr1 hc1 hr2 hc2
 go_loopw [9] (fun s9 wr => ∃ i : Nat, i ≤ n ∧ s9 = .int .i64 i ∧ Below w.heap.size w wr ∧ (IsRow wr (b1) ∧ blk wr (b1) = blk W1 (b1)) ∧ (IsRow wr (b2) ∧ blk wr (b2) = blk W1 (b2)) ∧ (IsRow wr (w.heap.size) ∧ blk wr (w.heap.size) = blk W1 (w.heap.size)) ∧ (IsRow wr (w.heap.size + 1) ∧ blk wr (w.heap.size + 1) = blk W1 (w.heap.size + 1)) ∧ (IsRow wr (w.heap.size + 2) ∧ blk wr (w.heap.size + 2) = row 64 (divK p d f F v i))) (fun s9 _ => n - (intOf s9).toNat)
 case atStart => exact ⟨0, by omega, rfl, hb1, ⟨rh_1, rfl⟩, ⟨rm_1, rfl⟩, ⟨r3_1, rfl⟩, ⟨r4_1, rfl⟩, ⟨r5_1, c5_1.trans (div_zero p d f F v)⟩⟩
 case round =>
  obtain ⟨i, hle2, rfl, hb2, ⟨rh_2, ch_2⟩, ⟨rm_2, cm_2⟩, ⟨r3_2, c3_2⟩, ⟨r4_2, c4_2⟩, ⟨r5_2, c5_2⟩⟩ := hrel
  obtain ⟨W2, rfl⟩ : ∃ W2 : World, W2 = wr := ⟨_, rfl⟩
  have q2 := hb2.size
  have Eh_2 := Lib.hid ch_1; replace ch_2 := ch_2.trans ch_1
  have zh_2 := isRow_lt rh_2
  have Em_2 := Lib.hid cm_1; replace cm_2 := cm_2.trans cm_1
  have zm_2 := isRow_lt rm_2
  have E3_2 := Lib.hid c3_1; replace c3_2 := c3_2.trans c3_1
  have z3_2 := isRow_lt r3_2
  have E4_2 := Lib.hid c4_1; replace c4_2 := c4_2.trans c4_1
  have z4_2 := isRow_lt r4_2
  have z5_2 := isRow_lt r5_2
  clear rh_1 ch_1 zh_1 rm_1 cm_1 zm_1 r3_1 c3_1 z3_1 r4_1 c4_1 z4_1 r5_1 c5_1 z5_1 hb1
  by_cases hlt2 : i < n
  ·
   have i0_2 : (0 : Int) ≤ (i : Int) := by omega
   have i8_2 : (i : Int) < 8 := by omega
   have k8_2 : i < 8 := by omega
   have m8_2 : i * 8 + 8 ≤ 64 := by omega
   have m64_2 : i * 64 + 64 ≤ 512 := by omega
   have l1_2 : 10 + i * 64 + 64 ≤ 522 := by omega
   have A1 := Lib.hid (actT_bytes hp hp' d F (ebas i))
   have he0 : 0 ≤ coF f i := (Hf.out (520 + i) (by omega)).1
   have he1 := HE.out i (by omega)
   have bb1 := (emodI hp (-coF f i)).1
   have bb2 : -coF f i % p ≤ 255 := by have := (emodI hp (-coF f i)).2; omega
   have hq1 := hop_cq p n f i (by omega)
   have hq2 := fun h => hop_ce p n f i (by omega) h
   have HLy := Lib.hid (div_lay (p := p) (d := d) (f := f) (F := F) (v := v) (c := i) (by omega))
   have hly := HLy.out
   unfold apI at hly
   go_wp2
   refine wp_quiet_tail 12 (Below W2.heap.size W2) (by kernel_rfl) (by kernel_rfl) (Below.refl _ _).drew ?_
   simp only [List.take_succ_cons, List.take_zero, List.drop_succ_cons, List.drop_zero]
   iterate 7 (refine q_plain rfl ?_; apply Exists.intro; refine ⟨fun W hW => ?_, ?_⟩; (focus (obtain ⟨xh, yh⟩ := keepB hW zh_2 rh_2 ch_2; obtain ⟨xm, ym⟩ := keepB hW zm_2 rm_2 cm_2; obtain ⟨x3, y3⟩ := keepB hW z3_2 r3_2 c3_2; obtain ⟨x4, y4⟩ := keepB hW z4_2 r4_2 c4_2; obtain ⟨x5, y5⟩ := keepB hW z5_2 r5_2 c5_2; go_simp; first | done | rfl)); simp only [Act.put, List.setIfInBounds_toArray, List.set_cons_zero, List.set_cons_succ])
   (refine q_plain rfl ?_; apply Exists.intro; refine ⟨fun W hW => ?_, ?_⟩; (focus (obtain ⟨xh, yh⟩ := keepB hW zh_2 rh_2 ch_2; obtain ⟨xm, ym⟩ := keepB hW zm_2 rm_2 cm_2; obtain ⟨x3, y3⟩ := keepB hW z3_2 r3_2 c3_2; obtain ⟨x4, y4⟩ := keepB hW z4_2 r4_2 c4_2; obtain ⟨x5, y5⟩ := keepB hW z5_2 r5_2 c5_2; go_simp; (go_at_call 113; exact (basisAt i (by omega) _).mono fun e w2 ⟨he, hw2⟩ => ⟨he, hW.trans (hw2.mono hW.size)⟩))); simp only [Act.put, List.setIfInBounds_toArray, List.set_cons_zero, List.set_cons_succ])
   (refine q_plain rfl ?_; apply Exists.intro; refine ⟨fun W hW => ?_, ?_⟩; (focus (obtain ⟨xh, yh⟩ := keepB hW zh_2 rh_2 ch_2; obtain ⟨xm, ym⟩ := keepB hW zm_2 rm_2 cm_2; obtain ⟨x3, y3⟩ := keepB hW z3_2 r3_2 c3_2; obtain ⟨x4, y4⟩ := keepB hW z4_2 r4_2 c4_2; obtain ⟨x5, y5⟩ := keepB hW z5_2 r5_2 c5_2; go_simp; (go_at_call 112; exact (actTable_any p d F (ebas i) _ hp hp' hd HF.out (ebas_bytes i)).mono fun e w2 ⟨he, hw2⟩ => ⟨he, hW.trans (hw2.mono hW.size)⟩))); simp only [Act.put, List.setIfInBounds_toArray, List.set_cons_zero, List.set_cons_succ])
   iterate 1 (refine q_plain rfl ?_; apply Exists.intro; refine ⟨fun W hW => ?_, ?_⟩; (focus (obtain ⟨xh, yh⟩ := keepB hW zh_2 rh_2 ch_2; obtain ⟨xm, ym⟩ := keepB hW zm_2 rm_2 cm_2; obtain ⟨x3, y3⟩ := keepB hW z3_2 r3_2 c3_2; obtain ⟨x4, y4⟩ := keepB hW z4_2 r4_2 c4_2; obtain ⟨x5, y5⟩ := keepB hW z5_2 r5_2 c5_2; go_simp; first | done | rfl)); simp only [Act.put, List.setIfInBounds_toArray, List.set_cons_zero, List.set_cons_succ])
   (refine q_plain rfl ?_; apply Exists.intro; refine ⟨fun W hW => ?_, ?_⟩; (focus (obtain ⟨xh, yh⟩ := keepB hW zh_2 rh_2 ch_2; obtain ⟨xm, ym⟩ := keepB hW zm_2 rm_2 cm_2; obtain ⟨x3, y3⟩ := keepB hW z3_2 r3_2 c3_2; obtain ⟨x4, y4⟩ := keepB hW z4_2 r4_2 c4_2; obtain ⟨x5, y5⟩ := keepB hW z5_2 r5_2 c5_2; go_simp; (go_at_call 102; exact (applyLinear_any p (actT p d F (ebas i)) v _ hp hp' A1.out Hv.out).mono fun e w2 ⟨he, hw2⟩ => ⟨he, hW.trans (hw2.mono hW.size)⟩))); simp only [Act.put, List.setIfInBounds_toArray, List.set_cons_zero, List.set_cons_succ])
   iterate 1 (refine q_plain rfl ?_; apply Exists.intro; refine ⟨fun W hW => ?_, ?_⟩; (focus (obtain ⟨xh, yh⟩ := keepB hW zh_2 rh_2 ch_2; obtain ⟨xm, ym⟩ := keepB hW zm_2 rm_2 cm_2; obtain ⟨x3, y3⟩ := keepB hW z3_2 r3_2 c3_2; obtain ⟨x4, y4⟩ := keepB hW z4_2 r4_2 c4_2; obtain ⟨x5, y5⟩ := keepB hW z5_2 r5_2 c5_2; go_simp; first | done | rfl)); simp only [Act.put, List.setIfInBounds_toArray, List.set_cons_zero, List.set_cons_succ])
   refine wpQuiet_nil ?_
   intro W3 hw3
   obtain ⟨rh_3, ch_3, zh_3⟩ := keepZ hw3 zh_2 rh_2 ch_2
   obtain ⟨rm_3, cm_3, zm_3⟩ := keepZ hw3 zm_2 rm_2 cm_2
   obtain ⟨r3_3, c3_3, z3_3⟩ := keepZ hw3 z3_2 r3_2 c3_2
   obtain ⟨r4_3, c4_3, z4_3⟩ := keepZ hw3 z4_2 r4_2 c4_2
   obtain ⟨r5_3, c5_3, z5_3⟩ := keepZ hw3 z5_2 r5_2 c5_2
   obtain ⟨hb3, q3⟩ := bN hb2 hw3
   clear hw3 rh_2 ch_2 zh_2 rm_2 cm_2 zm_2 r3_2 c3_2 z3_2 r4_2 c4_2 z4_2 r5_2 c5_2 z5_2 hb2
   go_wp2
   refine atomW fun W4 e4 => ?_
   have hb4 : Below w.heap.size w W4 := by rw [e4]; exact bt
   have q4 := hb4.size
   have R4 : IsRow W4 (b1) ∧ IsRow W4 (b2) ∧ IsRow W4 (w.heap.size) ∧ IsRow W4 (w.heap.size + 1) ∧ IsRow W4 (w.heap.size + 2) := by rw [e4]; simp [go_sem, rh_3, ch_3, nh_3, nh_4, nh_5, rm_3, cm_3, nm_3, nm_4, nm_5, r3_3, c3_3, n3_h, n3_m, r4_3, c4_3, n4_h, n4_m, r5_3, c5_3, n5_h, n5_m]
   obtain ⟨rh_4, rm_4, r3_4, r4_4, r5_4⟩ := R4
   have C4 := (⟨congrArg (blk · (b1)) e4, congrArg (blk · (b2)) e4, congrArg (blk · (w.heap.size)) e4, congrArg (blk · (w.heap.size + 1)) e4, congrArg (blk · (w.heap.size + 2)) e4⟩ : _ ∧ _ ∧ _ ∧ _ ∧ _); simp [go_sem, rh_3, ch_3, nh_3, nh_4, nh_5, rm_3, cm_3, nm_3, nm_4, nm_5, r3_3, c3_3, n3_h, n3_m, r4_3, c4_3, n4_h, n4_m, r5_3, c5_3, n5_h, n5_m] at C4
   obtain ⟨ch_4, cm_4, c3_4, c4_4, c5_4⟩ := C4
   have zh_4 := isRow_lt rh_4; have zm_4 := isRow_lt rm_4; have z3_4 := isRow_lt r3_4; have z4_4 := isRow_lt r4_4; have z5_4 := isRow_lt r5_4
   clear e4 rh_3 ch_3 zh_3 rm_3 cm_3 zm_3 r3_3 c3_3 z3_3 r4_3 c4_3 z4_3 r5_3 c5_3 z5_3 hb3
   refine wp_quiet_tail 13 (Below W4.heap.size W4) (by kernel_rfl) (by kernel_rfl) (Below.refl _ _).drew ?_
   simp only [List.take_succ_cons, List.take_zero, List.drop_succ_cons, List.drop_zero]
   iterate 11 (refine q_plain rfl ?_; apply Exists.intro; refine ⟨fun W hW => ?_, ?_⟩; (focus (obtain ⟨xh, yh⟩ := keepB hW zh_4 rh_4 ch_4; obtain ⟨xm, ym⟩ := keepB hW zm_4 rm_4 cm_4; obtain ⟨x3, y3⟩ := keepB hW z3_4 r3_4 c3_4; obtain ⟨x4, y4⟩ := keepB hW z4_4 r4_4 c4_4; obtain ⟨x5, y5⟩ := keepB hW z5_4 r5_4 c5_4; go_simp; first | done | rfl)); simp only [Act.put, List.setIfInBounds_toArray, List.set_cons_zero, List.set_cons_succ])
   (refine q_plain rfl ?_; apply Exists.intro; refine ⟨fun W hW => ?_, ?_⟩; (focus (obtain ⟨xh, yh⟩ := keepB hW zh_4 rh_4 ch_4; obtain ⟨xm, ym⟩ := keepB hW zm_4 rm_4 cm_4; obtain ⟨x3, y3⟩ := keepB hW z3_4 r3_4 c3_4; obtain ⟨x4, y4⟩ := keepB hW z4_4 r4_4 c4_4; obtain ⟨x5, y5⟩ := keepB hW z5_4 r5_4 c5_4; go_simp; (go_at_call 115; exact (negativeNumber_any p (coF f i) _ hp hp' he0 he1).mono fun e w2 ⟨he, hw2⟩ => ⟨he, hw2 ▸ hW⟩))); simp only [Act.put, List.setIfInBounds_toArray, List.set_cons_zero, List.set_cons_succ])
   iterate 1 (refine q_plain rfl ?_; apply Exists.intro; refine ⟨fun W hW => ?_, ?_⟩; (focus (obtain ⟨xh, yh⟩ := keepB hW zh_4 rh_4 ch_4; obtain ⟨xm, ym⟩ := keepB hW zm_4 rm_4 cm_4; obtain ⟨x3, y3⟩ := keepB hW z3_4 r3_4 c3_4; obtain ⟨x4, y4⟩ := keepB hW z4_4 r4_4 c4_4; obtain ⟨x5, y5⟩ := keepB hW z5_4 r5_4 c5_4; go_simp; first | done | rfl)); simp only [Act.put, List.setIfInBounds_toArray, List.set_cons_zero, List.set_cons_succ])
   refine wpQuiet_nil ?_
   intro W5 hw5
   obtain ⟨rh_5, ch_5, zh_5⟩ := keepZ hw5 zh_4 rh_4 ch_4
   obtain ⟨rm_5, cm_5, zm_5⟩ := keepZ hw5 zm_4 rm_4 cm_4
   obtain ⟨r3_5, c3_5, z3_5⟩ := keepZ hw5 z3_4 r3_4 c3_4
   obtain ⟨r4_5, c4_5, z4_5⟩ := keepZ hw5 z4_4 r4_4 c4_4
   obtain ⟨r5_5, c5_5, z5_5⟩ := keepZ hw5 z5_4 r5_4 c5_4
   obtain ⟨hb5, q5⟩ := bN hb4 hw5
   clear hw5 rh_4 ch_4 zh_4 rm_4 cm_4 zm_4 r3_4 c3_4 z3_4 r4_4 c4_4 z4_4 r5_4 c5_4 z5_4 hb4
   go_wp2_with fail
   refine (addMultiple_any p _ _ (i * 8) 64 8 _ _ _ 0 (divM p d f F v i) v _ hp hp' bb1 bb2 r5_5 c5_5 (by omega) (by omega) (fun t _ _ => divM_range hp d f F v i t) (byte_at (N := 8) (off' := 0) c3_5 (by omega) (fun t _ => by rw [Nat.zero_add]) Hv.out) (by omega)).mono ?_; rintro _ _ ⟨rfl, rfl⟩
   go_wp2
   go_roundw
   case rel => exact ⟨i + 1, by omega, by go_num, bt, ⟨by simp [go_sem, rh_5, ch_5, nh_3, nh_4, nh_5, rm_5, cm_5, nm_3, nm_4, nm_5, r3_5, c3_5, n3_h, n3_m, r4_5, c4_5, n4_h, n4_m, r5_5, c5_5, n5_h, n5_m], (by rw [Eh_2.out]; first | exact ch_5 | (simp [go_sem, rh_5, ch_5, nh_3, nh_4, nh_5, rm_5, cm_5, nm_3, nm_4, nm_5, r3_5, c3_5, n3_h, n3_m, r4_5, c4_5, n4_h, n4_m, r5_5, c5_5, n5_h, n5_m]; done))⟩, ⟨by simp [go_sem, rh_5, ch_5, nh_3, nh_4, nh_5, rm_5, cm_5, nm_3, nm_4, nm_5, r3_5, c3_5, n3_h, n3_m, r4_5, c4_5, n4_h, n4_m, r5_5, c5_5, n5_h, n5_m], (by rw [Em_2.out]; first | exact cm_5 | (simp [go_sem, rh_5, ch_5, nh_3, nh_4, nh_5, rm_5, cm_5, nm_3, nm_4, nm_5, r3_5, c3_5, n3_h, n3_m, r4_5, c4_5, n4_h, n4_m, r5_5, c5_5, n5_h, n5_m]; done))⟩, ⟨by simp [go_sem, rh_5, ch_5, nh_3, nh_4, nh_5, rm_5, cm_5, nm_3, nm_4, nm_5, r3_5, c3_5, n3_h, n3_m, r4_5, c4_5, n4_h, n4_m, r5_5, c5_5, n5_h, n5_m], (by rw [E3_2.out]; first | exact c3_5 | (simp [go_sem, rh_5, ch_5, nh_3, nh_4, nh_5, rm_5, cm_5, nm_3, nm_4, nm_5, r3_5, c3_5, n3_h, n3_m, r4_5, c4_5, n4_h, n4_m, r5_5, c5_5, n5_h, n5_m]; done))⟩, ⟨by simp [go_sem, rh_5, ch_5, nh_3, nh_4, nh_5, rm_5, cm_5, nm_3, nm_4, nm_5, r3_5, c3_5, n3_h, n3_m, r4_5, c4_5, n4_h, n4_m, r5_5, c5_5, n5_h, n5_m], (by rw [E4_2.out]; first | exact c4_5 | (simp [go_sem, rh_5, ch_5, nh_3, nh_4, nh_5, rm_5, cm_5, nm_3, nm_4, nm_5, r3_5, c3_5, n3_h, n3_m, r4_5, c4_5, n4_h, n4_m, r5_5, c5_5, n5_h, n5_m]; done))⟩, ⟨by simp [go_sem, rh_5, ch_5, nh_3, nh_4, nh_5, rm_5, cm_5, nm_3, nm_4, nm_5, r3_5, c3_5, n3_h, n3_m, r4_5, c4_5, n4_h, n4_m, r5_5, c5_5, n5_h, n5_m], (by first | (rw [blk_setRow _ _ _ _ r5_5, if_pos rfl]; exact div_step (by omega)) | exact (c5_5).trans (div_step (by omega)) | (simp [go_sem, rh_5, ch_5, nh_3, nh_4, nh_5, rm_5, cm_5, nm_3, nm_4, nm_5, r3_5, c3_5, n3_h, n3_m, r4_5, c4_5, n4_h, n4_m, r5_5, c5_5, n5_h, n5_m]; exact div_step (by omega)))⟩⟩
   case measure => simp [intOf]; try omega
  ·
   obtain rfl : n = i := by omega
   go_wp2_with fail
   refine bodyPost_ret (result_cell rfl aggLin _ _ (row 64 (divK p d f F v n)) _ rfl ?_ ?_) rfl ⟨rfl, ?_⟩
   · simp [go_sem, rh_2, ch_2, nh_3, nh_4, nh_5, rm_2, cm_2, nm_3, nm_4, nm_5, r3_2, c3_2, n3_h, n3_m, r4_2, c4_2, n4_h, n4_m, r5_2, c5_2, n5_h, n5_m]
   · simp [go_sem, rh_2, ch_2, nh_3, nh_4, nh_5, rm_2, cm_2, nm_3, nm_4, nm_5, r3_2, c3_2, n3_h, n3_m, r4_2, c4_2, n4_h, n4_m, r5_2, c5_2, n5_h, n5_m]
   · exact bt

set_option maxRecDepth 100000 in
set_option maxHeartbeats 2000000 in
theorem reducedI_any (p : Int) (n d b1 b2 : Nat) (f F : Nat → Int) (w : World) (hp : 0 < p) (hp' : p ≤ 255) (hn : n ≤ 8) (hd : d ≤ 8) (hf : Bytes 1104 f) (hF : Bytes 512 F) (hE : ∀ i, i < 8 → coF f i < p) (hpr : prime31 p = true) (hd1 : 0 < d) (hS : ModS p n d F) (hR : ∀ i k j, i < 8 → k < 8 → d ≤ j → j < 8 → act F i k j = 0) (hr1 : IsRow w b1) (hc1 : blk w b1 = hop p n f) (hr2 : IsRow w b2) (hc2 : blk w b2 = #[.iface 41 (.agg (mdl d F))]) :
    Calls Tryz.prog 116 #[.agg (spv p d b1 b2)] w fun e w' => ∃ a c, e = .returned (.slice a (telN p (InS p n d f F)) c) ∧ Below w.heap.size w w' ∧ VL w' w.heap.size w'.heap.size a (telN p (InS p n d f F)) c (telG p (InS p n d f F)) := by
 have Hf := Lib.hid hf; clear hf
 have HF := Lib.hid hF; clear hF
 have HE := Lib.hid hE; clear hE
 have Hpr := Lib.hid hpr; clear hpr
 have HS := Lib.hid hS; clear hS
 have HR := Lib.hid hR; clear hR
 have hbw1 := isRow_lt hr1
 have hbw2 := isRow_lt hr2
 go_enter Tryz.func116, Tryz.ntmps116
 go_wp2
 have nwh_w_0 : (b1) ≠ w.heap.size := by omega
 have nwm_w_0 : (b2) ≠ w.heap.size := by omega
 refine atomW fun W1 e1 => ?_
 have hb1 : Below w.heap.size w W1 := by rw [e1]; exact bt
 have q1 := hb1.size
 have R1 : IsRow W1 (b1) ∧ IsRow W1 (b2) ∧ IsRow W1 (w.heap.size) := by rw [e1]; simp [go_sem, hr1, hc1, hr2, hc2, nwh_w_0, nwm_w_0]
 obtain ⟨rh_1, rm_1, r1_1⟩ := R1
 have C1 := (⟨congrArg (blk · (b1)) e1, congrArg (blk · (b2)) e1, congrArg (blk · (w.heap.size)) e1⟩ : _ ∧ _ ∧ _); simp [go_sem, hr1, hc1, hr2, hc2, nwh_w_0, nwm_w_0] at C1
 obtain ⟨ch_1, cm_1, c1_1⟩ := C1
 have zh_1 := isRow_lt rh_1; have zm_1 := isRow_lt rm_1; have z1_1 := isRow_lt r1_1
 have nh_1 : (b1) ≠ (w.heap.size) := by omega
 have nm_1 : (b2) ≠ (w.heap.size) := by omega
 have n1_h : (w.heap.size) ≠ (b1) := by omega
 have n1_m : (w.heap.size) ≠ (b2) := by omega
 clear e1 nwh_w_0 nwm_w_0 hr1 hc1 hr2 hc2
 have ltRhn2 : (b1) < W1.heap.size := zh_1
 have ltRmn2 : (b2) < W1.heap.size := zm_1
 have ltR1n2 : (w.heap.size) < W1.heap.size := z1_1
 go_loopw [3, 7] (fun s3 s7 wr => ∃ i : Nat, ∃ aR_2 : Option Addr, ∃ cR_2 : Nat, ∃ UR_2 : Nat, i ≤ d ∧ s3 = .slice aR_2 (i) cR_2 ∧ s7 = .int .i64 i ∧ Below w.heap.size w wr ∧ (IsRow wr (b1) ∧ blk wr (b1) = blk W1 (b1)) ∧ (IsRow wr (b2) ∧ blk wr (b2) = blk W1 (b2)) ∧ (IsRow wr (w.heap.size) ∧ blk wr (w.heap.size) = blk W1 (w.heap.size)) ∧ RL wr (W1.heap.size) (UR_2) (aR_2) (i) (cR_2) (64) ((fun i => divK p d f F (ebas i) n)) ∧ ((W1.heap.size) ≤ (UR_2) ∧ (UR_2) ≤ wr.heap.size)) (fun _ s7 _ => d - (intOf s7).toNat)
 case atStart => exact ⟨0, none, 0, W1.heap.size, by omega, rfl, rfl, hb1, ⟨rh_1, rfl⟩, ⟨rm_1, rfl⟩, ⟨r1_1, rfl⟩, RL.nil _ _ _ _, (by omega)⟩
 case round =>
  obtain ⟨i, aR_2, cR_2, UR_2, hle2, rfl, rfl, hb2, ⟨rh_2, ch_2⟩, ⟨rm_2, cm_2⟩, ⟨r1_2, c1_2⟩, hvR_2, hUR_2⟩ := hrel
  obtain ⟨W2, rfl⟩ : ∃ W2 : World, W2 = wr := ⟨_, rfl⟩
  have q2 := hb2.size
  have Eh_2 := Lib.hid ch_1; replace ch_2 := ch_2.trans ch_1
  have zh_2 := isRow_lt rh_2
  have Em_2 := Lib.hid cm_1; replace cm_2 := cm_2.trans cm_1
  have zm_2 := isRow_lt rm_2
  have E1_2 := Lib.hid c1_1; replace c1_2 := c1_2.trans c1_1
  have z1_2 := isRow_lt r1_2
  clear rh_1 ch_1 zh_1 rm_1 cm_1 zm_1 r1_1 c1_1 z1_1 hb1
  by_cases hlt2 : i < d
  ·
   have i0_2 : (0 : Int) ≤ (i : Int) := by omega
   have i8_2 : (i : Int) < 8 := by omega
   have k8_2 : i < 8 := by omega
   have m8_2 : i * 8 + 8 ≤ 64 := by omega
   have m64_2 : i * 64 + 64 ≤ 512 := by omega
   have l1_2 : 10 + i * 64 + 64 ≤ 522 := by omega
   go_wp2
   refine wp_quiet_tail_late 7 0 _ (Below W2.heap.size W2) (by kernel_rfl) rfl (by kernel_rfl) (by kernel_rfl) (fun c a w d v h => by cases d <;> exact h) (Below.refl _ _).drew ?_
   simp only [List.take_succ_cons, List.take_zero, List.drop_succ_cons, List.drop_zero]
   iterate 4 (refine q_plain rfl ?_; apply Exists.intro; refine ⟨fun W hW => ?_, ?_⟩; (focus (obtain ⟨xh, yh⟩ := keepB hW zh_2 rh_2 ch_2; obtain ⟨xm, ym⟩ := keepB hW zm_2 rm_2 cm_2; obtain ⟨x1, y1⟩ := keepB hW z1_2 r1_2 c1_2; go_simp; first | done | rfl)); simp only [Act.put, List.setIfInBounds_toArray, List.set_cons_zero, List.set_cons_succ])
   (refine q_plain rfl ?_; apply Exists.intro; refine ⟨fun W hW => ?_, ?_⟩; (focus (obtain ⟨xh, yh⟩ := keepB hW zh_2 rh_2 ch_2; obtain ⟨xm, ym⟩ := keepB hW zm_2 rm_2 cm_2; obtain ⟨x1, y1⟩ := keepB hW z1_2 r1_2 c1_2; go_simp; (go_at_call 113; exact (basisAt i (by omega) _).mono fun e w2 ⟨he, hw2⟩ => ⟨he, hW.trans (hw2.mono hW.size)⟩))); simp only [Act.put, List.setIfInBounds_toArray, List.set_cons_zero, List.set_cons_succ])
   (refine q_plain rfl ?_; apply Exists.intro; refine ⟨fun W hW => ?_, ?_⟩; (focus (obtain ⟨xh, yh⟩ := keepB hW zh_2 rh_2 ch_2; obtain ⟨xm, ym⟩ := keepB hW zm_2 rm_2 cm_2; obtain ⟨x1, y1⟩ := keepB hW z1_2 r1_2 c1_2; go_simp; (go_at_call 111; exact (inv1_any p n d b1 b2 f F (ebas i) _ hp hp' hn hd Hf.out HF.out HE.out (ebas_bytes i) xh yh xm ym).mono fun e w2 ⟨he, hw2⟩ => ⟨he, hW.trans (hw2.mono hW.size)⟩))); simp only [Act.put, List.setIfInBounds_toArray, List.set_cons_zero, List.set_cons_succ])
   iterate 1 (refine q_plain rfl ?_; apply Exists.intro; refine ⟨fun W hW => ?_, ?_⟩; (focus (obtain ⟨xh, yh⟩ := keepB hW zh_2 rh_2 ch_2; obtain ⟨xm, ym⟩ := keepB hW zm_2 rm_2 cm_2; obtain ⟨x1, y1⟩ := keepB hW z1_2 r1_2 c1_2; go_simp; first | done | rfl)); simp only [Act.put, List.setIfInBounds_toArray, List.set_cons_zero, List.set_cons_succ])
   refine wpQuiet_nil ?_
   intro W3 hw3
   obtain ⟨rh_3, ch_3, zh_3⟩ := keepZ hw3 zh_2 rh_2 ch_2
   obtain ⟨rm_3, cm_3, zm_3⟩ := keepZ hw3 zm_2 rm_2 cm_2
   obtain ⟨r1_3, c1_3, z1_3⟩ := keepZ hw3 z1_2 r1_2 c1_2
   obtain ⟨hb3, q3⟩ := bN hb2 hw3
   have sz3 := hw3.size
   have hvR_3 := hvR_2.below hw3 (by omega)
   clear hw3 hvR_2 rh_2 ch_2 zh_2 rm_2 cm_2 zm_2 r1_2 c1_2 z1_2 hb2
   go_wp2_with fail
   have ltBhn4 : (b1) < W3.heap.size := zh_3
   have ltBmn4 : (b2) < W3.heap.size := zm_3
   have ltB1n4 : (w.heap.size) < W3.heap.size := z1_3
   refine (rowI_any (divK p d f F (ebas i) n) _ (lt_bytes hp' fun t _ => divK_range hp _ _ _ _ _ t)).mono ?_; rintro _ W4 ⟨aB_4, cB_4, rfl, hw4, hvB_4⟩
   obtain ⟨rh_4, ch_4, zh_4⟩ := keepZ hw4 zh_3 rh_3 ch_3
   obtain ⟨rm_4, cm_4, zm_4⟩ := keepZ hw4 zm_3 rm_3 cm_3
   obtain ⟨r1_4, c1_4, z1_4⟩ := keepZ hw4 z1_3 r1_3 c1_3
   obtain ⟨hb4, q4⟩ := bN hb3 hw4
   have sz4 := hw4.size
   have hvR_4 := hvR_3.below hw4 (by omega)
   clear hw4 hvR_3 rh_3 ch_3 zh_3 rm_3 cm_3 zm_3 r1_3 c1_3 z1_3 hb3
   obtain ⟨gB_5, FB_5, eaB_5, gBB_5, gUB_5, rBx_5, hcB_5, hmB_5, cBx_5, hFbB_5, hFB_5⟩ := hvB_4.some (by omega)
   subst eaB_5
   have HFB_5 := Lib.hid hFB_5; clear hFB_5
   have HBB_5 := Lib.hid hFbB_5; clear hFbB_5
   have zBx_5 := isRow_lt rBx_5
   have nh_Bx : (b1) ≠ (gB_5) := by omega
   have nm_Bx : (b2) ≠ (gB_5) := by omega
   have n1_Bx : (w.heap.size) ≠ (gB_5) := by omega
   have nBx_h : (gB_5) ≠ (b1) := by omega
   have nBx_m : (gB_5) ≠ (b2) := by omega
   have nBx_1 : (gB_5) ≠ (w.heap.size) := by omega
   go_wp2_with (at_builtin; refine atomL ?_)
   have nwh_W4_0 : (b1) ≠ W4.heap.size := by omega
   have nwm_W4_0 : (b2) ≠ W4.heap.size := by omega
   have nw1_W4_0 : (w.heap.size) ≠ W4.heap.size := by omega
   have nwBx_W4_0 : (gB_5) ≠ W4.heap.size := by omega
   intro W6 e6
   have hb6 : Below w.heap.size w W6 := by rw [e6]; exact bt
   have q6 := hb6.size
   have R6 : IsRow W6 (b1) ∧ IsRow W6 (b2) ∧ IsRow W6 (w.heap.size) ∧ IsRow W6 (gB_5) ∧ IsRow W6 (W4.heap.size) := by rw [e6]; simp [go_sem, rh_4, ch_4, nh_1, nh_Bx, rm_4, cm_4, nm_1, nm_Bx, r1_4, c1_4, n1_h, n1_m, n1_Bx, rBx_5, cBx_5, nBx_h, nBx_m, nBx_1, nwh_W4_0, nwm_W4_0, nw1_W4_0, nwBx_W4_0]
   obtain ⟨rh_6, rm_6, r1_6, rBx_6, r18_6⟩ := R6
   have C6 := (⟨congrArg (blk · (b1)) e6, congrArg (blk · (b2)) e6, congrArg (blk · (w.heap.size)) e6, congrArg (blk · (gB_5)) e6, congrArg (blk · (W4.heap.size)) e6⟩ : _ ∧ _ ∧ _ ∧ _ ∧ _); simp [go_sem, rh_4, ch_4, nh_1, nh_Bx, rm_4, cm_4, nm_1, nm_Bx, r1_4, c1_4, n1_h, n1_m, n1_Bx, rBx_5, cBx_5, nBx_h, nBx_m, nBx_1, nwh_W4_0, nwm_W4_0, nw1_W4_0, nwBx_W4_0] at C6
   obtain ⟨ch_6, cm_6, c1_6, cBx_6, c18_6⟩ := C6
   have zh_6 := isRow_lt rh_6; have zm_6 := isRow_lt rm_6; have z1_6 := isRow_lt r1_6; have zBx_6 := isRow_lt rBx_6; have z18_6 := isRow_lt r18_6
   have nh_18 : (b1) ≠ (W4.heap.size) := by omega
   have nm_18 : (b2) ≠ (W4.heap.size) := by omega
   have n1_18 : (w.heap.size) ≠ (W4.heap.size) := by omega
   have nBx_18 : (gB_5) ≠ (W4.heap.size) := by omega
   have n18_h : (W4.heap.size) ≠ (b1) := by omega
   have n18_m : (W4.heap.size) ≠ (b2) := by omega
   have n18_1 : (W4.heap.size) ≠ (w.heap.size) := by omega
   have n18_Bx : (W4.heap.size) ≠ (gB_5) := by omega
   have hvR_6 : RL W6 (W1.heap.size) (UR_2) (aR_2) (i) (cR_2) (64) ((fun i => divK p d f F (ebas i) n)) := by rw [e6]; exact vtR
   clear e6 nwh_W4_0 nwm_W4_0 nw1_W4_0 nwBx_W4_0 rh_4 ch_4 zh_4 rm_4 cm_4 zm_4 r1_4 c1_4 z1_4 rBx_5 cBx_5 zBx_5 hvR_4 hb4
   refine appendR _ rfl _ _ rfl hvR_6 (by omega) (by omega) rfl _ _ (FB_5) rfl c18_6 ⟨⟨by omega, rBx_6, cBx_6, HBB_5.out, hcB_5⟩, by omega⟩ ?_
   intro aR_7 cR_7 W7 hg7 ha7 hvR_7
   obtain ⟨rh_7, ch_7⟩ := keepG hg7 (hvR_6.ne (by omega)) rh_6 ch_6
   have zh_7 := isRow_lt rh_7
   obtain ⟨rm_7, cm_7⟩ := keepG hg7 (hvR_6.ne (by omega)) rm_6 cm_6
   have zm_7 := isRow_lt rm_7
   obtain ⟨r1_7, c1_7⟩ := keepG hg7 (hvR_6.ne (by omega)) r1_6 c1_6
   have z1_7 := isRow_lt r1_7
   obtain ⟨rBx_7, cBx_7⟩ := keepG hg7 (hvR_6.ne (by omega)) rBx_6 cBx_6
   have zBx_7 := isRow_lt rBx_7
   have hb7 := below_ownR hb6 hvR_6 hg7 (by omega) (by omega)
   have q7 := hb7.size
   have sz7 := hg7.size
   clear hg7 ha7 rh_6 ch_6 zh_6 rm_6 cm_6 zm_6 r1_6 c1_6 z1_6 rBx_6 cBx_6 zBx_6 hvR_6 hb6
   go_wp2
   go_roundw
   case rel => exact ⟨i + 1, (aR_7), (cR_7), (W7.heap.size), by omega, (by first | rfl | go_num | (simp; done)), by go_num, bt, ⟨by simp [go_sem, rh_7, ch_7, nh_1, nh_Bx, rm_7, cm_7, nm_1, nm_Bx, r1_7, c1_7, n1_h, n1_m, n1_Bx, rBx_7, cBx_7, nBx_h, nBx_m, nBx_1], (by rw [Eh_2.out]; first | exact ch_7 | (simp [go_sem, rh_7, ch_7, nh_1, nh_Bx, rm_7, cm_7, nm_1, nm_Bx, r1_7, c1_7, n1_h, n1_m, n1_Bx, rBx_7, cBx_7, nBx_h, nBx_m, nBx_1]; done))⟩, ⟨by simp [go_sem, rh_7, ch_7, nh_1, nh_Bx, rm_7, cm_7, nm_1, nm_Bx, r1_7, c1_7, n1_h, n1_m, n1_Bx, rBx_7, cBx_7, nBx_h, nBx_m, nBx_1], (by rw [Em_2.out]; first | exact cm_7 | (simp [go_sem, rh_7, ch_7, nh_1, nh_Bx, rm_7, cm_7, nm_1, nm_Bx, r1_7, c1_7, n1_h, n1_m, n1_Bx, rBx_7, cBx_7, nBx_h, nBx_m, nBx_1]; done))⟩, ⟨by simp [go_sem, rh_7, ch_7, nh_1, nh_Bx, rm_7, cm_7, nm_1, nm_Bx, r1_7, c1_7, n1_h, n1_m, n1_Bx, rBx_7, cBx_7, nBx_h, nBx_m, nBx_1], (by rw [E1_2.out]; first | exact c1_7 | (simp [go_sem, rh_7, ch_7, nh_1, nh_Bx, rm_7, cm_7, nm_1, nm_Bx, r1_7, c1_7, n1_h, n1_m, n1_Bx, rBx_7, cBx_7, nBx_h, nBx_m, nBx_1]; done))⟩, (hvR_7).same rfl rfl (addV_row fun t ht => HFB_5.out t ht 0 (by omega)), bu⟩
   case measure => simp [intOf]; try omega
  ·
   obtain rfl : d = i := by omega
   go_wp2_with fail
   have ltKhn8 : (b1) < W2.heap.size := zh_2
   have ltKmn8 : (b2) < W2.heap.size := zm_2
   refine (kernelOf_to p _ _ _ d _ 64 (fun i => divK p d f F (ebas i) n) (InS p n d f F) _ hp hp' Hpr.out hd1 hd (by omega) (by omega) (by omega) (fun i _ t _ => divK_range hp _ _ _ _ _ t) hvR_2 (inv_ker hn hd HS.out HR.out)).mono ?_; rintro _ W8 ⟨aK_8, cK_8, rfl, hw8, hvK_8⟩
   obtain ⟨rh_8, ch_8, zh_8⟩ := keepZ hw8 zh_2 rh_2 ch_2
   obtain ⟨rm_8, cm_8, zm_8⟩ := keepZ hw8 zm_2 rm_2 cm_2
   obtain ⟨hb8, q8⟩ := bN hb2 hw8
   have sz8 := hw8.size
   have hvR_8 := hvR_2.below hw8 (by omega)
   clear hw8 hvR_2 rh_2 ch_2 zh_2 rm_2 cm_2 zm_2 hb2
   go_wp2_with fail
   go_ret
   exact ⟨aK_8, cK_8, rfl, bt, (hvK_8).wider (by omega) (by omega)⟩

set_option maxRecDepth 100000 in
set_option maxHeartbeats 1000000 in
theorem invariants_any (p : Int) (n d : Nat) (f F : Nat → Int) (w : World) (hp : 0 < p) (hp' : p ≤ 255) (hn : n ≤ 8) (hd : d ≤ 8) (hf : Bytes 1104 f) (hF : Bytes 512 F) (hE : ∀ i, i < 8 → coF f i < p) (hpr : prime31 p = true) (hd1 : 0 < d) (hS : ModS p n d F) (hR : ∀ i k j, i < 8 → k < 8 → d ≤ j → j < 8 → act F i k j = 0) :
    Calls Tryz.prog 67 #[.agg (hop p n f), .iface 41 (.agg (mdl d F))] w fun e w' => ∃ a c, e = .returned (.slice a (telN p (InS p n d f F)) c) ∧ Below w.heap.size w w' ∧ VL w' w.heap.size w'.heap.size a (telN p (InS p n d f F)) c (telG p (InS p n d f F)) := by
 have Hf := Lib.hid hf; clear hf
 have HF := Lib.hid hF; clear hF
 have HE := Lib.hid hE; clear hE
 have Hpr := Lib.hid hpr; clear hpr
 have HS := Lib.hid hS; clear hS
 have HR := Lib.hid hR; clear hR
 go_enter Tryz.func67, Tryz.ntmps67
 go_wp2
 refine atomW fun W1 e1 => ?_
 have hb1 : Below w.heap.size w W1 := by rw [e1]; exact bt
 have q1 := hb1.size
 have R1 : IsRow W1 (w.heap.size) ∧ IsRow W1 (w.heap.size + 1) := by rw [e1]; simp [go_sem]
 obtain ⟨r2_1, r3_1⟩ := R1
 have C1 := (⟨congrArg (blk · (w.heap.size)) e1, congrArg (blk · (w.heap.size + 1)) e1⟩ : _ ∧ _); simp [go_sem] at C1
 obtain ⟨c2_1, c3_1⟩ := C1
 have z2_1 := isRow_lt r2_1; have z3_1 := isRow_lt r3_1
 clear e1
 refine wp_quiet_tail 6 (Below W1.heap.size W1) (by kernel_rfl) (by kernel_rfl) (Below.refl _ _).drew ?_
 simp only [List.take_succ_cons, List.take_zero, List.drop_succ_cons, List.drop_zero]
 iterate 3 (refine q_plain rfl ?_; apply Exists.intro; refine ⟨fun W hW => ?_, ?_⟩; (focus (obtain ⟨x2, y2⟩ := keepB hW z2_1 r2_1 c2_1; obtain ⟨x3, y3⟩ := keepB hW z3_1 r3_1 c3_1; go_simp; first | done | rfl)); simp only [Act.put, List.setIfInBounds_toArray, List.set_cons_zero, List.set_cons_succ])
 (refine q_plain rfl ?_; apply Exists.intro; refine ⟨fun W hW => ?_, ?_⟩; (focus (obtain ⟨x2, y2⟩ := keepB hW z2_1 r2_1 c2_1; obtain ⟨x3, y3⟩ := keepB hW z3_1 r3_1 c3_1; go_simp; (go_at_call 232; exact (mdim_any d F _).mono fun e w2 ⟨he, hw2⟩ => ⟨he, hW.trans (hw2.mono hW.size)⟩))); simp only [Act.put, List.setIfInBounds_toArray, List.set_cons_zero, List.set_cons_succ])
 iterate 2 (refine q_plain rfl ?_; apply Exists.intro; refine ⟨fun W hW => ?_, ?_⟩; (focus (obtain ⟨x2, y2⟩ := keepB hW z2_1 r2_1 c2_1; obtain ⟨x3, y3⟩ := keepB hW z3_1 r3_1 c3_1; go_simp; first | done | rfl)); simp only [Act.put, List.setIfInBounds_toArray, List.set_cons_zero, List.set_cons_succ])
 refine wpQuiet_nil ?_
 intro W2 hw2
 obtain ⟨r2_2, c2_2, z2_2⟩ := keepZ hw2 z2_1 r2_1 c2_1
 obtain ⟨r3_2, c3_2, z3_2⟩ := keepZ hw2 z3_1 r3_1 c3_1
 obtain ⟨hb2, q2⟩ := bN hb1 hw2
 clear hw2 r2_1 c2_1 z2_1 r3_1 c3_1 z3_1 hb1
 go_wp2_with fail
 have ltK2n3 : (w.heap.size) < W2.heap.size := z2_2
 have ltK3n3 : (w.heap.size + 1) < W2.heap.size := z3_2
 refine (reducedI_any p n d _ _ f F _ hp hp' hn hd Hf.out HF.out HE.out Hpr.out hd1 HS.out HR.out r2_2 c2_2 r3_2 c3_2).mono ?_; rintro _ W3 ⟨aK_3, cK_3, rfl, hw3, hvK_3⟩
 have sz3 := hw3.size
 obtain ⟨r2_3, c2_3, z2_3⟩ := keepZ hw3 z2_2 r2_2 c2_2
 obtain ⟨r3_3, c3_3, z3_3⟩ := keepZ hw3 z3_2 r3_2 c3_2
 obtain ⟨hb3, q3⟩ := bN hb2 hw3
 clear hw3 r2_2 c2_2 z2_2 r3_2 c3_2 z3_2 hb2
 go_wp2_with fail
 go_ret
 exact ⟨aK_3, cK_3, rfl, bt, (hvK_3).wider (by omega) (by omega)⟩

set_option maxRecDepth 100000 in
set_option maxHeartbeats 1000000 in
theorem ofModule_inv (p n : Int) (f : Nat → Int) (d : Int) (F : Nat → Int) (w : World) (hf : Bytes 1104 f) (hF : Bytes 512 F) :
    Calls Tryz.prog 66 #[.agg (hop p n f), .agg (mdl d F), .func (.func 67) #[] #[]] w fun e w' => ∃ a c, e = .returned (.tuple #[.slice a (inN p n f d F) c, .int .i64 (codeB (hm1 p n f d F))]) ∧ Below w.heap.size w w' ∧ VL w' w.heap.size w'.heap.size a (inN p n f d F) c (inG p n f d F) := by
 have Hf := Lib.hid hf; clear hf
 have HF := Lib.hid hF; clear hF
 cases hc : hm1 p n f d F
 ·
  have HN := Lib.hid (in_no hc)
  go_enter Tryz.func66, Tryz.ntmps66
  go_wp2_with fail
  refine atomC fun W1 e1 => ?_
  have hb1 : Below w.heap.size w W1 := by rw [e1]; exact bt
  have q1 := hb1.size
  have R1 : IsRow W1 (w.heap.size) ∧ IsRow W1 (w.heap.size + 1) ∧ IsRow W1 (w.heap.size + 2) := by rw [e1]; simp [go_sem]
  obtain ⟨r3_1, r4_1, r11_1⟩ := R1
  have C1 := (⟨congrArg (blk · (w.heap.size)) e1, congrArg (blk · (w.heap.size + 1)) e1, congrArg (blk · (w.heap.size + 2)) e1⟩ : _ ∧ _ ∧ _); simp [go_sem] at C1
  obtain ⟨c3_1, c4_1, c11_1⟩ := C1
  have z3_1 := isRow_lt r3_1; have z4_1 := isRow_lt r4_1; have z11_1 := isRow_lt r11_1
  clear e1
  refine (areMod1 p n f d F _ _ Hf.out HF.out r11_1 c11_1).mono ?_; rintro _ W2 ⟨rfl, hw2⟩
  obtain ⟨r3_2, c3_2, z3_2⟩ := keepZ hw2 z3_1 r3_1 c3_1
  obtain ⟨r4_2, c4_2, z4_2⟩ := keepZ hw2 z4_1 r4_1 c4_1
  obtain ⟨r11_2, c11_2, z11_2⟩ := keepZ hw2 z11_1 r11_1 c11_1
  obtain ⟨hb2, q2⟩ := bN hb1 hw2
  clear hw2 r3_1 c3_1 z3_1 r4_1 c4_1 z4_1 r11_1 c11_1 z11_1 hb1
  go_wp2_with fail
  go_ret2
  exact ⟨none, 0, by rw [HN.out]; rfl, bt, VL.nilOf (HN.out)⟩
 ·
  have hh := (hm1_parts hc).1
  have hmm := (hm1_parts hc).2
  obtain ⟨hp2, hp31, hn1, hn8⟩ := sizes_range (hopf_sizes hh)
  obtain ⟨n, rfl⟩ := Int.eq_ofNat_of_zero_le (show 0 ≤ n by omega)
  have hp : 0 < p := by omega
  have hp' : p ≤ 255 := by omega
  have hn : n ≤ 8 := by omega
  have HH := Lib.hid hh
  rw [Int.toNat_natCast] at hmm
  obtain ⟨_, _, hd1, hd8⟩ := sizes_range (modB_sizes (hopf_sizes hh) hmm)
  obtain ⟨d, rfl⟩ := Int.eq_ofNat_of_zero_le (show 0 ≤ d by omega)
  have hd : d ≤ 8 := by omega
  have HS := Lib.hid (modB_shape HF.out hmm)
  clear hmm hh
  have hmm2 := (hm1_parts hc).2
  rw [Int.toNat_natCast] at hmm2
  have HR : Hid (∀ i k j, i < 8 → k < 8 → d ≤ j → j < 8 → act F i k j = 0) := Lib.hid fun i k j hi hk h0 hj => mod_right hmm2 hi hk h0 hj
  clear hmm2
  have Hpr : Hid (prime31 p = true) := Lib.hid (by have hsz := hopf_sizes HH.out; unfold sizesB at hsz; simp only [Bool.and_eq_true] at hsz; exact hsz.1)
  have HE : Hid (∀ i, i < 8 → coF f i < p) := Lib.hid fun i hi => (hopf_cof HH.out Hf.out hi).2
  have hy2 := in_yes hc
  simp only [Int.toNat_natCast] at hy2
  have HY := Lib.hid hy2; clear hy2
  go_enter Tryz.func66, Tryz.ntmps66
  go_wp2_with fail
  refine atomC fun W3 e3 => ?_
  have hb3 : Below w.heap.size w W3 := by rw [e3]; exact bt
  have q3 := hb3.size
  have R3 : IsRow W3 (w.heap.size) ∧ IsRow W3 (w.heap.size + 1) ∧ IsRow W3 (w.heap.size + 2) := by rw [e3]; simp [go_sem]
  obtain ⟨r3_3, r4_3, r11_3⟩ := R3
  have C3 := (⟨congrArg (blk · (w.heap.size)) e3, congrArg (blk · (w.heap.size + 1)) e3, congrArg (blk · (w.heap.size + 2)) e3⟩ : _ ∧ _ ∧ _); simp [go_sem] at C3
  obtain ⟨c3_3, c4_3, c11_3⟩ := C3
  have z3_3 := isRow_lt r3_3; have z4_3 := isRow_lt r4_3; have z11_3 := isRow_lt r11_3
  clear e3
  refine (areMod1 p n f d F _ _ Hf.out HF.out r11_3 c11_3).mono ?_; rintro _ W4 ⟨rfl, hw4⟩
  obtain ⟨r3_4, c3_4, z3_4⟩ := keepZ hw4 z3_3 r3_3 c3_3
  obtain ⟨r4_4, c4_4, z4_4⟩ := keepZ hw4 z4_3 r4_3 c4_3
  obtain ⟨r11_4, c11_4, z11_4⟩ := keepZ hw4 z11_3 r11_3 c11_3
  obtain ⟨hb4, q4⟩ := bN hb3 hw4
  clear hw4 r3_3 c3_3 z3_3 r4_3 c4_3 z4_3 r11_3 c11_3 z11_3 hb3
  go_wp2_with fail
  refine (invariants_any p n d f F _ hp hp' hn hd Hf.out HF.out HE.out Hpr.out (by omega) HS.out HR.out).mono ?_; rintro _ W5 ⟨aK_5, cK_5, rfl, hw5, hvK_5⟩
  have sz5 := hw5.size
  obtain ⟨hb5, q5⟩ := bN hb4 hw5
  clear hw5 hb4
  go_wp2_with fail
  go_ret2
  exact ⟨aK_5, cK_5, by rw [HY.out]; rfl, bt, ((hvK_5).same HY.out.symm fun _ _ _ _ => rfl).wider (by omega) (by omega)⟩

set_option maxRecDepth 100000 in
set_option maxHeartbeats 1000000 in
theorem invariantsOf_any (p n : Int) (f : Nat → Int) (d : Int) (F : Nat → Int) (w : World) (hf : Bytes 1104 f) (hF : Bytes 512 F) :
    Calls Tryz.prog 26 #[.agg (hop p n f), .agg (mdl d F)] w fun e w' => ∃ a c, e = .returned (.tuple #[.slice a (inN p n f d F) c, .int .i64 (codeB (hm1 p n f d F))]) ∧ Below w.heap.size w w' ∧ VL w' w.heap.size w'.heap.size a (inN p n f d F) c (inG p n f d F) := by
 have Hf := Lib.hid hf; clear hf
 have HF := Lib.hid hF; clear hF
 go_enter Tryz.func26, Tryz.ntmps26
 go_wp2_with fail
 refine atomC fun W1 e1 => ?_
 have hb1 : Below w.heap.size w W1 := by rw [e1]; exact bt
 have q1 := hb1.size
 clear e1
 refine (ofModule_inv _ _ _ _ _ _ Hf.out HF.out).mono ?_; rintro _ W2 ⟨aK_2, cK_2, rfl, hw2, hvK_2⟩
 have sz2 := hw2.size
 obtain ⟨hb2, q2⟩ := bN hb1 hw2
 clear hw2 hb1
 go_wp2_with fail
 go_ret2
 exact ⟨aK_2, cK_2, rfl, bt, (hvK_2).wider (by omega) (by omega)⟩

set_option maxRecDepth 100000 in
set_option maxHeartbeats 4000000 in
theorem l06Invariants_any (p : Int) (n d : Nat) (f F : Nat → Int) (w : World) (hp : 0 < p) (hp' : p ≤ 255) (hn : n ≤ 8) (hd : d ≤ 8) (hf : Bytes 1104 f) (hF : Bytes 512 F) (hE : ∀ i, i < 8 → coF f i < p) (hpr : prime31 p = true) :
    Calls Tryz.prog 65 #[.agg (hop p n f), .agg (mdl d F)] w fun e w' => ∃ a c, e = .returned (.slice a (telN p (InS p n d f F)) c) ∧ Below w.heap.size w w' ∧ VL w' w.heap.size w'.heap.size a (telN p (InS p n d f F)) c (telG p (InS p n d f F)) := by
 have Hf := Lib.hid hf; clear hf
 have HF := Lib.hid hF; clear hF
 have HE := Lib.hid hE; clear hE
 have Hpr := Lib.hid hpr; clear hpr
 go_enter Tryz.func65, Tryz.ntmps65
 go_wp2
 refine atomW fun W1 e1 => ?_
 have hb1 : Below w.heap.size w W1 := by rw [e1]; exact bt
 have q1 := hb1.size
 have R1 : IsRow W1 (w.heap.size) ∧ IsRow W1 (w.heap.size + 1) ∧ IsRow W1 (w.heap.size + 2) := by rw [e1]; simp [go_sem]
 obtain ⟨r2_1, r3_1, r11_1⟩ := R1
 have C1 := (⟨congrArg (blk · (w.heap.size)) e1, congrArg (blk · (w.heap.size + 1)) e1, congrArg (blk · (w.heap.size + 2)) e1⟩ : _ ∧ _ ∧ _); simp [go_sem] at C1
 obtain ⟨c2_1, c3_1, c11_1⟩ := C1
 have z2_1 := isRow_lt r2_1; have z3_1 := isRow_lt r3_1; have z11_1 := isRow_lt r11_1
 have lt72n1 : (w.heap.size) < (w.heap.size + 2) := by omega
 have lt73n1 : (w.heap.size + 1) < (w.heap.size + 2) := by omega
 have hv7_1 := VL.empty (U := W1.heap.size) (Nat.le_refl _) z11_1 r11_1 c11_1 fun _ _ => 0
 have sz7_1 := z11_1
 clear e1
 go_loopw [5, 6] (fun s5 s6 wr => ∃ i : Nat, ∃ a7_2 : Option Addr, ∃ c7_2 : Nat, ∃ U7_2 : Nat, ∃ m7_2 : Nat, ∃ f7_2 : Nat → Nat → Int, i ≤ n ∧ s5 = .slice a7_2 (m7_2) c7_2 ∧ s6 = .int .i64 i ∧ Below w.heap.size w wr ∧ (IsRow wr (w.heap.size) ∧ blk wr (w.heap.size) = blk W1 (w.heap.size)) ∧ (IsRow wr (w.heap.size + 1) ∧ blk wr (w.heap.size + 1) = blk W1 (w.heap.size + 1)) ∧ VL wr (w.heap.size + 2) (U7_2) (a7_2) (m7_2) (c7_2) (f7_2) ∧ ((w.heap.size + 2) ≤ (U7_2) ∧ (U7_2) ≤ wr.heap.size) ∧ PriInv p d (invA p d f F) i 0 (m7_2) (f7_2)) (fun _ s6 _ => n - (intOf s6).toNat)
 case atStart => exact ⟨0, some ⟨w.heap.size + 2, 0, none⟩, 0, W1.heap.size, 0, fun _ _ => 0, by omega, (by first | rfl | (simp; done) | go_num), rfl, hb1, ⟨r2_1, rfl⟩, ⟨r3_1, rfl⟩, hv7_1, (by omega), pri_start _ _ _ _⟩
 case round =>
  obtain ⟨i, a7_2, c7_2, U7_2, m7_2, f7_2, hle2, rfl, rfl, hb2, ⟨r2_2, c2_2⟩, ⟨r3_2, c3_2⟩, hv7_2, hU7_2, hx2⟩ := hrel
  obtain ⟨W2, rfl⟩ : ∃ W2 : World, W2 = wr := ⟨_, rfl⟩
  have q2 := hb2.size
  have HX2 := Lib.hid hx2; clear hx2
  have E2_2 := Lib.hid c2_1; replace c2_2 := c2_2.trans c2_1
  have z2_2 := isRow_lt r2_2
  have E3_2 := Lib.hid c3_1; replace c3_2 := c3_2.trans c3_1
  have z3_2 := isRow_lt r3_2
  clear r2_1 c2_1 z2_1 r3_1 c3_1 z3_1 hb1 hv7_1
  by_cases hlt2 : i < n
  ·
   have i0_2 : (0 : Int) ≤ (i : Int) := by omega
   have i8_2 : (i : Int) < 8 := by omega
   have k8_2 : i < 8 := by omega
   have m8_2 : i * 8 + 8 ≤ 64 := by omega
   have m64_2 : i * 64 + 64 ≤ 512 := by omega
   have l1_2 : 10 + i * 64 + 64 ≤ 522 := by omega
   go_wp2
   go_loopw [5, 7] (fun s5 s7 wr => ∃ j : Nat, ∃ a7_3 : Option Addr, ∃ c7_3 : Nat, ∃ U7_3 : Nat, ∃ m7_3 : Nat, ∃ f7_3 : Nat → Nat → Int, j ≤ d ∧ s5 = .slice a7_3 (m7_3) c7_3 ∧ s7 = .int .i64 j ∧ Below w.heap.size w wr ∧ (IsRow wr (w.heap.size) ∧ blk wr (w.heap.size) = blk W2 (w.heap.size)) ∧ (IsRow wr (w.heap.size + 1) ∧ blk wr (w.heap.size + 1) = blk W2 (w.heap.size + 1)) ∧ VL wr (w.heap.size + 2) (U7_3) (a7_3) (m7_3) (c7_3) (f7_3) ∧ ((w.heap.size + 2) ≤ (U7_3) ∧ (U7_3) ≤ wr.heap.size) ∧ PriInv p d (invA p d f F) i j (m7_3) (f7_3)) (fun _ s7 _ => d - (intOf s7).toNat)
   case atStart => exact ⟨0, a7_2, c7_2, U7_2, m7_2, f7_2, by omega, (by first | rfl | (simp; done) | go_num), rfl, hb2, ⟨r2_2, rfl⟩, ⟨r3_2, rfl⟩, hv7_2, (by omega), HX2.out⟩
   case round =>
    obtain ⟨j, a7_3, c7_3, U7_3, m7_3, f7_3, hle3, rfl, rfl, hb3, ⟨r2_3, c2_3⟩, ⟨r3_3, c3_3⟩, hv7_3, hU7_3, hx3⟩ := hrel
    obtain ⟨W3, rfl⟩ : ∃ W3 : World, W3 = wr := ⟨_, rfl⟩
    have q3 := hb3.size
    have HX3 := Lib.hid hx3; clear hx3
    have E2_3 := Lib.hid c2_2; replace c2_3 := c2_3.trans c2_2
    have z2_3 := isRow_lt r2_3
    have E3_3 := Lib.hid c3_2; replace c3_3 := c3_3.trans c3_2
    have z3_3 := isRow_lt r3_3
    clear r2_2 c2_2 z2_2 r3_2 c3_2 z3_2 hb2 hv7_2
    by_cases hlt3 : j < d
    ·
     have i0_3 : (0 : Int) ≤ (j : Int) := by omega
     have i8_3 : (j : Int) < 8 := by omega
     have k8_3 : j < 8 := by omega
     have m8_3 : j * 8 + 8 ≤ 64 := by omega
     have m64_3 : j * 64 + 64 ≤ 512 := by omega
     have l1_3 : 10 + j * 64 + 64 ≤ 522 := by omega
     have l2_3i : 10 + i * 64 + j * 8 + 8 ≤ 522 := by omega
     have l3_3i : 10 + j * 64 + i * 8 + 8 ≤ 522 := by omega
     have l4_3i : i * 64 + j * 8 + 8 ≤ 512 := by omega
     have l5_3i : j * 64 + i * 8 + 8 ≤ 512 := by omega
     have l6_3i : i * 8 + j < 64 := by omega
     have l7_3i : j * 8 + i < 64 := by omega
     have HXk := HX3
     have hltk := hlt3
     have hMk := HXk.out.1
     have HAb : Hid (Bytes 8 (invA p d f F i j)) := Lib.hid fun t _ => by have := gen_range hp (invX f F i j) d t; unfold invA; omega
     go_wp2
     have nw2_W3_0 : (w.heap.size) ≠ W3.heap.size := by omega
     have nw3_W3_0 : (w.heap.size + 1) ≠ W3.heap.size := by omega
     refine atomW fun W4 e4 => ?_
     have hb4 : Below w.heap.size w W4 := by rw [e4]; exact bt
     have q4 := hb4.size
     have R4 : IsRow W4 (w.heap.size) ∧ IsRow W4 (w.heap.size + 1) ∧ IsRow W4 (W3.heap.size) := by rw [e4]; simp [go_sem, r2_3, c2_3, r3_3, c3_3, nw2_W3_0, nw3_W3_0]
     obtain ⟨r2_4, r3_4, r8_4⟩ := R4
     have C4 := (⟨congrArg (blk · (w.heap.size)) e4, congrArg (blk · (w.heap.size + 1)) e4, congrArg (blk · (W3.heap.size)) e4⟩ : _ ∧ _ ∧ _); simp [go_sem, r2_3, c2_3, r3_3, c3_3, nw2_W3_0, nw3_W3_0] at C4
     obtain ⟨c2_4, c3_4, c8_4⟩ := C4
     have z2_4 := isRow_lt r2_4; have z3_4 := isRow_lt r3_4; have z8_4 := isRow_lt r8_4
     have n2_8 : (w.heap.size) ≠ (W3.heap.size) := by omega
     have n3_8 : (w.heap.size + 1) ≠ (W3.heap.size) := by omega
     have n8_2 : (W3.heap.size) ≠ (w.heap.size) := by omega
     have n8_3 : (W3.heap.size) ≠ (w.heap.size + 1) := by omega
     have hv7_4 : VL W4 (w.heap.size + 2) (U7_3) (a7_3) (m7_3) (c7_3) (f7_3) := by rw [e4]; exact vtV
     clear e4 nw2_W3_0 nw3_W3_0 r2_3 c2_3 z2_3 r3_3 c3_3 z3_3 hv7_3 hb3
     go_loopw [9] (fun s9 wr => ∃ k : Nat, k ≤ d ∧ s9 = .int .i64 k ∧ Below w.heap.size w wr ∧ (IsRow wr (w.heap.size) ∧ blk wr (w.heap.size) = blk W4 (w.heap.size)) ∧ (IsRow wr (w.heap.size + 1) ∧ blk wr (w.heap.size + 1) = blk W4 (w.heap.size + 1)) ∧ (IsRow wr (W3.heap.size) ∧ blk wr (W3.heap.size) = row 8 (genF p (invX f F i j) k)) ∧ VL wr (w.heap.size + 2) (U7_3) (a7_3) (m7_3) (c7_3) (f7_3) ∧ ((w.heap.size + 2) ≤ (U7_3) ∧ (U7_3) ≤ wr.heap.size)) (fun s9 _ => d - (intOf s9).toNat)
     case atStart => exact ⟨0, by omega, rfl, hb4, ⟨r2_4, rfl⟩, ⟨r3_4, rfl⟩, ⟨r8_4, c8_4.trans (gen_zero p (invX f F i j))⟩, hv7_4, (by omega)⟩
     case round =>
      obtain ⟨k, hle5, rfl, hb5, ⟨r2_5, c2_5⟩, ⟨r3_5, c3_5⟩, ⟨r8_5, c8_5⟩, hv7_5, hU7_5⟩ := hrel
      obtain ⟨W5, rfl⟩ : ∃ W5 : World, W5 = wr := ⟨_, rfl⟩
      have q5 := hb5.size
      have E2_5 := Lib.hid c2_4; replace c2_5 := c2_5.trans c2_4
      have z2_5 := isRow_lt r2_5
      have E3_5 := Lib.hid c3_4; replace c3_5 := c3_5.trans c3_4
      have z3_5 := isRow_lt r3_5
      have z8_5 := isRow_lt r8_5
      clear r2_4 c2_4 z2_4 r3_4 c3_4 z3_4 r8_4 c8_4 z8_4 hb4 hv7_4
      by_cases hlt5 : k < d
      ·
       have i0_5 : (0 : Int) ≤ (k : Int) := by omega
       have i8_5 : (k : Int) < 8 := by omega
       have k8_5 : k < 8 := by omega
       have m8_5 : k * 8 + 8 ≤ 64 := by omega
       have m64_5 : k * 64 + 64 ≤ 512 := by omega
       have l1_5 : 10 + k * 64 + 64 ≤ 522 := by omega
       have l2_5i : 10 + i * 64 + k * 8 + 8 ≤ 522 := by omega
       have l3_5i : 10 + k * 64 + i * 8 + 8 ≤ 522 := by omega
       have l4_5i : i * 64 + k * 8 + 8 ≤ 512 := by omega
       have l5_5i : k * 64 + i * 8 + 8 ≤ 512 := by omega
       have l6_5i : i * 8 + k < 64 := by omega
       have l7_5i : k * 8 + i < 64 := by omega
       have l2_5j : 10 + j * 64 + k * 8 + 8 ≤ 522 := by omega
       have l3_5j : 10 + k * 64 + j * 8 + 8 ≤ 522 := by omega
       have l4_5j : j * 64 + k * 8 + 8 ≤ 512 := by omega
       have l5_5j : k * 64 + j * 8 + 8 ≤ 512 := by omega
       have l6_5j : j * 8 + k < 64 := by omega
       have l7_5j : k * 8 + j < 64 := by omega
       by_cases h1 : k = j
       ·
        have e1 := mdl_aq d F i k j (by omega) (by omega) (by omega)
        have e2 := fun hh => mdl_ae d F i k j (by omega) (by omega) (by omega) hh
        have l9 : 1 + i * 64 + k * 8 + j < 513 := by omega
        have b1 := (HF.out (i * 64 + (k * 8 + j)) (by omega)).1
        have b2 := (HF.out (i * 64 + (k * 8 + j)) (by omega)).2
        have ea : F (i * 64 + (k * 8 + j)) = act F i k j := rfl
        rw [ea] at b1 b2
        have b3 := (Hf.out (520 + i) (by omega)).1
        have b4 := (Hf.out (520 + i) (by omega)).2
        have eb : f (520 + i) = coF f i := rfl
        rw [eb] at b3 b4
        have e3 := hop_cq p n f i (by omega)
        have e4 := fun hh => hop_ce p n f i (by omega) hh
        have q1 : IntKind.i64.wrap (act F i k j) = act F i k j := IntWalk.i64_in _ (by omega)
        have q2 : IntKind.i64.wrap (coF f i) = coF f i := IntWalk.i64_in _ (by omega)
        have q4 : IntKind.i64.wrap (act F i k j - coF f i) = act F i k j - coF f i := IntWalk.i64_in _ (by omega)
        have HOwn : Hid ((act F i k j - coF f i) % p = invX f F i j k % p) := Lib.hid (by unfold invX; rw [if_pos h1])
        have h11 : (((k : Nat) : Int) == ((j : Nat) : Int)) = true := by rw [h1]; exact beq_self_eq_true _
        have h12 : decide (((k : Nat) : Int) = ((j : Nat) : Int)) = true := decide_eq_true (by rw [h1])
        have H1 := Lib.hid h1; clear h1
        go_wp2_with fail
        refine (l01Mod_any p (act F i k j - coF f i) _ hp hp' (by omega) (by omega)).mono ?_; rintro _ _ ⟨rfl, rfl⟩
        go_wp2
        go_roundw
        case rel => exact ⟨k + 1, by omega, by go_num, bt, ⟨by simp [go_sem, r2_5, c2_5, n2_8, r3_5, c3_5, n3_8, r8_5, c8_5, n8_2, n8_3], (by rw [E2_5.out]; first | exact c2_5 | (simp [go_sem, r2_5, c2_5, n2_8, r3_5, c3_5, n3_8, r8_5, c8_5, n8_2, n8_3]; done))⟩, ⟨by simp [go_sem, r2_5, c2_5, n2_8, r3_5, c3_5, n3_8, r8_5, c8_5, n8_2, n8_3], (by rw [E3_5.out]; first | exact c3_5 | (simp [go_sem, r2_5, c2_5, n2_8, r3_5, c3_5, n3_8, r8_5, c8_5, n8_2, n8_3]; done))⟩, ⟨by simp [go_sem, r2_5, c2_5, n2_8, r3_5, c3_5, n3_8, r8_5, c8_5, n8_2, n8_3], (by first | (rw [blk_setRow _ _ _ _ r8_5, if_pos rfl]; exact gen_step HOwn.out) | exact (c8_5).trans (gen_step HOwn.out) | (simp [go_sem, r2_5, c2_5, n2_8, r3_5, c3_5, n3_8, r8_5, c8_5, n8_2, n8_3]; exact gen_step HOwn.out))⟩, vtV, bu⟩
        case measure => simp [intOf]; try omega
       ·
        have e1 := mdl_aq d F i k j (by omega) (by omega) (by omega)
        have e2 := fun hh => mdl_ae d F i k j (by omega) (by omega) (by omega) hh
        have l9 : 1 + i * 64 + k * 8 + j < 513 := by omega
        have b1 := (HF.out (i * 64 + (k * 8 + j)) (by omega)).1
        have b2 := (HF.out (i * 64 + (k * 8 + j)) (by omega)).2
        have ea : F (i * 64 + (k * 8 + j)) = act F i k j := rfl
        rw [ea] at b1 b2
        have b3 := (Hf.out (520 + i) (by omega)).1
        have b4 := (Hf.out (520 + i) (by omega)).2
        have eb : f (520 + i) = coF f i := rfl
        rw [eb] at b3 b4
        have e3 := hop_cq p n f i (by omega)
        have e4 := fun hh => hop_ce p n f i (by omega) hh
        have q1 : IntKind.i64.wrap (act F i k j) = act F i k j := IntWalk.i64_in _ (by omega)
        have q2 : IntKind.i64.wrap (coF f i) = coF f i := IntWalk.i64_in _ (by omega)
        have HOwn : Hid ((act F i k j) % p = invX f F i j k % p) := Lib.hid (by unfold invX; rw [if_neg h1, Int.sub_zero])
        have h11 : (((k : Nat) : Int) == ((j : Nat) : Int)) = false := by rw [beq_eq_false_iff_ne]; omega
        have h12 : decide (((k : Nat) : Int) = ((j : Nat) : Int)) = false := decide_eq_false (by omega)
        have H1 := Lib.hid h1; clear h1
        go_wp2_with fail
        refine (l01Mod_any p (act F i k j) _ hp hp' (by omega) (by omega)).mono ?_; rintro _ _ ⟨rfl, rfl⟩
        go_wp2
        go_roundw
        case rel => exact ⟨k + 1, by omega, by go_num, bt, ⟨by simp [go_sem, r2_5, c2_5, n2_8, r3_5, c3_5, n3_8, r8_5, c8_5, n8_2, n8_3], (by rw [E2_5.out]; first | exact c2_5 | (simp [go_sem, r2_5, c2_5, n2_8, r3_5, c3_5, n3_8, r8_5, c8_5, n8_2, n8_3]; done))⟩, ⟨by simp [go_sem, r2_5, c2_5, n2_8, r3_5, c3_5, n3_8, r8_5, c8_5, n8_2, n8_3], (by rw [E3_5.out]; first | exact c3_5 | (simp [go_sem, r2_5, c2_5, n2_8, r3_5, c3_5, n3_8, r8_5, c8_5, n8_2, n8_3]; done))⟩, ⟨by simp [go_sem, r2_5, c2_5, n2_8, r3_5, c3_5, n3_8, r8_5, c8_5, n8_2, n8_3], (by first | (rw [blk_setRow _ _ _ _ r8_5, if_pos rfl]; exact gen_step HOwn.out) | exact (c8_5).trans (gen_step HOwn.out) | (simp [go_sem, r2_5, c2_5, n2_8, r3_5, c3_5, n3_8, r8_5, c8_5, n8_2, n8_3]; exact gen_step HOwn.out))⟩, vtV, bu⟩
        case measure => simp [intOf]; try omega
      ·
       obtain rfl : d = k := by omega
       go_wp2_with (at_builtin; refine atomL ?_)
       have nw2_W5_0 : (w.heap.size) ≠ W5.heap.size := by omega
       have nw3_W5_0 : (w.heap.size + 1) ≠ W5.heap.size := by omega
       intro W6 e6
       have hb6 : Below w.heap.size w W6 := by rw [e6]; exact bt
       have q6 := hb6.size
       have R6 : IsRow W6 (w.heap.size) ∧ IsRow W6 (w.heap.size + 1) ∧ IsRow W6 (W5.heap.size) := by rw [e6]; simp [go_sem, r2_5, c2_5, n2_8, r3_5, c3_5, n3_8, nw2_W5_0, nw3_W5_0, r8_5]
       obtain ⟨r2_6, r3_6, r58_6⟩ := R6
       have C6 := (⟨congrArg (blk · (w.heap.size)) e6, congrArg (blk · (w.heap.size + 1)) e6, congrArg (blk · (W5.heap.size)) e6⟩ : _ ∧ _ ∧ _); simp [go_sem, r2_5, c2_5, n2_8, r3_5, c3_5, n3_8, nw2_W5_0, nw3_W5_0, r8_5] at C6
       obtain ⟨c2_6, c3_6, c58_6⟩ := C6
       have z2_6 := isRow_lt r2_6; have z3_6 := isRow_lt r3_6; have z58_6 := isRow_lt r58_6
       have n2_58 : (w.heap.size) ≠ (W5.heap.size) := by omega
       have n3_58 : (w.heap.size + 1) ≠ (W5.heap.size) := by omega
       have n58_2 : (W5.heap.size) ≠ (w.heap.size) := by omega
       have n58_3 : (W5.heap.size) ≠ (w.heap.size + 1) := by omega
       have hv7_6 : VL W6 (w.heap.size + 2) (U7_3) (a7_3) (m7_3) (c7_3) (f7_3) := by rw [e6]; exact vtV
       clear e6 nw2_W5_0 nw3_W5_0 r2_5 c2_5 z2_5 r3_5 c3_5 z3_5 hv7_5 hb5
       refine appendV _ rfl _ _ rfl hv7_6 (by omega) (by omega) rfl _ _ (invA p d f F i j) rfl c58_6 HAb.out ?_
       intro a7_7 c7_7 W7 hg7 ha7 hv7_7
       obtain ⟨r2_7, c2_7⟩ := keepG hg7 (hv7_6.ne (by omega)) r2_6 c2_6
       have z2_7 := isRow_lt r2_7
       obtain ⟨r3_7, c3_7⟩ := keepG hg7 (hv7_6.ne (by omega)) r3_6 c3_6
       have z3_7 := isRow_lt r3_7
       have hb7 := below_own hb6 hv7_6 hg7 (by omega) (by omega)
       have q7 := hb7.size
       have sz7 := hg7.size
       clear hg7 ha7 r2_6 c2_6 z2_6 r3_6 c3_6 z3_6 hv7_6 hb6
       go_wp2
       go_roundw
       case rel => exact ⟨j + 1, (a7_7), (c7_7), (W7.heap.size), (m7_3 + 1), (addV (f7_3) (m7_3) (invA p d f F i j)), by omega, (by first | rfl | go_num | (simp; done)), by go_num, bt, ⟨by simp [go_sem, r2_7, c2_7, r3_7, c3_7], (by rw [E2_3.out]; first | exact c2_7 | (simp [go_sem, r2_7, c2_7, r3_7, c3_7]; done))⟩, ⟨by simp [go_sem, r2_7, c2_7, r3_7, c3_7], (by rw [E3_3.out]; first | exact c3_7 | (simp [go_sem, r2_7, c2_7, r3_7, c3_7]; done))⟩, vtV, bu, pri_more hltk (fun t _ => gen_range hp _ _ t) (fun t ht _ => gen_far ht) HXk.out⟩
       case measure => simp [intOf]; try omega
    ·
     obtain rfl : d = j := by omega
     go_wp2
     go_roundw
     case rel => exact ⟨i + 1, (a7_3), (c7_3), (U7_3), (m7_3), (f7_3), by omega, (by first | rfl | go_num | (simp; done)), by go_num, bt, ⟨by simp [go_sem, r2_3, c2_3, r3_3, c3_3], (by rw [E2_2.out]; first | exact c2_3 | (simp [go_sem, r2_3, c2_3, r3_3, c3_3]; done))⟩, ⟨by simp [go_sem, r2_3, c2_3, r3_3, c3_3], (by rw [E3_2.out]; first | exact c3_3 | (simp [go_sem, r2_3, c2_3, r3_3, c3_3]; done))⟩, vtV, bu, pri_row hd HX3.out⟩
     case measure => simp [intOf]; try omega
  ·
   obtain rfl : n = i := by omega
   have HXe := HX2
   have hMe := HXe.out.1
   go_wp2_with fail
   refine (l02Null_any p d _ _ _ _ _ (f7_2) _ hp hp' Hpr.out hd (by omega) (by omega) (by omega) (fun q hq => (HXe.out.2.1 q hq).1) (fun q hq => (HXe.out.2.1 q hq).2) hv7_2).mono ?_; rintro _ W8 ⟨aK_8, mK_8, cK_8, fK_8, rfl, hw8, hvK_8, hT8⟩
   obtain ⟨hb8, q8⟩ := bN hb2 hw8
   have sz8 := hw8.size
   have hv7_8 := hv7_2.below hw8 (by omega)
   clear hw8 hv7_2 hb2
   have HE2 := Lib.hid (tel_of (p2_of Hpr.out) (tells_iff hT8 (pri_null HXe.out))); clear hT8
   go_wp2_with fail
   go_ret
   exact ⟨aK_8, cK_8, by first | (rw [HE2.out.1]; done) | (rw [HE2.out.1]; rfl), bt, ((hvK_8).same HE2.out.1 HE2.out.2).wider (by omega) (by omega)⟩

set_option maxRecDepth 100000 in
set_option maxHeartbeats 1000000 in
theorem specInvariantsOf_any (p n : Int) (f : Nat → Int) (d : Int) (F : Nat → Int) (w : World) (hf : Bytes 1104 f) (hF : Bytes 512 F) :
    Calls Tryz.prog 25 #[.agg (hop p n f), .agg (mdl d F)] w fun e w' => ∃ a c, e = .returned (.tuple #[.slice a (inN p n f d F) c, .int .i64 (codeB (hm1 p n f d F))]) ∧ Below w.heap.size w w' ∧ VL w' w.heap.size w'.heap.size a (inN p n f d F) c (inG p n f d F) := by
 have Hf := Lib.hid hf; clear hf
 have HF := Lib.hid hF; clear hF
 cases hc : hm1 p n f d F
 ·
  have HN := Lib.hid (in_no hc)
  have hc1 : codeB false = 1 := rfl
  go_enter Tryz.func25, Tryz.ntmps25
  go_wp2_with fail
  refine atomC fun W1 e1 => ?_
  have hb1 : Below w.heap.size w W1 := by rw [e1]; exact bt
  have q1 := hb1.size
  have R1 : IsRow W1 (w.heap.size) ∧ IsRow W1 (w.heap.size + 1) ∧ IsRow W1 (w.heap.size + 2) := by rw [e1]; simp [go_sem]
  obtain ⟨r2_1, r3_1, r9_1⟩ := R1
  have C1 := (⟨congrArg (blk · (w.heap.size)) e1, congrArg (blk · (w.heap.size + 1)) e1, congrArg (blk · (w.heap.size + 2)) e1⟩ : _ ∧ _ ∧ _); simp [go_sem] at C1
  obtain ⟨c2_1, c3_1, c9_1⟩ := C1
  have z2_1 := isRow_lt r2_1; have z3_1 := isRow_lt r3_1; have z9_1 := isRow_lt r9_1
  clear e1
  refine (code1 p n f d F _ _ Hf.out HF.out r9_1 c9_1).mono ?_; rintro _ W2 ⟨rfl, hw2⟩
  obtain ⟨r2_2, c2_2, z2_2⟩ := keepZ hw2 z2_1 r2_1 c2_1
  obtain ⟨r3_2, c3_2, z3_2⟩ := keepZ hw2 z3_1 r3_1 c3_1
  obtain ⟨r9_2, c9_2, z9_2⟩ := keepZ hw2 z9_1 r9_1 c9_1
  obtain ⟨hb2, q2⟩ := bN hb1 hw2
  clear hw2 r2_1 c2_1 z2_1 r3_1 c3_1 z3_1 r9_1 c9_1 z9_1 hb1
  go_wp2_with fail
  go_ret2
  exact ⟨none, 0, by rw [HN.out]; rfl, bt, VL.nilOf (HN.out)⟩
 ·
  have hh := (hm1_parts hc).1
  have hmm := (hm1_parts hc).2
  obtain ⟨hp2, hp31, hn1, hn8⟩ := sizes_range (hopf_sizes hh)
  obtain ⟨n, rfl⟩ := Int.eq_ofNat_of_zero_le (show 0 ≤ n by omega)
  have hp : 0 < p := by omega
  have hp' : p ≤ 255 := by omega
  have hn : n ≤ 8 := by omega
  have HH := Lib.hid hh
  rw [Int.toNat_natCast] at hmm
  obtain ⟨_, _, hd1, hd8⟩ := sizes_range (modB_sizes (hopf_sizes hh) hmm)
  obtain ⟨d, rfl⟩ := Int.eq_ofNat_of_zero_le (show 0 ≤ d by omega)
  have hd : d ≤ 8 := by omega
  have HS := Lib.hid (modB_shape HF.out hmm)
  clear hmm hh
  have hmm2 := (hm1_parts hc).2
  rw [Int.toNat_natCast] at hmm2
  have HR : Hid (∀ i k j, i < 8 → k < 8 → d ≤ j → j < 8 → act F i k j = 0) := Lib.hid fun i k j hi hk h0 hj => mod_right hmm2 hi hk h0 hj
  clear hmm2
  have Hpr : Hid (prime31 p = true) := Lib.hid (by have hsz := hopf_sizes HH.out; unfold sizesB at hsz; simp only [Bool.and_eq_true] at hsz; exact hsz.1)
  have HE : Hid (∀ i, i < 8 → coF f i < p) := Lib.hid fun i hi => (hopf_cof HH.out Hf.out hi).2
  have hy2 := in_yes hc
  simp only [Int.toNat_natCast] at hy2
  have HY := Lib.hid hy2; clear hy2
  have hc1 : codeB true = 0 := rfl
  go_enter Tryz.func25, Tryz.ntmps25
  go_wp2_with fail
  refine atomC fun W3 e3 => ?_
  have hb3 : Below w.heap.size w W3 := by rw [e3]; exact bt
  have q3 := hb3.size
  have R3 : IsRow W3 (w.heap.size) ∧ IsRow W3 (w.heap.size + 1) ∧ IsRow W3 (w.heap.size + 2) := by rw [e3]; simp [go_sem]
  obtain ⟨r2_3, r3_3, r9_3⟩ := R3
  have C3 := (⟨congrArg (blk · (w.heap.size)) e3, congrArg (blk · (w.heap.size + 1)) e3, congrArg (blk · (w.heap.size + 2)) e3⟩ : _ ∧ _ ∧ _); simp [go_sem] at C3
  obtain ⟨c2_3, c3_3, c9_3⟩ := C3
  have z2_3 := isRow_lt r2_3; have z3_3 := isRow_lt r3_3; have z9_3 := isRow_lt r9_3
  clear e3
  refine (code1 p n f d F _ _ Hf.out HF.out r9_3 c9_3).mono ?_; rintro _ W4 ⟨rfl, hw4⟩
  obtain ⟨r2_4, c2_4, z2_4⟩ := keepZ hw4 z2_3 r2_3 c2_3
  obtain ⟨r3_4, c3_4, z3_4⟩ := keepZ hw4 z3_3 r3_3 c3_3
  obtain ⟨r9_4, c9_4, z9_4⟩ := keepZ hw4 z9_3 r9_3 c9_3
  obtain ⟨hb4, q4⟩ := bN hb3 hw4
  clear hw4 r2_3 c2_3 z2_3 r3_3 c3_3 z3_3 r9_3 c9_3 z9_3 hb3
  go_wp2_with fail
  refine (l06Invariants_any p n d f F _ hp hp' hn hd Hf.out HF.out HE.out Hpr.out).mono ?_; rintro _ W5 ⟨aK_5, cK_5, rfl, hw5, hvK_5⟩
  have sz5 := hw5.size
  obtain ⟨hb5, q5⟩ := bN hb4 hw5
  clear hw5 hb4
  go_wp2_with fail
  go_ret2
  exact ⟨aK_5, cK_5, by rw [HY.out]; rfl, bt, ((hvK_5).same HY.out.symm fun _ _ _ _ => rfl).wider (by omega) (by omega)⟩

set_option maxRecDepth 100000 in
set_option maxHeartbeats 2000000 in
theorem lawInvariantsOf (fp fn : Int) (f : Nat → Int) (md : Int) (m : Nat → Int) (w : World) (_wfp : (Lit.int .i64 fp).wf = true) (_wfn : (Lit.int .i64 fn).wf = true) (hf : Bytes 1104 f) (_wmd : (Lit.int .i64 md).wf = true) (hm : Bytes 512 m) :
    Calls Tryz.prog 7 #[.agg (hop fp fn f), .agg (mdl md m)] w fun e w' => e = .returned (.bool true) ∧ Below w.heap.size w w' := by
 have Hf := Lib.hid hf; clear hf
 have Hm := Lib.hid hm; clear hm
 have hm : inN fp fn f md m ≤ 1000000 := Nat.le_trans (in_le fp fn f md m) (by omega)
 go_enter Tryz.func7, Tryz.ntmps7
 go_wp2
 refine atomW fun W1 e1 => ?_
 have hb1 : Below w.heap.size w W1 := by rw [e1]; exact bt
 have q1 := hb1.size
 have R1 : IsRow W1 (w.heap.size) ∧ IsRow W1 (w.heap.size + 1) := by rw [e1]; simp [go_sem]
 obtain ⟨r2_1, r3_1⟩ := R1
 have C1 := (⟨congrArg (blk · (w.heap.size)) e1, congrArg (blk · (w.heap.size + 1)) e1⟩ : _ ∧ _); simp [go_sem] at C1
 obtain ⟨c2_1, c3_1⟩ := C1
 have z2_1 := isRow_lt r2_1; have z3_1 := isRow_lt r3_1
 clear e1
 refine wp_quiet_tail_two 4 6 _ (by kernel_rfl) (by omega) (by kernel_rfl) (by kernel_rfl) (by kernel_rfl) (fun c a w d v h => by cases d <;> exact h) (Below.refl W1.heap.size W1).drew ?_
 simp only [List.take_succ_cons, List.take_zero, List.drop_succ_cons, List.drop_zero]
 iterate 1 (refine q_plain rfl ?_; apply Exists.intro; refine ⟨fun W hW => ?_, ?_⟩; (focus (obtain ⟨x2, y2⟩ := keepB hW z2_1 r2_1 c2_1; obtain ⟨x3, y3⟩ := keepB hW z3_1 r3_1 c3_1; go_simp; first | done | rfl)); simp only [Act.put, List.setIfInBounds_toArray, List.set_cons_zero, List.set_cons_succ])
 (refine q_plain rfl ?_; apply Exists.intro; refine ⟨fun W hW => ?_, ?_⟩; (focus (obtain ⟨x2, y2⟩ := keepB hW z2_1 r2_1 c2_1; obtain ⟨x3, y3⟩ := keepB hW z3_1 r3_1 c3_1; go_simp; (go_at_call 15; exact (toHopf_any _ _ _ _).mono fun e w2 ⟨he, hw2⟩ => ⟨he, hW.trans (hw2.mono hW.size)⟩))); simp only [Act.put, List.setIfInBounds_toArray, List.set_cons_zero, List.set_cons_succ])
 iterate 1 (refine q_plain rfl ?_; apply Exists.intro; refine ⟨fun W hW => ?_, ?_⟩; (focus (obtain ⟨x2, y2⟩ := keepB hW z2_1 r2_1 c2_1; obtain ⟨x3, y3⟩ := keepB hW z3_1 r3_1 c3_1; go_simp; first | done | rfl)); simp only [Act.put, List.setIfInBounds_toArray, List.set_cons_zero, List.set_cons_succ])
 (refine q_plain rfl ?_; apply Exists.intro; refine ⟨fun W hW => ?_, ?_⟩; (focus (obtain ⟨x2, y2⟩ := keepB hW z2_1 r2_1 c2_1; obtain ⟨x3, y3⟩ := keepB hW z3_1 r3_1 c3_1; go_simp; (go_at_call 18; exact (toModule_any _ _ _).mono fun e w2 ⟨he, hw2⟩ => ⟨he, hW.trans (hw2.mono hW.size)⟩))); simp only [Act.put, List.setIfInBounds_toArray, List.set_cons_zero, List.set_cons_succ])
 refine wpQuiet_nil ?_
 intro W2 hw2
 obtain ⟨r2_2, c2_2, z2_2⟩ := keepZ hw2 z2_1 r2_1 c2_1
 obtain ⟨r3_2, c3_2, z3_2⟩ := keepZ hw2 z3_1 r3_1 c3_1
 obtain ⟨hb2, q2⟩ := bN hb1 hw2
 clear hw2 r2_1 c2_1 z2_1 r3_1 c3_1 z3_1 hb1
 go_wp2_with fail
 have ltS2n3 : (w.heap.size) < W2.heap.size := z2_2
 have ltS3n3 : (w.heap.size + 1) < W2.heap.size := z3_2
 refine (specInvariantsOf_any _ _ _ _ _ _ Hf.out Hm.out).mono ?_; rintro _ W3 ⟨aS_3, cS_3, rfl, hw3, hvS_3⟩
 have sz3 := hw3.size
 obtain ⟨r2_3, c2_3, z2_3⟩ := keepZ hw3 z2_2 r2_2 c2_2
 obtain ⟨r3_3, c3_3, z3_3⟩ := keepZ hw3 z3_2 r3_2 c3_2
 obtain ⟨hb3, q3⟩ := bN hb2 hw3
 clear hw3 r2_2 c2_2 z2_2 r3_2 c3_2 z3_2 hb2
 go_wp2
 refine wp_quiet_tail_two 4 6 _ (by kernel_rfl) (by omega) (by kernel_rfl) (by kernel_rfl) (by kernel_rfl) (fun c a w d v h => by cases d <;> exact h) (Below.refl W3.heap.size W3).drew ?_
 simp only [List.take_succ_cons, List.take_zero, List.drop_succ_cons, List.drop_zero]
 iterate 1 (refine q_plain rfl ?_; apply Exists.intro; refine ⟨fun W hW => ?_, ?_⟩; (focus (obtain ⟨x2, y2⟩ := keepB hW z2_3 r2_3 c2_3; obtain ⟨x3, y3⟩ := keepB hW z3_3 r3_3 c3_3; go_simp; first | done | rfl)); simp only [Act.put, List.setIfInBounds_toArray, List.set_cons_zero, List.set_cons_succ])
 (refine q_plain rfl ?_; apply Exists.intro; refine ⟨fun W hW => ?_, ?_⟩; (focus (obtain ⟨x2, y2⟩ := keepB hW z2_3 r2_3 c2_3; obtain ⟨x3, y3⟩ := keepB hW z3_3 r3_3 c3_3; go_simp; (go_at_call 15; exact (toHopf_any _ _ _ _).mono fun e w2 ⟨he, hw2⟩ => ⟨he, hW.trans (hw2.mono hW.size)⟩))); simp only [Act.put, List.setIfInBounds_toArray, List.set_cons_zero, List.set_cons_succ])
 iterate 1 (refine q_plain rfl ?_; apply Exists.intro; refine ⟨fun W hW => ?_, ?_⟩; (focus (obtain ⟨x2, y2⟩ := keepB hW z2_3 r2_3 c2_3; obtain ⟨x3, y3⟩ := keepB hW z3_3 r3_3 c3_3; go_simp; first | done | rfl)); simp only [Act.put, List.setIfInBounds_toArray, List.set_cons_zero, List.set_cons_succ])
 (refine q_plain rfl ?_; apply Exists.intro; refine ⟨fun W hW => ?_, ?_⟩; (focus (obtain ⟨x2, y2⟩ := keepB hW z2_3 r2_3 c2_3; obtain ⟨x3, y3⟩ := keepB hW z3_3 r3_3 c3_3; go_simp; (go_at_call 18; exact (toModule_any _ _ _).mono fun e w2 ⟨he, hw2⟩ => ⟨he, hW.trans (hw2.mono hW.size)⟩))); simp only [Act.put, List.setIfInBounds_toArray, List.set_cons_zero, List.set_cons_succ])
 refine wpQuiet_nil ?_
 intro W4 hw4
 obtain ⟨r2_4, c2_4, z2_4⟩ := keepZ hw4 z2_3 r2_3 c2_3
 obtain ⟨r3_4, c3_4, z3_4⟩ := keepZ hw4 z3_3 r3_3 c3_3
 obtain ⟨hb4, q4⟩ := bN hb3 hw4
 have sz4 := hw4.size
 have hvS_4 := hvS_3.below hw4 (by omega)
 clear hw4 hvS_3 r2_3 c2_3 z2_3 r3_3 c3_3 z3_3 hb3
 go_wp2_with fail
 have ltG2n5 : (w.heap.size) < W4.heap.size := z2_4
 have ltG3n5 : (w.heap.size + 1) < W4.heap.size := z3_4
 refine (invariantsOf_any _ _ _ _ _ _ Hf.out Hm.out).mono ?_; rintro _ W5 ⟨aG_5, cG_5, rfl, hw5, hvG_5⟩
 obtain ⟨r2_5, c2_5, z2_5⟩ := keepZ hw5 z2_4 r2_4 c2_4
 obtain ⟨r3_5, c3_5, z3_5⟩ := keepZ hw5 z3_4 r3_4 c3_4
 obtain ⟨hb5, q5⟩ := bN hb4 hw5
 have sz5 := hw5.size
 have hvS_5 := hvS_4.below hw5 (by omega)
 clear hw5 hvS_4 r2_4 c2_4 z2_4 r3_4 c3_4 z3_4 hb4
 go_wp2_with fail
 refine (eqVectorS_any hm hvG_5 hvS_5).mono ?_; rintro _ W6 ⟨rfl, hw6⟩
 obtain ⟨r2_6, c2_6, z2_6⟩ := keepZ hw6 z2_5 r2_5 c2_5
 obtain ⟨r3_6, c3_6, z3_6⟩ := keepZ hw6 z3_5 r3_5 c3_5
 obtain ⟨hb6, q6⟩ := bN hb5 hw6
 have sz6 := hw6.size
 have hvS_6 := hvS_5.below hw6 (by omega)
 have hvG_6 := hvG_5.below hw6 (by omega)
 clear hw6 hvS_5 hvG_5 r2_5 c2_5 z2_5 r3_5 c3_5 z3_5 hb5
 go_wp2_with fail
 refine (markVectorS_any hm (by omega) (by omega) (by omega) hvG_6).mono ?_; rintro _ W7 ⟨rfl, hw7, hvG_7⟩
 obtain ⟨r2_7, c2_7⟩ := keepB hw7 (by have := z2_6; omega) r2_6 c2_6
 have z2_7 := isRow_lt r2_7
 obtain ⟨r3_7, c3_7⟩ := keepB hw7 (by have := z3_6; omega) r3_6 c3_6
 have z3_7 := isRow_lt r3_7
 have hb7 := hb6.trans (hw7.mono (by omega))
 have q7 := hb7.size
 have sz7 := hw7.size
 have hvS_7 := hvS_6.below hw7 (by omega)
 clear hw7 hvG_6 hvS_6 r2_6 c2_6 z2_6 r3_6 c3_6 z3_6 hb6
 go_wp2_with fail
 refine (heldVectorS_any hm (by omega) (by omega) hvG_7).mono ?_; rintro _ W8 ⟨rfl, hw8⟩
 obtain ⟨r2_8, c2_8, z2_8⟩ := keepZ hw8 z2_7 r2_7 c2_7
 obtain ⟨r3_8, c3_8, z3_8⟩ := keepZ hw8 z3_7 r3_7 c3_7
 obtain ⟨hb8, q8⟩ := bN hb7 hw8
 have sz8 := hw8.size
 have hvS_8 := hvS_7.below hw8 (by omega)
 have hvG_8 := hvG_7.below hw8 (by omega)
 clear hw8 hvS_7 hvG_7 r2_7 c2_7 z2_7 r3_7 c3_7 z3_7 hb7
 go_wp2
 refine wp_quiet_tail_two 4 6 _ (by kernel_rfl) (by omega) (by kernel_rfl) (by kernel_rfl) (by kernel_rfl) (fun c a w d v h => by cases d <;> exact h) (Below.refl W8.heap.size W8).drew ?_
 simp only [List.take_succ_cons, List.take_zero, List.drop_succ_cons, List.drop_zero]
 iterate 1 (refine q_plain rfl ?_; apply Exists.intro; refine ⟨fun W hW => ?_, ?_⟩; (focus (obtain ⟨x2, y2⟩ := keepB hW z2_8 r2_8 c2_8; obtain ⟨x3, y3⟩ := keepB hW z3_8 r3_8 c3_8; go_simp; first | done | rfl)); simp only [Act.put, List.setIfInBounds_toArray, List.set_cons_zero, List.set_cons_succ])
 (refine q_plain rfl ?_; apply Exists.intro; refine ⟨fun W hW => ?_, ?_⟩; (focus (obtain ⟨x2, y2⟩ := keepB hW z2_8 r2_8 c2_8; obtain ⟨x3, y3⟩ := keepB hW z3_8 r3_8 c3_8; go_simp; (go_at_call 15; exact (toHopf_any _ _ _ _).mono fun e w2 ⟨he, hw2⟩ => ⟨he, hW.trans (hw2.mono hW.size)⟩))); simp only [Act.put, List.setIfInBounds_toArray, List.set_cons_zero, List.set_cons_succ])
 iterate 1 (refine q_plain rfl ?_; apply Exists.intro; refine ⟨fun W hW => ?_, ?_⟩; (focus (obtain ⟨x2, y2⟩ := keepB hW z2_8 r2_8 c2_8; obtain ⟨x3, y3⟩ := keepB hW z3_8 r3_8 c3_8; go_simp; first | done | rfl)); simp only [Act.put, List.setIfInBounds_toArray, List.set_cons_zero, List.set_cons_succ])
 (refine q_plain rfl ?_; apply Exists.intro; refine ⟨fun W hW => ?_, ?_⟩; (focus (obtain ⟨x2, y2⟩ := keepB hW z2_8 r2_8 c2_8; obtain ⟨x3, y3⟩ := keepB hW z3_8 r3_8 c3_8; go_simp; (go_at_call 18; exact (toModule_any _ _ _).mono fun e w2 ⟨he, hw2⟩ => ⟨he, hW.trans (hw2.mono hW.size)⟩))); simp only [Act.put, List.setIfInBounds_toArray, List.set_cons_zero, List.set_cons_succ])
 refine wpQuiet_nil ?_
 intro W9 hw9
 obtain ⟨r2_9, c2_9, z2_9⟩ := keepZ hw9 z2_8 r2_8 c2_8
 obtain ⟨r3_9, c3_9, z3_9⟩ := keepZ hw9 z3_8 r3_8 c3_8
 obtain ⟨hb9, q9⟩ := bN hb8 hw9
 have sz9 := hw9.size
 have hvS_9 := hvS_8.below hw9 (by omega)
 have hvG_9 := hvG_8.below hw9 (by omega)
 clear hw9 hvS_8 hvG_8 r2_8 c2_8 z2_8 r3_8 c3_8 z3_8 hb8
 go_wp2_with fail
 refine (invariantsOf_any _ _ _ _ _ _ Hf.out Hm.out).mono ?_; rintro _ W10 ⟨aH_10, cH_10, rfl, hw10, hvH_10⟩
 obtain ⟨hb10, q10⟩ := bN hb9 hw10
 have sz10 := hw10.size
 have hvS_10 := hvS_9.below hw10 (by omega)
 have hvG_10 := hvG_9.below hw10 (by omega)
 clear hw10 hvS_9 hvG_9 hb9
 go_wp2_with fail
 refine (eqVectorS_any hm hvH_10 hvS_10).mono ?_; rintro _ W11 ⟨rfl, hw11⟩
 obtain ⟨hb11, q11⟩ := bN hb10 hw11
 have sz11 := hw11.size
 have hvS_11 := hvS_10.below hw11 (by omega)
 have hvG_11 := hvG_10.below hw11 (by omega)
 have hvH_11 := hvH_10.below hw11 (by omega)
 clear hw11 hvS_10 hvG_10 hvH_10 hb10
 go_wp2_with fail
 refine (heldVectorS_any hm (by omega) (by omega) hvG_11).mono ?_; rintro _ W12 ⟨rfl, hw12⟩
 obtain ⟨hb12, q12⟩ := bN hb11 hw12
 have sz12 := hw12.size
 have hvS_12 := hvS_11.below hw12 (by omega)
 have hvG_12 := hvG_11.below hw12 (by omega)
 have hvH_12 := hvH_11.below hw12 (by omega)
 clear hw12 hvS_11 hvG_11 hvH_11 hb11
 go_wp2_with fail
 go_ret
 exact ⟨rfl, bt⟩

end Go.Proofs.YtfmhgfnadgaiaaaGreat
