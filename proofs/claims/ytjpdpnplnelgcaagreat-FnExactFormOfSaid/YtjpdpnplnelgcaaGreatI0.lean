/- Integrals: the spaces of the program, and of the reference model. -/
import Derived.Test.YtjpdpnplnelgcaaGreatCnt
import Derived.Test.YtjpdpnplnelgcaaGreatR8
import Derived.Test.YtjpdpnplnelgcaaGreatQ15
import Derived.StillTail
namespace Go.Proofs.YtjpdpnplnelgcaaGreat
open Go.RowKit
set_option linter.unusedSimpArgs false
set_option linter.unusedVariables false
attribute [local irreducible] wpQuiet wpQE

theorem emodR {p : Int} (hp : 0 < p) (x : Int) : 0 ≤ x % p ∧ x % p < p := ⟨Int.emod_nonneg _ (by omega), Int.emod_lt_of_pos _ hp⟩
/-- the images j less than k of v: e(j) v less the Counit of e(j) times v -/
def difK (p : Int) (n : Nat) (g v : Nat → Int) (k : Nat) : Nat → Int := fun t => if t / 8 < k then (mulF p n (mtab g) (ebas (t / 8)) v (t % 8) + -coF g (t / 8) % p * v (t % 8)) % p else 0
theorem dif_zero (p : Int) (n : Nat) (g v : Nat → Int) : row 64 zf = row 64 (difK p n g v 0) := row_congr fun t _ => by unfold difK zf; rw [if_neg (by omega)]
/-- row k after the product is laid there -/
def difM (p : Int) (n : Nat) (g v : Nat → Int) (k : Nat) : Nat → Int := fun t => if t / 8 = k then mulF p n (mtab g) (ebas k) v (t % 8) else difK p n g v k t
theorem dif_lay {p : Int} {n : Nat} {g v : Nat → Int} {k : Nat} (hk : k < 8) : lay (row 64 (difK p n g v k)) (k * 8) (row 8 (mulF p n (mtab g) (ebas k) v)) = row 64 (difM p n g v k) := by
  rw [lay_row _ _ _ _ _ (by omega)]
  refine row_congr fun t ht => ?_
  unfold difM
  by_cases h : k * 8 ≤ t ∧ t < k * 8 + 8
  · rw [if_pos h, if_pos (by omega), show t - k * 8 = t % 8 by omega]
  · rw [if_neg h, if_neg (by omega)]
theorem dif_step {p : Int} {n : Nat} {g v : Nat → Int} {k : Nat} (hk : k < 8) : row 64 (addm p (k * 8) 8 (-coF g k % p) (difM p n g v k) v) = row 64 (difK p n g v (k + 1)) := row_congr fun t ht => by
  unfold addm difM difK
  by_cases h : k * 8 ≤ t ∧ t < k * 8 + 8
  · rw [if_pos h, if_pos (by omega), if_pos (by omega), show t / 8 = k by omega, show t - k * 8 = t % 8 by omega]
  · rw [if_neg h, if_neg (by omega)]
    by_cases h2 : t / 8 < k
    · rw [if_pos h2, if_pos (by omega)]
    · rw [if_neg h2, if_neg (by omega)]
theorem mul_range {p : Int} (hp : 0 < p) (n : Nat) (m : Nat → Nat → Nat → Int) (v u : Nat → Int) (k : Nat) : 0 ≤ mulF p n m v u k ∧ mulF p n m v u k < p := emodR hp _
theorem difM_range {p : Int} (hp : 0 < p) (n : Nat) (g v : Nat → Int) (k t : Nat) : 0 ≤ difM p n g v k t ∧ difM p n g v k t < p := by
  unfold difM
  split
  · exact mul_range hp _ _ _ _ _
  · unfold difK
    split
    · exact emodR hp _
    · omega
theorem difK_range {p : Int} (hp : 0 < p) (n : Nat) (g v : Nat → Int) (k t : Nat) : 0 ≤ difK p n g v k t ∧ difK p n g v k t < p := by
  unfold difK
  split
  · exact emodR hp _
  · omega

set_option maxRecDepth 100000 in
set_option maxHeartbeats 1000000 in
theorem differences_any (p : Int) (n : Nat) (g v : Nat → Int) (w : World) (hp : 0 < p) (hp' : p ≤ 255) (hn : n ≤ 8) (hG : Bytes 528 g) (hv : Bytes 8 v) (hE : ∀ i, i < 8 → coF g i < p) :
    Calls Tryz.prog 140 #[.agg (cnt p n g), .agg (row 8 v)] w fun e w' => e = .returned (.agg (row 64 (difK p n g v n))) ∧ Below w.heap.size w w' := by
 have HG := Lib.hid hG; clear hG
 have Hv := Lib.hid hv; clear hv
 have HE := Lib.hid hE; clear hE
 go_enter Tryz.func140, Tryz.ntmps140
 go_wp2
 refine atomW fun W1 e1 => ?_
 have hb1 : Below w.heap.size w W1 := by rw [e1]; exact bt
 have q1 := hb1.size
 have R1 : IsRow W1 (w.heap.size) ∧ IsRow W1 (w.heap.size + 1) ∧ IsRow W1 (w.heap.size + 2) ∧ IsRow W1 (w.heap.size + 3) := by rw [e1]; simp [go_sem]
 obtain ⟨r2_1, r3_1, r4_1, r6_1⟩ := R1
 have C1 := (⟨congrArg (blk · (w.heap.size)) e1, congrArg (blk · (w.heap.size + 1)) e1, congrArg (blk · (w.heap.size + 2)) e1, congrArg (blk · (w.heap.size + 3)) e1⟩ : _ ∧ _ ∧ _ ∧ _); simp [go_sem] at C1
 obtain ⟨c2_1, c3_1, c4_1, c6_1⟩ := C1
 have z2_1 := isRow_lt r2_1; have z3_1 := isRow_lt r3_1; have z4_1 := isRow_lt r4_1; have z6_1 := isRow_lt r6_1
 clear e1
 go_loopw [14] (fun s14 wr => ∃ i : Nat, i ≤ n ∧ s14 = .int .i64 i ∧ Below w.heap.size w wr ∧ (IsRow wr (w.heap.size) ∧ blk wr (w.heap.size) = blk W1 (w.heap.size)) ∧ (IsRow wr (w.heap.size + 1) ∧ blk wr (w.heap.size + 1) = blk W1 (w.heap.size + 1)) ∧ (IsRow wr (w.heap.size + 2) ∧ blk wr (w.heap.size + 2) = blk W1 (w.heap.size + 2)) ∧ (IsRow wr (w.heap.size + 3) ∧ blk wr (w.heap.size + 3) = row 64 (difK p n g v i))) (fun s14 _ => n - (intOf s14).toNat)
 case atStart => exact ⟨0, by omega, rfl, hb1, ⟨r2_1, rfl⟩, ⟨r3_1, rfl⟩, ⟨r4_1, rfl⟩, ⟨r6_1, c6_1.trans (dif_zero p n g v)⟩⟩
 case round =>
  obtain ⟨i, hle2, rfl, hb2, ⟨r2_2, c2_2⟩, ⟨r3_2, c3_2⟩, ⟨r4_2, c4_2⟩, ⟨r6_2, c6_2⟩⟩ := hrel
  obtain ⟨W2, rfl⟩ : ∃ W2 : World, W2 = wr := ⟨_, rfl⟩
  have q2 := hb2.size
  have E2_2 := Lib.hid c2_1; replace c2_2 := c2_2.trans c2_1
  have z2_2 := isRow_lt r2_2
  have E3_2 := Lib.hid c3_1; replace c3_2 := c3_2.trans c3_1
  have z3_2 := isRow_lt r3_2
  have E4_2 := Lib.hid c4_1; replace c4_2 := c4_2.trans c4_1
  have z4_2 := isRow_lt r4_2
  have z6_2 := isRow_lt r6_2
  clear r2_1 c2_1 z2_1 r3_1 c3_1 z3_1 r4_1 c4_1 z4_1 r6_1 c6_1 z6_1 hb1
  by_cases hlt2 : i < n
  ·
   have i0_2 : (0 : Int) ≤ (i : Int) := by omega
   have i8_2 : (i : Int) < 8 := by omega
   have k8_2 : i < 8 := by omega
   have m8_2 : i * 8 + 8 ≤ 64 := by omega
   have m64_2 : i * 64 + 64 ≤ 512 := by omega
   have l1_2 : 10 + i * 64 + 64 ≤ 522 := by omega
   have he0 := (cnt_cob HG.out i (by omega)).1
   have he1 := HE.out i (by omega)
   have b1 := (emodR hp (-coF g i)).1
   have b2 : -coF g i % p ≤ 255 := by have := (emodR hp (-coF g i)).2; omega
   have hc1 := cnt_cq p n g i (by omega)
   have hc2 := fun h => cnt_ce p n g i (by omega) h
   have HLy := Lib.hid (dif_lay (p := p) (n := n) (g := g) (v := v) (k := i) (by omega))
   have hly := HLy.out
   go_wp2
   refine wp_quiet_tail 8 (Below W2.heap.size W2) (by kernel_rfl) (by kernel_rfl) (Below.refl _ _).drew ?_
   simp only [List.take_succ_cons, List.take_zero, List.drop_succ_cons, List.drop_zero]
   iterate 4 (refine q_plain rfl ?_; apply Exists.intro; refine ⟨fun W hW => ?_, ?_⟩; (focus (obtain ⟨x2, y2⟩ := keepB hW z2_2 r2_2 c2_2; obtain ⟨x3, y3⟩ := keepB hW z3_2 r3_2 c3_2; obtain ⟨x4, y4⟩ := keepB hW z4_2 r4_2 c4_2; obtain ⟨x6, y6⟩ := keepB hW z6_2 r6_2 c6_2; go_simp; first | done | rfl)); simp only [Act.put, List.setIfInBounds_toArray, List.set_cons_zero, List.set_cons_succ])
   (refine q_plain rfl ?_; apply Exists.intro; refine ⟨fun W hW => ?_, ?_⟩; (focus (obtain ⟨x2, y2⟩ := keepB hW z2_2 r2_2 c2_2; obtain ⟨x3, y3⟩ := keepB hW z3_2 r3_2 c3_2; obtain ⟨x4, y4⟩ := keepB hW z4_2 r4_2 c4_2; obtain ⟨x6, y6⟩ := keepB hW z6_2 r6_2 c6_2; go_simp; (go_at_call 108; exact (basisAt i (by omega) _).mono fun e w2 ⟨he, hw2⟩ => ⟨he, hW.trans (hw2.mono hW.size)⟩))); simp only [Act.put, List.setIfInBounds_toArray, List.set_cons_zero, List.set_cons_succ])
   iterate 1 (refine q_plain rfl ?_; apply Exists.intro; refine ⟨fun W hW => ?_, ?_⟩; (focus (obtain ⟨x2, y2⟩ := keepB hW z2_2 r2_2 c2_2; obtain ⟨x3, y3⟩ := keepB hW z3_2 r3_2 c3_2; obtain ⟨x4, y4⟩ := keepB hW z4_2 r4_2 c4_2; obtain ⟨x6, y6⟩ := keepB hW z6_2 r6_2 c6_2; go_simp; first | done | rfl)); simp only [Act.put, List.setIfInBounds_toArray, List.set_cons_zero, List.set_cons_succ])
   (refine q_plain rfl ?_; apply Exists.intro; refine ⟨fun W hW => ?_, ?_⟩; (focus (obtain ⟨x2, y2⟩ := keepB hW z2_2 r2_2 c2_2; obtain ⟨x3, y3⟩ := keepB hW z3_2 r3_2 c3_2; obtain ⟨x4, y4⟩ := keepB hW z4_2 r4_2 c4_2; obtain ⟨x6, y6⟩ := keepB hW z6_2 r6_2 c6_2; go_simp; (go_at_call 112; exact (multiply_any p n g (ebas i) v _ hp hp' hn (cnt_bytes HG.out) (ebas_bytes i) Hv.out).mono fun e w2 ⟨he, hw2⟩ => ⟨he, hW.trans (hw2.mono hW.size)⟩))); simp only [Act.put, List.setIfInBounds_toArray, List.set_cons_zero, List.set_cons_succ])
   iterate 1 (refine q_plain rfl ?_; apply Exists.intro; refine ⟨fun W hW => ?_, ?_⟩; (focus (obtain ⟨x2, y2⟩ := keepB hW z2_2 r2_2 c2_2; obtain ⟨x3, y3⟩ := keepB hW z3_2 r3_2 c3_2; obtain ⟨x4, y4⟩ := keepB hW z4_2 r4_2 c4_2; obtain ⟨x6, y6⟩ := keepB hW z6_2 r6_2 c6_2; go_simp; first | done | rfl)); simp only [Act.put, List.setIfInBounds_toArray, List.set_cons_zero, List.set_cons_succ])
   refine wpQuiet_nil ?_
   intro W3 hw3
   obtain ⟨r2_3, c2_3, z2_3⟩ := keepZ hw3 z2_2 r2_2 c2_2
   obtain ⟨r3_3, c3_3, z3_3⟩ := keepZ hw3 z3_2 r3_2 c3_2
   obtain ⟨r4_3, c4_3, z4_3⟩ := keepZ hw3 z4_2 r4_2 c4_2
   obtain ⟨r6_3, c6_3, z6_3⟩ := keepZ hw3 z6_2 r6_2 c6_2
   obtain ⟨hb3, q3⟩ := bN hb2 hw3
   clear hw3 r2_2 c2_2 z2_2 r3_2 c3_2 z3_2 r4_2 c4_2 z4_2 r6_2 c6_2 z6_2 hb2
   go_wp2
   refine atomW fun W4 e4 => ?_
   have hb4 : Below w.heap.size w W4 := by rw [e4]; exact bt
   have q4 := hb4.size
   have R4 : IsRow W4 (w.heap.size) ∧ IsRow W4 (w.heap.size + 1) ∧ IsRow W4 (w.heap.size + 2) ∧ IsRow W4 (w.heap.size + 3) := by rw [e4]; simp [go_sem, r2_3, c2_3, r3_3, c3_3, r4_3, c4_3, r6_3, c6_3]
   obtain ⟨r2_4, r3_4, r4_4, r6_4⟩ := R4
   have C4 := (⟨congrArg (blk · (w.heap.size)) e4, congrArg (blk · (w.heap.size + 1)) e4, congrArg (blk · (w.heap.size + 2)) e4, congrArg (blk · (w.heap.size + 3)) e4⟩ : _ ∧ _ ∧ _ ∧ _); simp [go_sem, r2_3, c2_3, r3_3, c3_3, r4_3, c4_3, r6_3, c6_3] at C4
   obtain ⟨c2_4, c3_4, c4_4, c6_4⟩ := C4
   have z2_4 := isRow_lt r2_4; have z3_4 := isRow_lt r3_4; have z4_4 := isRow_lt r4_4; have z6_4 := isRow_lt r6_4
   clear e4 r2_3 c2_3 z2_3 r3_3 c3_3 z3_3 r4_3 c4_3 z4_3 r6_3 c6_3 z6_3 hb3
   refine wp_quiet_tail 11 (Below W4.heap.size W4) (by kernel_rfl) (by kernel_rfl) (Below.refl _ _).drew ?_
   simp only [List.take_succ_cons, List.take_zero, List.drop_succ_cons, List.drop_zero]
   iterate 9 (refine q_plain rfl ?_; apply Exists.intro; refine ⟨fun W hW => ?_, ?_⟩; (focus (obtain ⟨x2, y2⟩ := keepB hW z2_4 r2_4 c2_4; obtain ⟨x3, y3⟩ := keepB hW z3_4 r3_4 c3_4; obtain ⟨x4, y4⟩ := keepB hW z4_4 r4_4 c4_4; obtain ⟨x6, y6⟩ := keepB hW z6_4 r6_4 c6_4; go_simp; first | done | rfl)); simp only [Act.put, List.setIfInBounds_toArray, List.set_cons_zero, List.set_cons_succ])
   (refine q_plain rfl ?_; apply Exists.intro; refine ⟨fun W hW => ?_, ?_⟩; (focus (obtain ⟨x2, y2⟩ := keepB hW z2_4 r2_4 c2_4; obtain ⟨x3, y3⟩ := keepB hW z3_4 r3_4 c3_4; obtain ⟨x4, y4⟩ := keepB hW z4_4 r4_4 c4_4; obtain ⟨x6, y6⟩ := keepB hW z6_4 r6_4 c6_4; go_simp; (go_at_call 161; exact (negativeNumber_any p (coF g i) _ hp hp' he0 he1).mono fun e w2 ⟨he, hw2⟩ => ⟨he, hw2 ▸ hW⟩))); simp only [Act.put, List.setIfInBounds_toArray, List.set_cons_zero, List.set_cons_succ])
   iterate 1 (refine q_plain rfl ?_; apply Exists.intro; refine ⟨fun W hW => ?_, ?_⟩; (focus (obtain ⟨x2, y2⟩ := keepB hW z2_4 r2_4 c2_4; obtain ⟨x3, y3⟩ := keepB hW z3_4 r3_4 c3_4; obtain ⟨x4, y4⟩ := keepB hW z4_4 r4_4 c4_4; obtain ⟨x6, y6⟩ := keepB hW z6_4 r6_4 c6_4; go_simp; first | done | rfl)); simp only [Act.put, List.setIfInBounds_toArray, List.set_cons_zero, List.set_cons_succ])
   refine wpQuiet_nil ?_
   intro W5 hw5
   obtain ⟨r2_5, c2_5, z2_5⟩ := keepZ hw5 z2_4 r2_4 c2_4
   obtain ⟨r3_5, c3_5, z3_5⟩ := keepZ hw5 z3_4 r3_4 c3_4
   obtain ⟨r4_5, c4_5, z4_5⟩ := keepZ hw5 z4_4 r4_4 c4_4
   obtain ⟨r6_5, c6_5, z6_5⟩ := keepZ hw5 z6_4 r6_4 c6_4
   obtain ⟨hb5, q5⟩ := bN hb4 hw5
   clear hw5 r2_4 c2_4 z2_4 r3_4 c3_4 z3_4 r4_4 c4_4 z4_4 r6_4 c6_4 z6_4 hb4
   go_wp2_with fail
   refine (addMultiple_any p _ _ (i * 8) 64 8 _ _ _ 0 (difM p n g v i) v _ hp hp' b1 b2 r6_5 c6_5 (by omega) (by omega) (fun t _ _ => difM_range hp n g v i t) (byte_at (N := 8) (off' := 0) c3_5 (by omega) (fun t _ => by rw [Nat.zero_add]) Hv.out) (by omega)).mono ?_; rintro _ _ ⟨rfl, rfl⟩
   go_wp2
   go_roundw
   case rel => exact ⟨i + 1, by omega, by go_num, bt, ⟨by simp [go_sem, r2_5, c2_5, r3_5, c3_5, r4_5, c4_5, r6_5, c6_5], (by rw [E2_2.out]; first | exact c2_5 | (simp [go_sem, r2_5, c2_5, r3_5, c3_5, r4_5, c4_5, r6_5, c6_5]; done))⟩, ⟨by simp [go_sem, r2_5, c2_5, r3_5, c3_5, r4_5, c4_5, r6_5, c6_5], (by rw [E3_2.out]; first | exact c3_5 | (simp [go_sem, r2_5, c2_5, r3_5, c3_5, r4_5, c4_5, r6_5, c6_5]; done))⟩, ⟨by simp [go_sem, r2_5, c2_5, r3_5, c3_5, r4_5, c4_5, r6_5, c6_5], (by rw [E4_2.out]; first | exact c4_5 | (simp [go_sem, r2_5, c2_5, r3_5, c3_5, r4_5, c4_5, r6_5, c6_5]; done))⟩, ⟨by simp [go_sem, r2_5, c2_5, r3_5, c3_5, r4_5, c4_5, r6_5, c6_5], (by first | (rw [blk_setRow _ _ _ _ r6_5, if_pos rfl]; exact dif_step (by omega)) | exact (c6_5).trans (dif_step (by omega)) | (simp [go_sem, r2_5, c2_5, r3_5, c3_5, r4_5, c4_5, r6_5, c6_5]; exact dif_step (by omega)))⟩⟩
   case measure => simp [intOf]; try omega
  ·
   obtain rfl : n = i := by omega
   go_wp2_with fail
   refine bodyPost_ret (result_cell rfl aggLin _ _ (row 64 (difK p n g v n)) _ rfl ?_ ?_) rfl ⟨rfl, ?_⟩
   · simp [go_sem, r2_2, c2_2, r3_2, c3_2, r4_2, c4_2, r6_2, c6_2]
   · simp [go_sem, r2_2, c2_2, r3_2, c3_2, r4_2, c4_2, r6_2, c6_2]
   · exact bt

/-! ### spaces -/
/-- the value of the space of the left integrals for products and a Counit g -/
def spc (p n : Int) (g : Nat → Int) : Array Value := #[.int .i64 p, .int .i64 n, .func (.func 140) #[.agg (cnt p n g)] #[]]
@[go_sem] theorem spc_size (p n : Int) (g : Nat → Int) : (spc p n g).size = 3 := rfl
@[go_sem] theorem spc_0 (p n : Int) (g : Nat → Int) : (spc p n g)[0]? = some (.int .i64 p) := rfl
@[go_sem] theorem spc_1 (p n : Int) (g : Nat → Int) : (spc p n g)[1]? = some (.int .i64 n) := rfl
@[go_sem] theorem spc_2 (p n : Int) (g : Nat → Int) : (spc p n g)[2]? = some (.func (.func 140) #[.agg (cnt p n g)] #[]) := rfl
@[go_sem] theorem spc_0' (p n : Int) (g : Nat → Int) (h : 0 < (spc p n g).size) : (spc p n g)[0] = .int .i64 p := rfl
@[go_sem] theorem spc_1' (p n : Int) (g : Nat → Int) (h : 1 < (spc p n g).size) : (spc p n g)[1] = .int .i64 n := rfl
@[go_sem] theorem spc_2' (p n : Int) (g : Nat → Int) (h : 2 < (spc p n g).size) : (spc p n g)[2] = .func (.func 140) #[.agg (cnt p n g)] #[] := rfl
@[go_sem] theorem spc_all (p n : Int) (g : Nat → Int) : (spc p n g).extract 0 3 = spc p n g := by
  rw [show (3 : Nat) = (spc p n g).size from rfl]; simp
def spcZ : Array Value := #[.int .i64 0, .int .i64 0, .nilFunc]
@[go_sem] theorem spcZ_size : spcZ.size = 3 := rfl
@[go_sem] theorem lay_spc (p n : Int) (g : Nat → Int) : lay spcZ 0 (spc p n g) = spc p n g := by
  apply Array.ext_getElem?
  intro i
  rw [lay_get _ _ _ _ (by rw [spcZ_size, spc_size]; omega), spc_size]
  split
  · rfl
  · rw [Array.getElem?_eq_none (by rw [spcZ_size]; omega), Array.getElem?_eq_none (by rw [spc_size]; omega)]
theorem aggSpc : AggT Tryz.prog 70 3 := ⟨by kernel_rfl, by kernel_rfl⟩
@[go_sem ↓] theorem xloadSpc (ρ : Operand → Value) (dst : Option Tmp) (a : Operand) (ty : TypeId) (pos : String) (after : Array Edge) (guard : Option (Nat × Bool)) (w : World) :
    (execOp ρ ⟨dst, .load 70 a, ty, pos, after, guard⟩).run Tryz.prog w = loadN Tryz.prog 70 (ρ a) w := rfl
@[go_sem] theorem loadSpc (w : World) (b off : Nat) (h : Has w b (off + 3)) :
    loadN Tryz.prog 70 (.pointer (some ⟨b, off, none⟩)) w = .ok (.value (.agg ((blk w b).extract off (off + 3)))) w := loadN_at aggSpc w b off h
@[go_sem ↓] theorem xstoreSpc (ρ : Operand → Value) (dst : Option Tmp) (a x : Operand) (ty : TypeId) (pos : String) (after : Array Edge) (guard : Option (Nat × Bool)) (w : World) :
    (execOp ρ ⟨dst, .store 70 a x, ty, pos, after, guard⟩).run Tryz.prog w = storeN Tryz.prog 70 (ρ a) (ρ x) w := rfl
@[go_sem] theorem storeSpc (w : World) (b off : Nat) (p n : Int) (g : Nat → Int) (h : Has w b (off + 3)) :
    storeN Tryz.prog 70 (.pointer (some ⟨b, off, none⟩)) (.agg (spc p n g)) w = .ok .skip (w.setRow b (lay (blk w b) off (spc p n g))) := storeN_at aggSpc w b off _ h rfl (by simp [spc, Value.oneCell'])
@[go_sem ↓] theorem xallocSpc (ρ : Operand → Value) (dst : Option Tmp) (ty : TypeId) (pos : String) (after : Array Edge) (guard : Option (Nat × Bool)) (w : World) :
    (execOp ρ ⟨dst, .alloc 70, ty, pos, after, guard⟩).run Tryz.prog w = allocN Tryz.prog 70 w := rfl
@[go_sem] theorem allocSpc (w : World) : allocN Tryz.prog 70 w = .ok (.value (.pointer (some ⟨w.heap.size, 0, none⟩))) (w.alloc (.cells spcZ 70)) := allocN_eq _ (by kernel_rfl) w
theorem fill_any {place : Nat → Option (Nat × Nat)} {c : Array Value} {i off : Nat} {v : Value} {rest : List (Nat × Value)} (hv : v.cells = #[v]) (hp : place i = some (off, 1)) (h : off + 1 ≤ c.size) : Instr.fill place c ((i, v) :: rest) = Instr.fill place (c.setIfInBounds off v) rest := by
  rw [Instr.fill, hp]
  simp only [hv]
  rw [if_neg (by simp; omega)]
  simp
@[go_sem ↓] theorem xbuildSpc (ρ : Operand → Value) (dst : Option Tmp) (a b c : Operand) (ty : TypeId) (pos : String) (after : Array Edge) (guard : Option (Nat × Bool)) (w : World) :
    (execOp ρ ⟨dst, .build 70 #[(0, a), (1, b), (2, c)], ty, pos, after, guard⟩).run Tryz.prog w = buildS Tryz.prog 70 #[(0, ρ a), (1, ρ b), (2, ρ c)] w := by kernel_rfl
@[go_sem] theorem buildSpc (p n : Int) (g : Nat → Int) (w : World) : buildS Tryz.prog 70 #[(0, .int .i64 p), (1, .int .i64 n), (2, .func (.func 140) #[.agg (cnt p n g)] #[])] w = .ok (.value (.agg (spc p n g))) w := by
  refine build_struct (fields := fieldsOf Tryz.prog 70) (places := #[(0, 1), (1, 1), (2, 1)]) (zc := spcZ) (by kernel_rfl) (by kernel_rfl) (fun w => by kernel_rfl) ?_ w
  show Instr.fill _ _ [_, _, _] = _
  rw [fill_any (off := 0) rfl rfl (by rw [spcZ_size]; omega), fill_any (off := 1) rfl rfl (by simp [spcZ_size]), fill_any (off := 2) rfl rfl (by simp [spcZ_size])]
  rfl

set_option maxRecDepth 100000 in
set_option maxHeartbeats 1000000 in
theorem integrals_any (p n : Int) (g : Nat → Int) (w : World)  :
    Calls Tryz.prog 107 #[.agg (cnt p n g)] w fun e w' => e = .returned (.agg (spc p n g)) ∧ Below w.heap.size w w' := by
 go_enter Tryz.func107, Tryz.ntmps107
 go_wp2_with fail
 refine bodyPost_ret (result_cell rfl aggSpc _ _ (spc p n g) _ rfl ?_ ?_) rfl ⟨rfl, ?_⟩
 · simp [go_sem]
 · simp [go_sem]
 · exact bt

theorem integrals_self (p n : Int) (f : Nat → Int) (w : World) : Calls Tryz.prog 107 #[.agg (cnt p n (joinC f (coF f)))] w fun e w' => e = .returned (.agg (spc p n f)) ∧ Below w.heap.size w w' := by
  rw [joinC_self]; exact integrals_any p n f w

set_option maxRecDepth 100000 in
set_option maxHeartbeats 1000000 in
theorem leftIntegrals_any (p n : Int) (f : Nat → Int) (w : World)  :
    Calls Tryz.prog 74 #[.agg (hop p n f)] w fun e w' => e = .returned (.agg (spc p n f)) ∧ Below w.heap.size w w' := by
 go_enter Tryz.func74, Tryz.ntmps74
 go_wp2
 refine atomW fun W1 e1 => ?_
 have hb1 : Below w.heap.size w W1 := by rw [e1]; exact bt
 have q1 := hb1.size
 have R1 : IsRow W1 (w.heap.size) ∧ IsRow W1 (w.heap.size + 1) := by rw [e1]; simp [go_sem]
 obtain ⟨r1_1, r2_1⟩ := R1
 have C1 := (⟨congrArg (blk · (w.heap.size)) e1, congrArg (blk · (w.heap.size + 1)) e1⟩ : _ ∧ _); simp [go_sem] at C1
 obtain ⟨c1_1, c2_1⟩ := C1
 have z1_1 := isRow_lt r1_1; have z2_1 := isRow_lt r2_1
 clear e1
 refine wp_quiet_tail 6 (Below W1.heap.size W1) (by kernel_rfl) (by kernel_rfl) (Below.refl _ _).drew ?_
 simp only [List.take_succ_cons, List.take_zero, List.drop_succ_cons, List.drop_zero]
 iterate 1 (refine q_plain rfl ?_; apply Exists.intro; refine ⟨fun W hW => ?_, ?_⟩; (focus (obtain ⟨x1, y1⟩ := keepB hW z1_1 r1_1 c1_1; obtain ⟨x2, y2⟩ := keepB hW z2_1 r2_1 c2_1; go_simp; first | done | rfl)); simp only [Act.put, List.setIfInBounds_toArray, List.set_cons_zero, List.set_cons_succ])
 (refine q_plain rfl ?_; apply Exists.intro; refine ⟨fun W hW => ?_, ?_⟩; (focus (obtain ⟨x1, y1⟩ := keepB hW z1_1 r1_1 c1_1; obtain ⟨x2, y2⟩ := keepB hW z2_1 r2_1 c2_1; go_simp; (go_at_call 85; exact (algebraOf_any _ _ _ _).mono fun e w2 ⟨he, hw2⟩ => ⟨he, hW.trans (hw2.mono hW.size)⟩))); simp only [Act.put, List.setIfInBounds_toArray, List.set_cons_zero, List.set_cons_succ])
 iterate 2 (refine q_plain rfl ?_; apply Exists.intro; refine ⟨fun W hW => ?_, ?_⟩; (focus (obtain ⟨x1, y1⟩ := keepB hW z1_1 r1_1 c1_1; obtain ⟨x2, y2⟩ := keepB hW z2_1 r2_1 c2_1; go_simp; first | done | rfl)); simp only [Act.put, List.setIfInBounds_toArray, List.set_cons_zero, List.set_cons_succ])
 (refine q_plain rfl ?_; apply Exists.intro; refine ⟨fun W hW => ?_, ?_⟩; (focus (obtain ⟨x1, y1⟩ := keepB hW z1_1 r1_1 c1_1; obtain ⟨x2, y2⟩ := keepB hW z2_1 r2_1 c2_1; unfold Oper.quietAt; rw [xbuildCnt]; show Oper.quietUpon _ _ _ _ (buildS Tryz.prog 106 #[(0, .agg (alg p n (f))), (1, .agg (row 8 (coF f)))] W); rw [buildCnt]; exact ⟨rfl, rfl⟩)); simp only [Act.put, List.setIfInBounds_toArray, List.set_cons_zero, List.set_cons_succ])
 (refine q_plain rfl ?_; apply Exists.intro; refine ⟨fun W hW => ?_, ?_⟩; (focus (obtain ⟨x1, y1⟩ := keepB hW z1_1 r1_1 c1_1; obtain ⟨x2, y2⟩ := keepB hW z2_1 r2_1 c2_1; go_simp; (go_at_call 107; exact (integrals_self _ _ _ _).mono fun e w2 ⟨he, hw2⟩ => ⟨he, hW.trans (hw2.mono hW.size)⟩))); simp only [Act.put, List.setIfInBounds_toArray, List.set_cons_zero, List.set_cons_succ])
 refine wpQuiet_nil ?_
 intro W2 hw2
 obtain ⟨r1_2, c1_2, z1_2⟩ := keepZ hw2 z1_1 r1_1 c1_1
 obtain ⟨r2_2, c2_2, z2_2⟩ := keepZ hw2 z2_1 r2_1 c2_1
 obtain ⟨hb2, q2⟩ := bN hb1 hw2
 clear hw2 r1_1 c1_1 z1_1 r2_1 c2_1 z2_1 hb1
 go_wp2_with fail
 refine bodyPost_ret (result_cell rfl aggSpc _ _ (spc p n f) _ rfl ?_ ?_) rfl ⟨rfl, ?_⟩
 · simp [go_sem, r1_2, c1_2, r2_2, c2_2]
 · simp [go_sem, r1_2, c1_2, r2_2, c2_2]
 · exact bt

end Go.Proofs.YtjpdpnplnelgcaaGreat
