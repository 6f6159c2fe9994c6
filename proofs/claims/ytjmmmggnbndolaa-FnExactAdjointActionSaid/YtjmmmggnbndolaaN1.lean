/- Adjoint actions, by both programs. -/
import Derived.Test.YtjmmmggnbndolaaR8
import Derived.Test.YtjmmmggnbndolaaRegionI
import Derived.Test.YtjmmmggnbndolaaRegionJ
import Derived.Test.YtjmmmggnbndolaaRegionK
namespace Go.Proofs.Ytjmmmggnbndolaa
open Go.RowKit
set_option linter.unusedSimpArgs false
set_option linter.unusedVariables false
attribute [local irreducible] wpQuiet wpQE

theorem mulF_lin {p : Int} {n N : Nat} {M : Nat → Nat → Nat → Int} {X u c : Nat → Int} {y : Nat → Nat → Int} (h : ∀ s, s < n → u s % p = sumTo (fun k => c k * y k s) N % p) (t : Nat) : mulF p n M X u t = sumTo (fun k => c k * mulF p n M X (y k) t) N % p := by
  have e1 : ∀ i, i < n → sumTo (fun s => X i * u s * M i s t) n % p = sumTo (fun k => c k * sumTo (fun s => X i * y k s * M i s t) n) N % p := fun i _ => by
    have e0 : ∀ s, s < n → (X i * u s * M i s t) % p = sumTo (fun k => c k * (X i * y k s * M i s t)) N % p := fun s hs => by
      rw [show X i * u s * M i s t = (X i * M i s t) * u s by simp only [Int.mul_assoc, Int.mul_comm, Int.mul_left_comm], emod_mul_congr (a := X i * M i s t) rfl (h s hs), ← sumTo_mul]
      exact congrArg (· % p) (sumTo_congr N fun k _ => by simp only [Int.mul_assoc, Int.mul_comm, Int.mul_left_comm])
    rw [sum_mod p _ _ n e0, sumTo_swap]
    exact congrArg (· % p) (sumTo_congr N fun k _ => sumTo_mul _ _ _)
  unfold mulF
  rw [sum_mod p _ _ n e1, sumTo_swap]
  refine sum_mod p _ _ N fun k _ => ?_
  rw [sumTo_mul]
  exact emod_mul_congr rfl (Int.emod_emod _ _).symm
/-- S(e(i)) -/
def antR (f : Nat → Int) (i : Nat) : Nat → Int := fun t => anF f (i * 8 + t)
theorem antR_bytes {f : Nat → Int} (h : Bytes 1104 f) {i : Nat} (hi : i < 8) : Bytes 8 (antR f i) := fun t ht => an_bytes h _ (by omega)
theorem hop_antR (p n : Int) (f : Nat → Int) (i : Nat) (hi : i < 8) : (hop p n f).extract (1042 + i * 8) (1042 + i * 8 + 8) = row 8 (antR f i) := hop_anti8 p n f i hi
/-- what stands ahead of b -/
def adA (f : Nat → Int) (r : Bool) (j : Nat) : Nat → Int := match r with | true => antR f j | false => ebas j
/-- what stands behind it -/
def adB (f : Nat → Int) (r : Bool) (k : Nat) : Nat → Int := match r with | true => ebas k | false => antR f k
theorem adA_bytes {f : Nat → Int} (h : Bytes 1104 f) (r : Bool) {i : Nat} (hi : i < 8) : Bytes 8 (adA f r i) := by
  cases r
  · exact ebas_bytes i
  · exact antR_bytes h hi
theorem adB_bytes {f : Nat → Int} (h : Bytes 1104 f) (r : Bool) {i : Nat} (hi : i < 8) : Bytes 8 (adB f r i) := by
  cases r
  · exact antR_bytes h hi
  · exact ebas_bytes i
def adL (p : Int) (n : Nat) (f b : Nat → Int) (r : Bool) (j : Nat) : Nat → Int := mulF p n (mtab f) (adA f r j) b
def adP (p : Int) (n : Nat) (f b : Nat → Int) (r : Bool) (j k : Nat) : Nat → Int := mulF p n (mtab f) (adL p n f b r j) (adB f r k)
/-- by the model: the first j rows of the table are done, and k entries of the next one -/
def adK (p : Int) (n : Nat) (f a b : Nat → Int) (r : Bool) (j k : Nat) : Nat → Int := fun t => (sumTo (fun j => sumTo (fun k => copS p (coF f) a n n 0 (j * 8 + k) * adP p n f b r j k t) n) j + sumTo (fun k => copS p (coF f) a n n 0 (j * 8 + k) * adP p n f b r j k t) k) % p
theorem adK_bytes {p : Int} (hp : 0 < p) (hp' : p ≤ 255) (n : Nat) (f a b : Nat → Int) (r : Bool) (j k : Nat) : Bytes 8 (adK p n f a b r j k) := fun t _ => by
  unfold adK
  have := mod_range (sumTo (fun j => sumTo (fun k => copS p (coF f) a n n 0 (j * 8 + k) * adP p n f b r j k t) n) j + sumTo (fun k => copS p (coF f) a n n 0 (j * 8 + k) * adP p n f b r j k t) k) p hp
  omega
theorem adK_zero (p : Int) (n : Nat) (f a b : Nat → Int) (r : Bool) : row 8 zf = row 8 (adK p n f a b r 0 0) := row_congr fun t _ => by simp [adK, sumTo, zf]
theorem adK_step (p : Int) (n : Nat) (f a b : Nat → Int) (r : Bool) (j k : Nat) : row 8 (addm p 0 8 (copS p (coF f) a n n 0 (j * 8 + k)) (adK p n f a b r j k) (adP p n f b r j k)) = row 8 (adK p n f a b r j (k + 1)) := addm_row fun t _ => by
  unfold adK
  rw [Int.emod_add_emod, sumTo, Int.add_assoc]
theorem adK_skip {p : Int} {n : Nat} {f a b : Nat → Int} {r : Bool} {j k : Nat} (h : copS p (coF f) a n n 0 (j * 8 + k) = 0) : row 8 (adK p n f a b r j k) = row 8 (adK p n f a b r j (k + 1)) := row_congr fun t _ => by
  unfold adK
  rw [sumTo, h, Int.zero_mul, Int.add_zero]
theorem adK_row (p : Int) (n : Nat) (f a b : Nat → Int) (r : Bool) (j : Nat) : row 8 (adK p n f a b r j n) = row 8 (adK p n f a b r (j + 1) 0) := row_congr fun t _ => by
  simp [adK, sumTo]
/-- by the program: what stands behind, one row of the table at once -/
def adS (p : Int) (f a : Nat → Int) (r : Bool) (j : Nat) : Nat → Int := match r with | true => fun t => copF p (coF f) a 8 (j * 8 + t) | false => appF p 8 (fun i k => anF f (i * 8 + k)) fun t => copF p (coF f) a 8 (j * 8 + t)
def adQ (p : Int) (n : Nat) (f a b : Nat → Int) (r : Bool) (j : Nat) : Nat → Int := mulF p n (mtab f) (adL p n f b r j) (adS p f a r j)
def adI (p : Int) (n : Nat) (f a b : Nat → Int) (r : Bool) (j : Nat) : Nat → Int := fun t => sumTo (fun j => adQ p n f a b r j t) j % p
theorem adI_range {p : Int} (hp : 0 < p) (n : Nat) (f a b : Nat → Int) (r : Bool) (j t : Nat) : 0 ≤ adI p n f a b r j t ∧ adI p n f a b r j t < p := mod_range _ p hp
theorem adI_zero (p : Int) (n : Nat) (f a b : Nat → Int) (r : Bool) : row 8 zf = row 8 (adI p n f a b r 0) := row_congr fun t _ => by simp [adI, sumTo, zf]
theorem adI_step (p : Int) (n : Nat) (f a b : Nat → Int) (r : Bool) (j : Nat) : row 8 (addm p 0 8 1 (adI p n f a b r j) (adQ p n f a b r j)) = row 8 (adI p n f a b r (j + 1)) := addm_row fun t _ => by
  unfold adI
  rw [Int.emod_add_emod, sumTo, Int.one_mul]
theorem cop_bytes8 {p : Int} (hp : 0 < p) (hp' : p ≤ 255) (f v : Nat → Int) (m j : Nat) : Bytes 8 fun t => copF p f v m (j * 8 + t) := fun t _ => by
  have := mod_range (sumTo (fun i => v i * mtab f i ((j * 8 + t) / 8) ((j * 8 + t) % 8)) m) p hp
  show 0 ≤ sumTo (fun i => v i * mtab f i ((j * 8 + t) / 8) ((j * 8 + t) % 8)) m % p ∧ sumTo (fun i => v i * mtab f i ((j * 8 + t) / 8) ((j * 8 + t) % 8)) m % p ≤ 255
  omega
theorem adS_bytes {p : Int} (hp : 0 < p) (hp' : p ≤ 255) (f a : Nat → Int) (r : Bool) (j : Nat) : Bytes 8 (adS p f a r j) := by
  cases r
  · exact bytes_mod hp hp' _
  · exact cop_bytes8 hp hp' _ _ _ _
theorem copS_out {p : Int} {n : Nat} {f v : Nat → Int} (hs : shapeH p n f = true) {j k : Nat} (hj : j < 8) (h1 : n ≤ k) (hk : k < 8) (hn : n ≤ 8) : copS p (coF f) v n n 0 (j * 8 + k) = 0 := by
  have h := (shapeH_parts hs).2.1
  rw [copS_full hn hs _ (by omega)]
  unfold copF
  rw [sumTo_zero 8 fun i hi => ?_]
  · simp
  · have := (shape_entry h i j k hi hj hk).2
    rw [show (j * 8 + k) / 8 = j by omega, show (j * 8 + k) % 8 = k by omega, show mtab (coF f) i j k = 0 by omega, Int.mul_zero]
theorem adQ_sum {p : Int} {n : Nat} {f a b : Nat → Int} {r : Bool} (hs : shapeH p n f = true) (hn : n ≤ 8) {j : Nat} (hj : j < 8) (t : Nat) : adQ p n f a b r j t = sumTo (fun k => copS p (coF f) a n n 0 (j * 8 + k) * adP p n f b r j k t) n % p := by
  unfold adQ adP
  refine mulF_lin (fun s hs' => ?_) t
  cases r
  · show appF p 8 (fun i k => anF f (i * 8 + k)) (fun t => copF p (coF f) a 8 (j * 8 + t)) s % p = sumTo (fun k => copS p (coF f) a n n 0 (j * 8 + k) * anF f (k * 8 + s)) n % p
    unfold appF
    rw [Int.emod_emod, ← sumTo_more (n := n) (g := fun k => copS p (coF f) a n n 0 (j * 8 + k) * anF f (k * 8 + s)) (fun k h1 h2 => by rw [copS_out hs hj h1 h2 hn, Int.zero_mul]) hn]
    exact congrArg (· % p) (sumTo_congr 8 fun k hk => by rw [copS_full hn hs _ (by omega)])
  · show copF p (coF f) a 8 (j * 8 + s) % p = sumTo (fun k => copS p (coF f) a n n 0 (j * 8 + k) * ebas k s) n % p
    rw [sumTo_one (k := s) n hs' fun i _ hne => by rw [ebas_ne (by omega), Int.mul_zero], ebas_eq, Int.mul_one, copS_full hn hs _ (by omega)]
theorem ad_same {p : Int} {n : Nat} {f a b : Nat → Int} {r : Bool} (hs : shapeH p n f = true) (hn : n ≤ 8) : row 8 (adK p n f a b r n 0) = row 8 (adI p n f a b r n) := row_congr fun t _ => by
  unfold adK adI
  rw [show sumTo (fun k => copS p (coF f) a n n 0 (n * 8 + k) * adP p n f b r n k t) 0 = 0 from rfl, Int.add_zero]
  exact (sum_mod p _ _ n fun j hj => by rw [adQ_sum hs hn (by omega), Int.emod_emod]).symm

set_option maxRecDepth 100000 in
set_option maxHeartbeats 4000000 in
theorem adjoint_false (p : Int) (n : Nat) (f a b : Nat → Int) (w : World) (hp : 0 < p) (hp' : p ≤ 255) (hn : n ≤ 8) (hF : Bytes 1104 f) (ha : Bytes 8 a) (hb : Bytes 8 b) :
    Calls Try.prog 37 #[.agg (hop p n f), .agg (row 8 a), .agg (row 8 b), .bool false] w fun e w' => e = .returned (.agg (row 8 (adI p n f a b false n))) ∧ Below w.heap.size w w' := by
 have HF := Lib.hid hF; clear hF
 have Ha := Lib.hid ha; clear ha
 have Hb := Lib.hid hb; clear hb
 go_enter Try.func37, Try.ntmps37
 go_wp2
 refine atomW fun W1 e1 => ?_
 have hb1 : Below w.heap.size w W1 := by rw [e1]; exact bt
 have q1 := hb1.size
 have R1 : IsRow W1 (w.heap.size) ∧ IsRow W1 (w.heap.size + 1) ∧ IsRow W1 (w.heap.size + 2) ∧ IsRow W1 (w.heap.size + 3) := by rw [e1]; simp [go_sem]
 obtain ⟨r4_1, r5_1, r6_1, r8_1⟩ := R1
 have C1 := (⟨congrArg (blk · (w.heap.size)) e1, congrArg (blk · (w.heap.size + 1)) e1, congrArg (blk · (w.heap.size + 2)) e1, congrArg (blk · (w.heap.size + 3)) e1⟩ : _ ∧ _ ∧ _ ∧ _); simp [go_sem] at C1
 obtain ⟨c4_1, c5_1, c6_1, c8_1⟩ := C1
 have z4_1 := isRow_lt r4_1; have z5_1 := isRow_lt r5_1; have z6_1 := isRow_lt r6_1; have z8_1 := isRow_lt r8_1
 clear e1
 refine wp_quiet_made2 6 8 _ _ (alg 0 0 zf) (row 64 zf) 91 40 (by kernel_rfl) rfl rfl rfl rfl (by omega) (by kernel_rfl) (fun a W => (xallocAlg _ _ _ _ _ _ _).trans (allocAlg W)) (fun a W => (xallocLin _ _ _ _ _ _ _).trans (allocLin W)) ?_
 simp only [List.take_succ_cons, List.take_zero, List.drop_succ_cons, List.drop_zero, List.eraseIdx_cons_succ, List.eraseIdx_cons_zero]
 iterate 1 (refine e_plain rfl ?_; apply Exists.intro; refine ⟨fun D hD hK W hW => ?_, ?_⟩; (focus (obtain ⟨x4, y4⟩ := keepB (hD W hW) z4_1 r4_1 c4_1; obtain ⟨x5, y5⟩ := keepB (hD W hW) z5_1 r5_1 c5_1; obtain ⟨x6, y6⟩ := keepB (hD W hW) z6_1 r6_1 c6_1; obtain ⟨x8, y8⟩ := keepB (hD W hW) z8_1 r8_1 c8_1; unfold Oper.quietAt; go_simp; first | done | rfl)); simp only [Act.put, List.setIfInBounds_toArray, List.set_cons_zero, List.set_cons_succ])
 (refine e_plain rfl ?_; apply Exists.intro; refine ⟨fun D hD hK W hW => ?_, ?_⟩; (focus (obtain ⟨x4, y4⟩ := keepB (hD W hW) z4_1 r4_1 c4_1; obtain ⟨x5, y5⟩ := keepB (hD W hW) z5_1 r5_1 c5_1; obtain ⟨x6, y6⟩ := keepB (hD W hW) z6_1 r6_1 c6_1; obtain ⟨x8, y8⟩ := keepB (hD W hW) z8_1 r8_1 c8_1; unfold Oper.quietAt; go_simp; (go_at_call 62; exact (algebraOf_any _ _ _ _).mono fun e w2 ⟨he, hw2⟩ => ⟨he, hK _ _ hW hw2⟩))); simp only [Act.put, List.setIfInBounds_toArray, List.set_cons_zero, List.set_cons_succ])
 iterate 1 (refine e_plain rfl ?_; apply Exists.intro; refine ⟨fun D hD hK W hW => ?_, ?_⟩; (focus (obtain ⟨x4, y4⟩ := keepB (hD W hW) z4_1 r4_1 c4_1; obtain ⟨x5, y5⟩ := keepB (hD W hW) z5_1 r5_1 c5_1; obtain ⟨x6, y6⟩ := keepB (hD W hW) z6_1 r6_1 c6_1; obtain ⟨x8, y8⟩ := keepB (hD W hW) z8_1 r8_1 c8_1; unfold Oper.quietAt; go_simp; first | done | rfl)); simp only [Act.put, List.setIfInBounds_toArray, List.set_cons_zero, List.set_cons_succ])
 (refine e_plain rfl ?_; apply Exists.intro; refine ⟨fun D hD hK W hW => ?_, ?_⟩; (focus (obtain ⟨x4, y4⟩ := keepB (hD W hW) z4_1 r4_1 c4_1; obtain ⟨x5, y5⟩ := keepB (hD W hW) z5_1 r5_1 c5_1; obtain ⟨x6, y6⟩ := keepB (hD W hW) z6_1 r6_1 c6_1; obtain ⟨x8, y8⟩ := keepB (hD W hW) z8_1 r8_1 c8_1; unfold Oper.quietAt; go_simp; (go_at_call 63; exact (coalgebraOf_any _ _ _ _).mono fun e w2 ⟨he, hw2⟩ => ⟨he, hK _ _ hW hw2⟩))); simp only [Act.put, List.setIfInBounds_toArray, List.set_cons_zero, List.set_cons_succ])
 iterate 1 (refine e_plain rfl ?_; apply Exists.intro; refine ⟨fun D hD hK W hW => ?_, ?_⟩; (focus (obtain ⟨x4, y4⟩ := keepB (hD W hW) z4_1 r4_1 c4_1; obtain ⟨x5, y5⟩ := keepB (hD W hW) z5_1 r5_1 c5_1; obtain ⟨x6, y6⟩ := keepB (hD W hW) z6_1 r6_1 c6_1; obtain ⟨x8, y8⟩ := keepB (hD W hW) z8_1 r8_1 c8_1; unfold Oper.quietAt; go_simp; first | done | rfl)); simp only [Act.put, List.setIfInBounds_toArray, List.set_cons_zero, List.set_cons_succ])
 (refine e_plain rfl ?_; apply Exists.intro; refine ⟨fun D hD hK W hW => ?_, ?_⟩; (focus (obtain ⟨x4, y4⟩ := keepB (hD W hW) z4_1 r4_1 c4_1; obtain ⟨x5, y5⟩ := keepB (hD W hW) z5_1 r5_1 c5_1; obtain ⟨x6, y6⟩ := keepB (hD W hW) z6_1 r6_1 c6_1; obtain ⟨x8, y8⟩ := keepB (hD W hW) z8_1 r8_1 c8_1; unfold Oper.quietAt; go_simp; (go_at_call 50; exact (coproduct_any p n (coF f) a _ hp hp' (co_bytes HF.out) Ha.out).mono fun e w2 ⟨he, hw2⟩ => ⟨he, hK _ _ hW hw2⟩))); simp only [Act.put, List.setIfInBounds_toArray, List.set_cons_zero, List.set_cons_succ])
 refine e_nil ?_
 intro a2 b2 W2 hw2 mk1_2 mk2_2 hne2
 obtain ⟨hl1_2, m1_2, m2_2⟩ := mk1_2; obtain ⟨hl2_2, m3_2, m4_2⟩ := mk2_2
 have n4_9 : (w.heap.size) ≠ (a2) := by have := z4_1; omega
 have n9_4 : (a2) ≠ (w.heap.size) := by have := z4_1; omega
 have n4_10 : (w.heap.size) ≠ (b2) := by have := z4_1; omega
 have n10_4 : (b2) ≠ (w.heap.size) := by have := z4_1; omega
 have n5_9 : (w.heap.size + 1) ≠ (a2) := by have := z5_1; omega
 have n9_5 : (a2) ≠ (w.heap.size + 1) := by have := z5_1; omega
 have n5_10 : (w.heap.size + 1) ≠ (b2) := by have := z5_1; omega
 have n10_5 : (b2) ≠ (w.heap.size + 1) := by have := z5_1; omega
 have n6_9 : (w.heap.size + 2) ≠ (a2) := by have := z6_1; omega
 have n9_6 : (a2) ≠ (w.heap.size + 2) := by have := z6_1; omega
 have n6_10 : (w.heap.size + 2) ≠ (b2) := by have := z6_1; omega
 have n10_6 : (b2) ≠ (w.heap.size + 2) := by have := z6_1; omega
 have n8_9 : (w.heap.size + 3) ≠ (a2) := by have := z8_1; omega
 have n9_8 : (a2) ≠ (w.heap.size + 3) := by have := z8_1; omega
 have n8_10 : (w.heap.size + 3) ≠ (b2) := by have := z8_1; omega
 have n10_8 : (b2) ≠ (w.heap.size + 3) := by have := z8_1; omega
 obtain ⟨r4_2, c4_2, z4_2⟩ := keepZ hw2 z4_1 r4_1 c4_1
 obtain ⟨r5_2, c5_2, z5_2⟩ := keepZ hw2 z5_1 r5_1 c5_1
 obtain ⟨r6_2, c6_2, z6_2⟩ := keepZ hw2 z6_1 r6_1 c6_1
 obtain ⟨r8_2, c8_2, z8_2⟩ := keepZ hw2 z8_1 r8_1 c8_1
 obtain ⟨hb2, q2⟩ := bN hb1 hw2
 clear hw2 r4_1 c4_1 z4_1 r5_1 c5_1 z5_1 r6_1 c6_1 z6_1 r8_1 c8_1 z8_1 hb1
 have n9_10 : (a2) ≠ (b2) := hne2
 have n10_9 : (b2) ≠ (a2) := Ne.symm hne2
 have z9_2 := isRow_lt m1_2
 have z10_2 := isRow_lt m3_2
 simp only [Act.put, List.setIfInBounds_toArray, List.set_cons_zero, List.set_cons_succ]
 go_wp2
 have nw4_W2_0 : (w.heap.size) ≠ W2.heap.size := by omega
 have nw6_W2_0 : (w.heap.size + 2) ≠ W2.heap.size := by omega
 have nw8_W2_0 : (w.heap.size + 3) ≠ W2.heap.size := by omega
 have nw9_W2_0 : (a2) ≠ W2.heap.size := by omega
 have nw10_W2_0 : (b2) ≠ W2.heap.size := by omega
 refine atomW fun W3 e3 => ?_
 have hb3 : Below w.heap.size w W3 := by rw [e3]; exact bt
 have q3 := hb3.size
 have R3 : IsRow W3 (w.heap.size) ∧ IsRow W3 (w.heap.size + 2) ∧ IsRow W3 (w.heap.size + 3) ∧ IsRow W3 (a2) ∧ IsRow W3 (b2) ∧ IsRow W3 (W2.heap.size) := by rw [e3]; simp [go_sem, r4_2, c4_2, n4_9, n4_10, r6_2, c6_2, n6_9, n6_10, r8_2, c8_2, n8_9, n8_10, m1_2, m2_2, n9_4, n9_5, n9_6, n9_8, n9_10, m3_2, m4_2, n10_4, n10_5, n10_6, n10_8, n10_9, nw4_W2_0, nw6_W2_0, nw8_W2_0, nw9_W2_0, nw10_W2_0, r5_2]
 obtain ⟨r4_3, r6_3, r8_3, r9_3, r10_3, r11_3⟩ := R3
 have C3 := (⟨congrArg (blk · (w.heap.size)) e3, congrArg (blk · (w.heap.size + 2)) e3, congrArg (blk · (w.heap.size + 3)) e3, congrArg (blk · (a2)) e3, congrArg (blk · (b2)) e3, congrArg (blk · (W2.heap.size)) e3⟩ : _ ∧ _ ∧ _ ∧ _ ∧ _ ∧ _); simp [go_sem, r4_2, c4_2, n4_9, n4_10, r6_2, c6_2, n6_9, n6_10, r8_2, c8_2, n8_9, n8_10, m1_2, m2_2, n9_4, n9_5, n9_6, n9_8, n9_10, m3_2, m4_2, n10_4, n10_5, n10_6, n10_8, n10_9, nw4_W2_0, nw6_W2_0, nw8_W2_0, nw9_W2_0, nw10_W2_0, r5_2] at C3
 obtain ⟨c4_3, c6_3, c8_3, c9_3, c10_3, c11_3⟩ := C3
 have z4_3 := isRow_lt r4_3; have z6_3 := isRow_lt r6_3; have z8_3 := isRow_lt r8_3; have z9_3 := isRow_lt r9_3; have z10_3 := isRow_lt r10_3; have z11_3 := isRow_lt r11_3
 have n4_11 : (w.heap.size) ≠ (W2.heap.size) := by omega
 have n6_11 : (w.heap.size + 2) ≠ (W2.heap.size) := by omega
 have n8_11 : (w.heap.size + 3) ≠ (W2.heap.size) := by omega
 have n9_11 : (a2) ≠ (W2.heap.size) := by omega
 have n10_11 : (b2) ≠ (W2.heap.size) := by omega
 have n11_4 : (W2.heap.size) ≠ (w.heap.size) := by omega
 have n11_6 : (W2.heap.size) ≠ (w.heap.size + 2) := by omega
 have n11_8 : (W2.heap.size) ≠ (w.heap.size + 3) := by omega
 have n11_9 : (W2.heap.size) ≠ (a2) := by omega
 have n11_10 : (W2.heap.size) ≠ (b2) := by omega
 clear e3 nw4_W2_0 nw6_W2_0 nw8_W2_0 nw9_W2_0 nw10_W2_0 r4_2 c4_2 z4_2 r6_2 c6_2 z6_2 r8_2 c8_2 z8_2 m1_2 m2_2 z9_2 m3_2 m4_2 z10_2 hb2
 go_loopw [24] (fun s24 wr => ∃ j : Nat, j ≤ n ∧ s24 = .int .i64 j ∧ Below w.heap.size w wr ∧ (IsRow wr (w.heap.size) ∧ blk wr (w.heap.size) = blk W3 (w.heap.size)) ∧ (IsRow wr (w.heap.size + 2) ∧ blk wr (w.heap.size + 2) = blk W3 (w.heap.size + 2)) ∧ (IsRow wr (w.heap.size + 3) ∧ blk wr (w.heap.size + 3) = blk W3 (w.heap.size + 3)) ∧ (IsRow wr (a2) ∧ blk wr (a2) = blk W3 (a2)) ∧ (IsRow wr (b2) ∧ blk wr (b2) = blk W3 (b2)) ∧ (IsRow wr (W2.heap.size) ∧ blk wr (W2.heap.size) = row 8 (adI p n f a b false j))) (fun s24 _ => n - (intOf s24).toNat)
 case atStart => exact ⟨0, by omega, rfl, hb3, ⟨r4_3, rfl⟩, ⟨r6_3, rfl⟩, ⟨r8_3, rfl⟩, ⟨r9_3, rfl⟩, ⟨r10_3, rfl⟩, ⟨r11_3, c11_3.trans (adI_zero p n f a b false)⟩⟩
 case round =>
  obtain ⟨j, hle4, rfl, hb4, ⟨r4_4, c4_4⟩, ⟨r6_4, c6_4⟩, ⟨r8_4, c8_4⟩, ⟨r9_4, c9_4⟩, ⟨r10_4, c10_4⟩, ⟨r11_4, c11_4⟩⟩ := hrel
  obtain ⟨W4, rfl⟩ : ∃ W4 : World, W4 = wr := ⟨_, rfl⟩
  have q4 := hb4.size
  have E4_4 := Lib.hid c4_3; replace c4_4 := c4_4.trans c4_3
  have z4_4 := isRow_lt r4_4
  have E6_4 := Lib.hid c6_3; replace c6_4 := c6_4.trans c6_3
  have z6_4 := isRow_lt r6_4
  have E8_4 := Lib.hid c8_3; replace c8_4 := c8_4.trans c8_3
  have z8_4 := isRow_lt r8_4
  have E9_4 := Lib.hid c9_3; replace c9_4 := c9_4.trans c9_3
  have z9_4 := isRow_lt r9_4
  have E10_4 := Lib.hid c10_3; replace c10_4 := c10_4.trans c10_3
  have z10_4 := isRow_lt r10_4
  have z11_4 := isRow_lt r11_4
  clear r4_3 c4_3 z4_3 r6_3 c6_3 z6_3 r8_3 c8_3 z8_3 r9_3 c9_3 z9_3 r10_3 c10_3 z10_3 r11_3 c11_3 z11_3 hb3
  by_cases hlt4 : j < n
  ·
   have i0_4 : (0 : Int) ≤ (j : Int) := by omega
   have i8_4 : (j : Int) < 8 := by omega
   have k8_4 : j < 8 := by omega
   have m8_4 : j * 8 + 8 ≤ 64 := by omega
   have m64_4 : j * 64 + 64 ≤ 512 := by omega
   have l1_4 : 10 + j * 64 + 64 ≤ 522 := by omega
   have HFb := Lib.hid (hop_bytes HF.out)
   have HAn := Lib.hid (an_bytes HF.out)
   have HCo := Lib.hid (co_bytes HF.out)
   have ha1 := hop_antR p n f j (by omega)
   have l1 : 1042 + j * 8 + 8 ≤ 1106 := by omega
   have l2 : j * 8 + 8 ≤ 64 := by omega
   have HT : Hid (Bytes 8 (fun t => copF p (coF f) a 8 (j * 8 + t))) := Lib.hid (cop_bytes8 hp hp' _ _ _ _)
   have HAA : Hid (Bytes 8 (ebas j)) := Lib.hid (adA_bytes HF.out false (i := j) (by omega))
   have HL : Hid (Bytes 8 (mulF p n (mtab f) (ebas j) b)) := Lib.hid (mulF_bytes hp hp' _ _ _ _)
   have HQ : Hid (Bytes 8 (appF p 8 (fun i k => anF f (i * 8 + k)) (fun t => copF p (coF f) a 8 (j * 8 + t)))) := Lib.hid (bytes_mod hp hp' _)
   have HP : Hid (Bytes 8 (adQ p n f a b false j)) := Lib.hid (mulF_bytes hp hp' _ _ _ _)
   go_wp2
   refine wp_quiet_made2 10 12 _ _ (row 8 zf) (row 8 zf) 38 38 (by kernel_rfl) rfl rfl rfl rfl (by omega) (by kernel_rfl) (fun a W => (xallocVec _ _ _ _ _ _ _).trans (allocVec W)) (fun a W => (xallocVec _ _ _ _ _ _ _).trans (allocVec W)) ?_
   simp only [List.take_succ_cons, List.take_zero, List.drop_succ_cons, List.drop_zero, List.eraseIdx_cons_succ, List.eraseIdx_cons_zero]
   iterate 1 (refine e_plain rfl ?_; apply Exists.intro; refine ⟨fun D hD hK W hW => ?_, ?_⟩; (focus (obtain ⟨x4, y4⟩ := keepB (hD W hW) z4_4 r4_4 c4_4; obtain ⟨x6, y6⟩ := keepB (hD W hW) z6_4 r6_4 c6_4; obtain ⟨x8, y8⟩ := keepB (hD W hW) z8_4 r8_4 c8_4; obtain ⟨x9, y9⟩ := keepB (hD W hW) z9_4 r9_4 c9_4; obtain ⟨x10, y10⟩ := keepB (hD W hW) z10_4 r10_4 c10_4; obtain ⟨x11, y11⟩ := keepB (hD W hW) z11_4 r11_4 c11_4; unfold Oper.quietAt; go_simp; first | done | rfl)); simp only [Act.put, List.setIfInBounds_toArray, List.set_cons_zero, List.set_cons_succ])
   (refine e_plain rfl ?_; apply Exists.intro; refine ⟨fun D hD hK W hW => ?_, ?_⟩; (focus (obtain ⟨x4, y4⟩ := keepB (hD W hW) z4_4 r4_4 c4_4; obtain ⟨x6, y6⟩ := keepB (hD W hW) z6_4 r6_4 c6_4; obtain ⟨x8, y8⟩ := keepB (hD W hW) z8_4 r8_4 c8_4; obtain ⟨x9, y9⟩ := keepB (hD W hW) z9_4 r9_4 c9_4; obtain ⟨x10, y10⟩ := keepB (hD W hW) z10_4 r10_4 c10_4; obtain ⟨x11, y11⟩ := keepB (hD W hW) z11_4 r11_4 c11_4; unfold Oper.quietAt; go_simp; (go_at_call 64; exact (basisAt j (by omega) _).mono fun e w2 ⟨he, hw2⟩ => ⟨he, hK _ _ hW hw2⟩))); simp only [Act.put, List.setIfInBounds_toArray, List.set_cons_zero, List.set_cons_succ])
   iterate 7 (refine e_plain rfl ?_; apply Exists.intro; refine ⟨fun D hD hK W hW => ?_, ?_⟩; (focus (obtain ⟨x4, y4⟩ := keepB (hD W hW) z4_4 r4_4 c4_4; obtain ⟨x6, y6⟩ := keepB (hD W hW) z6_4 r6_4 c6_4; obtain ⟨x8, y8⟩ := keepB (hD W hW) z8_4 r8_4 c8_4; obtain ⟨x9, y9⟩ := keepB (hD W hW) z9_4 r9_4 c9_4; obtain ⟨x10, y10⟩ := keepB (hD W hW) z10_4 r10_4 c10_4; obtain ⟨x11, y11⟩ := keepB (hD W hW) z11_4 r11_4 c11_4; unfold Oper.quietAt; go_simp; first | done | rfl)); simp only [Act.put, List.setIfInBounds_toArray, List.set_cons_zero, List.set_cons_succ])
   (refine e_plain rfl ?_; apply Exists.intro; refine ⟨fun D hD hK W hW => ?_, ?_⟩; (focus (obtain ⟨x4, y4⟩ := keepB (hD W hW) z4_4 r4_4 c4_4; obtain ⟨x6, y6⟩ := keepB (hD W hW) z6_4 r6_4 c6_4; obtain ⟨x8, y8⟩ := keepB (hD W hW) z8_4 r8_4 c8_4; obtain ⟨x9, y9⟩ := keepB (hD W hW) z9_4 r9_4 c9_4; obtain ⟨x10, y10⟩ := keepB (hD W hW) z10_4 r10_4 c10_4; obtain ⟨x11, y11⟩ := keepB (hD W hW) z11_4 r11_4 c11_4; unfold Oper.quietAt; go_simp; (go_at_call 65; exact (applyLinear_any p (anF f) (fun t => copF p (coF f) a 8 (j * 8 + t)) _ hp hp' HAn.out HT.out).mono fun e w2 ⟨he, hw2⟩ => ⟨he, hK _ _ hW hw2⟩))); simp only [Act.put, List.setIfInBounds_toArray, List.set_cons_zero, List.set_cons_succ])
   refine e_nil ?_
   intro a5 b5 W5 hw5 mk1_5 mk2_5 hne5
   obtain ⟨hl1_5, m1_5, m2_5⟩ := mk1_5; obtain ⟨hl2_5, m3_5, m4_5⟩ := mk2_5
   have n4_13 : (w.heap.size) ≠ (a5) := by have := z4_4; omega
   have n13_4 : (a5) ≠ (w.heap.size) := by have := z4_4; omega
   have n4_14 : (w.heap.size) ≠ (b5) := by have := z4_4; omega
   have n14_4 : (b5) ≠ (w.heap.size) := by have := z4_4; omega
   have n6_13 : (w.heap.size + 2) ≠ (a5) := by have := z6_4; omega
   have n13_6 : (a5) ≠ (w.heap.size + 2) := by have := z6_4; omega
   have n6_14 : (w.heap.size + 2) ≠ (b5) := by have := z6_4; omega
   have n14_6 : (b5) ≠ (w.heap.size + 2) := by have := z6_4; omega
   have n8_13 : (w.heap.size + 3) ≠ (a5) := by have := z8_4; omega
   have n13_8 : (a5) ≠ (w.heap.size + 3) := by have := z8_4; omega
   have n8_14 : (w.heap.size + 3) ≠ (b5) := by have := z8_4; omega
   have n14_8 : (b5) ≠ (w.heap.size + 3) := by have := z8_4; omega
   have n9_13 : (a2) ≠ (a5) := by have := z9_4; omega
   have n13_9 : (a5) ≠ (a2) := by have := z9_4; omega
   have n9_14 : (a2) ≠ (b5) := by have := z9_4; omega
   have n14_9 : (b5) ≠ (a2) := by have := z9_4; omega
   have n10_13 : (b2) ≠ (a5) := by have := z10_4; omega
   have n13_10 : (a5) ≠ (b2) := by have := z10_4; omega
   have n10_14 : (b2) ≠ (b5) := by have := z10_4; omega
   have n14_10 : (b5) ≠ (b2) := by have := z10_4; omega
   have n11_13 : (W2.heap.size) ≠ (a5) := by have := z11_4; omega
   have n13_11 : (a5) ≠ (W2.heap.size) := by have := z11_4; omega
   have n11_14 : (W2.heap.size) ≠ (b5) := by have := z11_4; omega
   have n14_11 : (b5) ≠ (W2.heap.size) := by have := z11_4; omega
   obtain ⟨r4_5, c4_5, z4_5⟩ := keepZ hw5 z4_4 r4_4 c4_4
   obtain ⟨r6_5, c6_5, z6_5⟩ := keepZ hw5 z6_4 r6_4 c6_4
   obtain ⟨r8_5, c8_5, z8_5⟩ := keepZ hw5 z8_4 r8_4 c8_4
   obtain ⟨r9_5, c9_5, z9_5⟩ := keepZ hw5 z9_4 r9_4 c9_4
   obtain ⟨r10_5, c10_5, z10_5⟩ := keepZ hw5 z10_4 r10_4 c10_4
   obtain ⟨r11_5, c11_5, z11_5⟩ := keepZ hw5 z11_4 r11_4 c11_4
   obtain ⟨hb5, q5⟩ := bN hb4 hw5
   clear hw5 r4_4 c4_4 z4_4 r6_4 c6_4 z6_4 r8_4 c8_4 z8_4 r9_4 c9_4 z9_4 r10_4 c10_4 z10_4 r11_4 c11_4 z11_4 hb4
   have n13_14 : (a5) ≠ (b5) := hne5
   have n14_13 : (b5) ≠ (a5) := Ne.symm hne5
   have z13_5 := isRow_lt m1_5
   have z14_5 := isRow_lt m3_5
   simp only [Act.put, List.setIfInBounds_toArray, List.set_cons_zero, List.set_cons_succ]
   go_wp2
   refine atomW fun W6 e6 => ?_
   have hb6 : Below w.heap.size w W6 := by rw [e6]; exact bt
   have q6 := hb6.size
   have R6 : IsRow W6 (w.heap.size) ∧ IsRow W6 (w.heap.size + 2) ∧ IsRow W6 (w.heap.size + 3) ∧ IsRow W6 (a2) ∧ IsRow W6 (b2) ∧ IsRow W6 (W2.heap.size) ∧ IsRow W6 (a5) ∧ IsRow W6 (b5) := by rw [e6]; simp [go_sem, r4_5, c4_5, n4_9, n4_10, n4_11, n4_13, n4_14, r6_5, c6_5, n6_9, n6_10, n6_11, n6_13, n6_14, r8_5, c8_5, n8_9, n8_10, n8_11, n8_13, n8_14, r9_5, c9_5, n9_4, n9_6, n9_8, n9_10, n9_11, n9_13, n9_14, r10_5, c10_5, n10_4, n10_6, n10_8, n10_9, n10_11, n10_13, n10_14, r11_5, c11_5, n11_4, n11_6, n11_8, n11_9, n11_10, n11_13, n11_14, m1_5, m2_5, n13_4, n13_6, n13_8, n13_9, n13_10, n13_11, n13_14, m3_5, m4_5, n14_4, n14_6, n14_8, n14_9, n14_10, n14_11, n14_13]
   obtain ⟨r4_6, r6_6, r8_6, r9_6, r10_6, r11_6, r13_6, r14_6⟩ := R6
   have C6 := (⟨congrArg (blk · (w.heap.size)) e6, congrArg (blk · (w.heap.size + 2)) e6, congrArg (blk · (w.heap.size + 3)) e6, congrArg (blk · (a2)) e6, congrArg (blk · (b2)) e6, congrArg (blk · (W2.heap.size)) e6, congrArg (blk · (a5)) e6, congrArg (blk · (b5)) e6⟩ : _ ∧ _ ∧ _ ∧ _ ∧ _ ∧ _ ∧ _ ∧ _); simp [go_sem, r4_5, c4_5, n4_9, n4_10, n4_11, n4_13, n4_14, r6_5, c6_5, n6_9, n6_10, n6_11, n6_13, n6_14, r8_5, c8_5, n8_9, n8_10, n8_11, n8_13, n8_14, r9_5, c9_5, n9_4, n9_6, n9_8, n9_10, n9_11, n9_13, n9_14, r10_5, c10_5, n10_4, n10_6, n10_8, n10_9, n10_11, n10_13, n10_14, r11_5, c11_5, n11_4, n11_6, n11_8, n11_9, n11_10, n11_13, n11_14, m1_5, m2_5, n13_4, n13_6, n13_8, n13_9, n13_10, n13_11, n13_14, m3_5, m4_5, n14_4, n14_6, n14_8, n14_9, n14_10, n14_11, n14_13] at C6
   obtain ⟨c4_6, c6_6, c8_6, c9_6, c10_6, c11_6, c13_6, c14_6⟩ := C6
   have z4_6 := isRow_lt r4_6; have z6_6 := isRow_lt r6_6; have z8_6 := isRow_lt r8_6; have z9_6 := isRow_lt r9_6; have z10_6 := isRow_lt r10_6; have z11_6 := isRow_lt r11_6; have z13_6 := isRow_lt r13_6; have z14_6 := isRow_lt r14_6
   clear e6 r4_5 c4_5 z4_5 r6_5 c6_5 z6_5 r8_5 c8_5 z8_5 r9_5 c9_5 z9_5 r10_5 c10_5 z10_5 r11_5 c11_5 z11_5 m1_5 m2_5 z13_5 m3_5 m4_5 z14_5 hb5
   refine wp_quiet_alloc 7 _ (.cells (row 8 zf) 38) (Below W6.heap.size W6) (Made W6 (row 8 zf)) (by kernel_rfl) rfl rfl (by kernel_rfl) (fun a W => (xallocVec _ _ _ _ _ _ _).trans (allocVec W)) (closed_below W6) (closed_made W6 _) (fun b W h => h.1) (fun W h => made_new W6 _ _ W h) (Below.refl _ _).drew ?_
   simp only [List.take_succ_cons, List.take_zero, List.drop_succ_cons, List.drop_zero]
   iterate 4 (refine e_plain rfl ?_; apply Exists.intro; refine ⟨fun D hD hK W hW => ?_, ?_⟩; (focus (obtain ⟨x4, y4⟩ := keepB (hD W hW) z4_6 r4_6 c4_6; obtain ⟨x6, y6⟩ := keepB (hD W hW) z6_6 r6_6 c6_6; obtain ⟨x8, y8⟩ := keepB (hD W hW) z8_6 r8_6 c8_6; obtain ⟨x9, y9⟩ := keepB (hD W hW) z9_6 r9_6 c9_6; obtain ⟨x10, y10⟩ := keepB (hD W hW) z10_6 r10_6 c10_6; obtain ⟨x11, y11⟩ := keepB (hD W hW) z11_6 r11_6 c11_6; obtain ⟨x13, y13⟩ := keepB (hD W hW) z13_6 r13_6 c13_6; obtain ⟨x14, y14⟩ := keepB (hD W hW) z14_6 r14_6 c14_6; unfold Oper.quietAt; go_simp; first | done | rfl)); simp only [Act.put, List.setIfInBounds_toArray, List.set_cons_zero, List.set_cons_succ])
   (refine e_plain rfl ?_; apply Exists.intro; refine ⟨fun D hD hK W hW => ?_, ?_⟩; (focus (obtain ⟨x4, y4⟩ := keepB (hD W hW) z4_6 r4_6 c4_6; obtain ⟨x6, y6⟩ := keepB (hD W hW) z6_6 r6_6 c6_6; obtain ⟨x8, y8⟩ := keepB (hD W hW) z8_6 r8_6 c8_6; obtain ⟨x9, y9⟩ := keepB (hD W hW) z9_6 r9_6 c9_6; obtain ⟨x10, y10⟩ := keepB (hD W hW) z10_6 r10_6 c10_6; obtain ⟨x11, y11⟩ := keepB (hD W hW) z11_6 r11_6 c11_6; obtain ⟨x13, y13⟩ := keepB (hD W hW) z13_6 r13_6 c13_6; obtain ⟨x14, y14⟩ := keepB (hD W hW) z14_6 r14_6 c14_6; unfold Oper.quietAt; go_simp; (go_at_call 66; exact (multiply_any p n f (ebas j) b _ hp hp' hn HFb.out HAA.out Hb.out).mono fun e w2 ⟨he, hw2⟩ => ⟨he, hK _ _ hW hw2⟩))); simp only [Act.put, List.setIfInBounds_toArray, List.set_cons_zero, List.set_cons_succ])
   iterate 1 (refine e_plain rfl ?_; apply Exists.intro; refine ⟨fun D hD hK W hW => ?_, ?_⟩; (focus (obtain ⟨x4, y4⟩ := keepB (hD W hW) z4_6 r4_6 c4_6; obtain ⟨x6, y6⟩ := keepB (hD W hW) z6_6 r6_6 c6_6; obtain ⟨x8, y8⟩ := keepB (hD W hW) z8_6 r8_6 c8_6; obtain ⟨x9, y9⟩ := keepB (hD W hW) z9_6 r9_6 c9_6; obtain ⟨x10, y10⟩ := keepB (hD W hW) z10_6 r10_6 c10_6; obtain ⟨x11, y11⟩ := keepB (hD W hW) z11_6 r11_6 c11_6; obtain ⟨x13, y13⟩ := keepB (hD W hW) z13_6 r13_6 c13_6; obtain ⟨x14, y14⟩ := keepB (hD W hW) z14_6 r14_6 c14_6; unfold Oper.quietAt; go_simp; first | done | rfl)); simp only [Act.put, List.setIfInBounds_toArray, List.set_cons_zero, List.set_cons_succ])
   (refine e_plain rfl ?_; apply Exists.intro; refine ⟨fun D hD hK W hW => ?_, ?_⟩; (focus (obtain ⟨x4, y4⟩ := keepB (hD W hW) z4_6 r4_6 c4_6; obtain ⟨x6, y6⟩ := keepB (hD W hW) z6_6 r6_6 c6_6; obtain ⟨x8, y8⟩ := keepB (hD W hW) z8_6 r8_6 c8_6; obtain ⟨x9, y9⟩ := keepB (hD W hW) z9_6 r9_6 c9_6; obtain ⟨x10, y10⟩ := keepB (hD W hW) z10_6 r10_6 c10_6; obtain ⟨x11, y11⟩ := keepB (hD W hW) z11_6 r11_6 c11_6; obtain ⟨x13, y13⟩ := keepB (hD W hW) z13_6 r13_6 c13_6; obtain ⟨x14, y14⟩ := keepB (hD W hW) z14_6 r14_6 c14_6; unfold Oper.quietAt; go_simp; (go_at_call 66; exact (multiply_any p n f (mulF p n (mtab f) (ebas j) b) (appF p 8 (fun i k => anF f (i * 8 + k)) (fun t => copF p (coF f) a 8 (j * 8 + t))) _ hp hp' hn HFb.out HL.out HQ.out).mono fun e w2 ⟨he, hw2⟩ => ⟨he, hK _ _ hW hw2⟩))); simp only [Act.put, List.setIfInBounds_toArray, List.set_cons_zero, List.set_cons_succ])
   refine e_nil ?_
   intro a7 W7 hW7
   obtain ⟨hw7, hl7, m1_7, m2_7⟩ := hW7
   have n4_15 : (w.heap.size) ≠ (a7) := by have := z4_6; omega
   have n15_4 : (a7) ≠ (w.heap.size) := by have := z4_6; omega
   have n6_15 : (w.heap.size + 2) ≠ (a7) := by have := z6_6; omega
   have n15_6 : (a7) ≠ (w.heap.size + 2) := by have := z6_6; omega
   have n8_15 : (w.heap.size + 3) ≠ (a7) := by have := z8_6; omega
   have n15_8 : (a7) ≠ (w.heap.size + 3) := by have := z8_6; omega
   have n9_15 : (a2) ≠ (a7) := by have := z9_6; omega
   have n15_9 : (a7) ≠ (a2) := by have := z9_6; omega
   have n10_15 : (b2) ≠ (a7) := by have := z10_6; omega
   have n15_10 : (a7) ≠ (b2) := by have := z10_6; omega
   have n11_15 : (W2.heap.size) ≠ (a7) := by have := z11_6; omega
   have n15_11 : (a7) ≠ (W2.heap.size) := by have := z11_6; omega
   have n13_15 : (a5) ≠ (a7) := by have := z13_6; omega
   have n15_13 : (a7) ≠ (a5) := by have := z13_6; omega
   have n14_15 : (b5) ≠ (a7) := by have := z14_6; omega
   have n15_14 : (a7) ≠ (b5) := by have := z14_6; omega
   obtain ⟨r4_7, c4_7, z4_7⟩ := keepZ hw7 z4_6 r4_6 c4_6
   obtain ⟨r6_7, c6_7, z6_7⟩ := keepZ hw7 z6_6 r6_6 c6_6
   obtain ⟨r8_7, c8_7, z8_7⟩ := keepZ hw7 z8_6 r8_6 c8_6
   obtain ⟨r9_7, c9_7, z9_7⟩ := keepZ hw7 z9_6 r9_6 c9_6
   obtain ⟨r10_7, c10_7, z10_7⟩ := keepZ hw7 z10_6 r10_6 c10_6
   obtain ⟨r11_7, c11_7, z11_7⟩ := keepZ hw7 z11_6 r11_6 c11_6
   obtain ⟨r13_7, c13_7, z13_7⟩ := keepZ hw7 z13_6 r13_6 c13_6
   obtain ⟨r14_7, c14_7, z14_7⟩ := keepZ hw7 z14_6 r14_6 c14_6
   obtain ⟨hb7, q7⟩ := bN hb6 hw7
   clear hw7 r4_6 c4_6 z4_6 r6_6 c6_6 z6_6 r8_6 c8_6 z8_6 r9_6 c9_6 z9_6 r10_6 c10_6 z10_6 r11_6 c11_6 z11_6 r13_6 c13_6 z13_6 r14_6 c14_6 z14_6 hb6
   have z15_7 := isRow_lt m1_7
   simp only [Act.put, List.setIfInBounds_toArray, List.set_cons_zero, List.set_cons_succ]
   go_wp2
   refine atomW fun W8 e8 => ?_
   have hb8 : Below w.heap.size w W8 := by rw [e8]; exact bt
   have q8 := hb8.size
   have R8 : IsRow W8 (w.heap.size) ∧ IsRow W8 (w.heap.size + 2) ∧ IsRow W8 (w.heap.size + 3) ∧ IsRow W8 (a2) ∧ IsRow W8 (b2) ∧ IsRow W8 (W2.heap.size) ∧ IsRow W8 (a7) := by rw [e8]; simp [go_sem, r4_7, c4_7, n4_9, n4_10, n4_11, n4_13, n4_14, n4_15, r6_7, c6_7, n6_9, n6_10, n6_11, n6_13, n6_14, n6_15, r8_7, c8_7, n8_9, n8_10, n8_11, n8_13, n8_14, n8_15, r9_7, c9_7, n9_4, n9_6, n9_8, n9_10, n9_11, n9_13, n9_14, n9_15, r10_7, c10_7, n10_4, n10_6, n10_8, n10_9, n10_11, n10_13, n10_14, n10_15, r11_7, c11_7, n11_4, n11_6, n11_8, n11_9, n11_10, n11_13, n11_14, n11_15, m1_7, m2_7, n15_4, n15_6, n15_8, n15_9, n15_10, n15_11, n15_13, n15_14, r13_7, r14_7]
   obtain ⟨r4_8, r6_8, r8_8, r9_8, r10_8, r11_8, r15_8⟩ := R8
   have C8 := (⟨congrArg (blk · (w.heap.size)) e8, congrArg (blk · (w.heap.size + 2)) e8, congrArg (blk · (w.heap.size + 3)) e8, congrArg (blk · (a2)) e8, congrArg (blk · (b2)) e8, congrArg (blk · (W2.heap.size)) e8, congrArg (blk · (a7)) e8⟩ : _ ∧ _ ∧ _ ∧ _ ∧ _ ∧ _ ∧ _); simp [go_sem, r4_7, c4_7, n4_9, n4_10, n4_11, n4_13, n4_14, n4_15, r6_7, c6_7, n6_9, n6_10, n6_11, n6_13, n6_14, n6_15, r8_7, c8_7, n8_9, n8_10, n8_11, n8_13, n8_14, n8_15, r9_7, c9_7, n9_4, n9_6, n9_8, n9_10, n9_11, n9_13, n9_14, n9_15, r10_7, c10_7, n10_4, n10_6, n10_8, n10_9, n10_11, n10_13, n10_14, n10_15, r11_7, c11_7, n11_4, n11_6, n11_8, n11_9, n11_10, n11_13, n11_14, n11_15, m1_7, m2_7, n15_4, n15_6, n15_8, n15_9, n15_10, n15_11, n15_13, n15_14, r13_7, r14_7] at C8
   obtain ⟨c4_8, c6_8, c8_8, c9_8, c10_8, c11_8, c15_8⟩ := C8
   have z4_8 := isRow_lt r4_8; have z6_8 := isRow_lt r6_8; have z8_8 := isRow_lt r8_8; have z9_8 := isRow_lt r9_8; have z10_8 := isRow_lt r10_8; have z11_8 := isRow_lt r11_8; have z15_8 := isRow_lt r15_8
   clear e8 r4_7 c4_7 z4_7 r6_7 c6_7 z6_7 r8_7 c8_7 z8_7 r9_7 c9_7 z9_7 r10_7 c10_7 z10_7 r11_7 c11_7 z11_7 m1_7 m2_7 z15_7 hb7
   refine wp_quiet_tail 4 (Below W8.heap.size W8) (by kernel_rfl) (by kernel_rfl) (Below.refl _ _).drew ?_
   simp only [List.take_succ_cons, List.take_zero, List.drop_succ_cons, List.drop_zero]
   iterate 4 (refine q_plain rfl ?_; apply Exists.intro; refine ⟨fun W hW => ?_, ?_⟩; (focus (obtain ⟨x4, y4⟩ := keepB hW z4_8 r4_8 c4_8; obtain ⟨x6, y6⟩ := keepB hW z6_8 r6_8 c6_8; obtain ⟨x8, y8⟩ := keepB hW z8_8 r8_8 c8_8; obtain ⟨x9, y9⟩ := keepB hW z9_8 r9_8 c9_8; obtain ⟨x10, y10⟩ := keepB hW z10_8 r10_8 c10_8; obtain ⟨x11, y11⟩ := keepB hW z11_8 r11_8 c11_8; obtain ⟨x15, y15⟩ := keepB hW z15_8 r15_8 c15_8; go_simp; first | done | rfl)); simp only [Act.put, List.setIfInBounds_toArray, List.set_cons_zero, List.set_cons_succ])
   refine wpQuiet_nil ?_
   intro W9 hw9
   obtain ⟨r4_9, c4_9, z4_9⟩ := keepZ hw9 z4_8 r4_8 c4_8
   obtain ⟨r6_9, c6_9, z6_9⟩ := keepZ hw9 z6_8 r6_8 c6_8
   obtain ⟨r8_9, c8_9, z8_9⟩ := keepZ hw9 z8_8 r8_8 c8_8
   obtain ⟨r9_9, c9_9, z9_9⟩ := keepZ hw9 z9_8 r9_8 c9_8
   obtain ⟨r10_9, c10_9, z10_9⟩ := keepZ hw9 z10_8 r10_8 c10_8
   obtain ⟨r11_9, c11_9, z11_9⟩ := keepZ hw9 z11_8 r11_8 c11_8
   obtain ⟨r15_9, c15_9, z15_9⟩ := keepZ hw9 z15_8 r15_8 c15_8
   obtain ⟨hb9, q9⟩ := bN hb8 hw9
   clear hw9 r4_8 c4_8 z4_8 r6_8 c6_8 z6_8 r8_8 c8_8 z8_8 r9_8 c9_8 z9_8 r10_8 c10_8 z10_8 r11_8 c11_8 z11_8 r15_8 c15_8 z15_8 hb8
   go_wp2_with fail
   refine (addMultiple_any p 1 _ 0 8 8 _ _ _ 0 (adI p n f a b false j) (adQ p n f a b false j) _ hp hp' (by omega) (by omega) r11_9 c11_9 (by omega) (by omega) (fun t _ _ => adI_range hp _ _ _ _ _ _ t) (byte_at (N := 8) (off' := 0) c15_9 (by omega) (fun t _ => by rw [Nat.zero_add]; rfl) HP.out) (by omega)).mono ?_; rintro _ _ ⟨rfl, rfl⟩
   go_wp2
   go_roundw
   case rel => exact ⟨j + 1, by omega, by go_num, bt, ⟨by simp [go_sem, r4_9, c4_9, n4_9, n4_10, n4_11, n4_15, r6_9, c6_9, n6_9, n6_10, n6_11, n6_15, r8_9, c8_9, n8_9, n8_10, n8_11, n8_15, r9_9, c9_9, n9_4, n9_6, n9_8, n9_10, n9_11, n9_15, r10_9, c10_9, n10_4, n10_6, n10_8, n10_9, n10_11, n10_15, r11_9, c11_9, n11_4, n11_6, n11_8, n11_9, n11_10, n11_15, r15_9, c15_9, n15_4, n15_6, n15_8, n15_9, n15_10, n15_11], (by rw [E4_4.out]; first | exact c4_9 | (simp [go_sem, r4_9, c4_9, n4_9, n4_10, n4_11, n4_15, r6_9, c6_9, n6_9, n6_10, n6_11, n6_15, r8_9, c8_9, n8_9, n8_10, n8_11, n8_15, r9_9, c9_9, n9_4, n9_6, n9_8, n9_10, n9_11, n9_15, r10_9, c10_9, n10_4, n10_6, n10_8, n10_9, n10_11, n10_15, r11_9, c11_9, n11_4, n11_6, n11_8, n11_9, n11_10, n11_15, r15_9, c15_9, n15_4, n15_6, n15_8, n15_9, n15_10, n15_11]; done))⟩, ⟨by simp [go_sem, r4_9, c4_9, n4_9, n4_10, n4_11, n4_15, r6_9, c6_9, n6_9, n6_10, n6_11, n6_15, r8_9, c8_9, n8_9, n8_10, n8_11, n8_15, r9_9, c9_9, n9_4, n9_6, n9_8, n9_10, n9_11, n9_15, r10_9, c10_9, n10_4, n10_6, n10_8, n10_9, n10_11, n10_15, r11_9, c11_9, n11_4, n11_6, n11_8, n11_9, n11_10, n11_15, r15_9, c15_9, n15_4, n15_6, n15_8, n15_9, n15_10, n15_11], (by rw [E6_4.out]; first | exact c6_9 | (simp [go_sem, r4_9, c4_9, n4_9, n4_10, n4_11, n4_15, r6_9, c6_9, n6_9, n6_10, n6_11, n6_15, r8_9, c8_9, n8_9, n8_10, n8_11, n8_15, r9_9, c9_9, n9_4, n9_6, n9_8, n9_10, n9_11, n9_15, r10_9, c10_9, n10_4, n10_6, n10_8, n10_9, n10_11, n10_15, r11_9, c11_9, n11_4, n11_6, n11_8, n11_9, n11_10, n11_15, r15_9, c15_9, n15_4, n15_6, n15_8, n15_9, n15_10, n15_11]; done))⟩, ⟨by simp [go_sem, r4_9, c4_9, n4_9, n4_10, n4_11, n4_15, r6_9, c6_9, n6_9, n6_10, n6_11, n6_15, r8_9, c8_9, n8_9, n8_10, n8_11, n8_15, r9_9, c9_9, n9_4, n9_6, n9_8, n9_10, n9_11, n9_15, r10_9, c10_9, n10_4, n10_6, n10_8, n10_9, n10_11, n10_15, r11_9, c11_9, n11_4, n11_6, n11_8, n11_9, n11_10, n11_15, r15_9, c15_9, n15_4, n15_6, n15_8, n15_9, n15_10, n15_11], (by rw [E8_4.out]; first | exact c8_9 | (simp [go_sem, r4_9, c4_9, n4_9, n4_10, n4_11, n4_15, r6_9, c6_9, n6_9, n6_10, n6_11, n6_15, r8_9, c8_9, n8_9, n8_10, n8_11, n8_15, r9_9, c9_9, n9_4, n9_6, n9_8, n9_10, n9_11, n9_15, r10_9, c10_9, n10_4, n10_6, n10_8, n10_9, n10_11, n10_15, r11_9, c11_9, n11_4, n11_6, n11_8, n11_9, n11_10, n11_15, r15_9, c15_9, n15_4, n15_6, n15_8, n15_9, n15_10, n15_11]; done))⟩, ⟨by simp [go_sem, r4_9, c4_9, n4_9, n4_10, n4_11, n4_15, r6_9, c6_9, n6_9, n6_10, n6_11, n6_15, r8_9, c8_9, n8_9, n8_10, n8_11, n8_15, r9_9, c9_9, n9_4, n9_6, n9_8, n9_10, n9_11, n9_15, r10_9, c10_9, n10_4, n10_6, n10_8, n10_9, n10_11, n10_15, r11_9, c11_9, n11_4, n11_6, n11_8, n11_9, n11_10, n11_15, r15_9, c15_9, n15_4, n15_6, n15_8, n15_9, n15_10, n15_11], (by rw [E9_4.out]; first | exact c9_9 | (simp [go_sem, r4_9, c4_9, n4_9, n4_10, n4_11, n4_15, r6_9, c6_9, n6_9, n6_10, n6_11, n6_15, r8_9, c8_9, n8_9, n8_10, n8_11, n8_15, r9_9, c9_9, n9_4, n9_6, n9_8, n9_10, n9_11, n9_15, r10_9, c10_9, n10_4, n10_6, n10_8, n10_9, n10_11, n10_15, r11_9, c11_9, n11_4, n11_6, n11_8, n11_9, n11_10, n11_15, r15_9, c15_9, n15_4, n15_6, n15_8, n15_9, n15_10, n15_11]; done))⟩, ⟨by simp [go_sem, r4_9, c4_9, n4_9, n4_10, n4_11, n4_15, r6_9, c6_9, n6_9, n6_10, n6_11, n6_15, r8_9, c8_9, n8_9, n8_10, n8_11, n8_15, r9_9, c9_9, n9_4, n9_6, n9_8, n9_10, n9_11, n9_15, r10_9, c10_9, n10_4, n10_6, n10_8, n10_9, n10_11, n10_15, r11_9, c11_9, n11_4, n11_6, n11_8, n11_9, n11_10, n11_15, r15_9, c15_9, n15_4, n15_6, n15_8, n15_9, n15_10, n15_11], (by rw [E10_4.out]; first | exact c10_9 | (simp [go_sem, r4_9, c4_9, n4_9, n4_10, n4_11, n4_15, r6_9, c6_9, n6_9, n6_10, n6_11, n6_15, r8_9, c8_9, n8_9, n8_10, n8_11, n8_15, r9_9, c9_9, n9_4, n9_6, n9_8, n9_10, n9_11, n9_15, r10_9, c10_9, n10_4, n10_6, n10_8, n10_9, n10_11, n10_15, r11_9, c11_9, n11_4, n11_6, n11_8, n11_9, n11_10, n11_15, r15_9, c15_9, n15_4, n15_6, n15_8, n15_9, n15_10, n15_11]; done))⟩, ⟨by simp [go_sem, r4_9, c4_9, n4_9, n4_10, n4_11, n4_15, r6_9, c6_9, n6_9, n6_10, n6_11, n6_15, r8_9, c8_9, n8_9, n8_10, n8_11, n8_15, r9_9, c9_9, n9_4, n9_6, n9_8, n9_10, n9_11, n9_15, r10_9, c10_9, n10_4, n10_6, n10_8, n10_9, n10_11, n10_15, r11_9, c11_9, n11_4, n11_6, n11_8, n11_9, n11_10, n11_15, r15_9, c15_9, n15_4, n15_6, n15_8, n15_9, n15_10, n15_11], (by first | (rw [blk_setRow _ _ _ _ r11_9, if_pos rfl]; exact adI_step p n f a b false j) | exact (c11_9).trans (adI_step p n f a b false j) | (simp [go_sem, r4_9, c4_9, n4_9, n4_10, n4_11, n4_15, r6_9, c6_9, n6_9, n6_10, n6_11, n6_15, r8_9, c8_9, n8_9, n8_10, n8_11, n8_15, r9_9, c9_9, n9_4, n9_6, n9_8, n9_10, n9_11, n9_15, r10_9, c10_9, n10_4, n10_6, n10_8, n10_9, n10_11, n10_15, r11_9, c11_9, n11_4, n11_6, n11_8, n11_9, n11_10, n11_15, r15_9, c15_9, n15_4, n15_6, n15_8, n15_9, n15_10, n15_11]; exact adI_step p n f a b false j))⟩⟩
   case measure => simp [intOf]; try omega
  ·
   obtain rfl : n = j := by omega
   go_wp2_with fail
   refine bodyPost_ret (result_cell rfl aggVec _ _ (row 8 (adI p n f a b false n)) _ rfl ?_ ?_) rfl ⟨rfl, ?_⟩
   · simp [go_sem, r4_4, c4_4, n4_9, n4_10, n4_11, r6_4, c6_4, n6_9, n6_10, n6_11, r8_4, c8_4, n8_9, n8_10, n8_11, r9_4, c9_4, n9_4, n9_6, n9_8, n9_10, n9_11, r10_4, c10_4, n10_4, n10_6, n10_8, n10_9, n10_11, r11_4, c11_4, n11_4, n11_6, n11_8, n11_9, n11_10]
   · simp [go_sem, r4_4, c4_4, n4_9, n4_10, n4_11, r6_4, c6_4, n6_9, n6_10, n6_11, r8_4, c8_4, n8_9, n8_10, n8_11, r9_4, c9_4, n9_4, n9_6, n9_8, n9_10, n9_11, r10_4, c10_4, n10_4, n10_6, n10_8, n10_9, n10_11, r11_4, c11_4, n11_4, n11_6, n11_8, n11_9, n11_10]
   · exact bt

set_option maxRecDepth 100000 in
set_option maxHeartbeats 4000000 in
theorem l07Adjoint_false (p : Int) (n : Nat) (f a b : Nat → Int) (w : World) (hp : 0 < p) (hp' : p ≤ 255) (hn : n ≤ 8) (hF : Bytes 1104 f) (ha : Bytes 8 a) (hb : Bytes 8 b) :
    Calls Try.prog 34 #[.agg (hop p n f), .agg (row 8 a), .agg (row 8 b), .bool false] w fun e w' => e = .returned (.agg (row 8 (adK p n f a b false n 0))) ∧ Below w.heap.size w w' := by
 have HF := Lib.hid hF; clear hF
 have Ha := Lib.hid ha; clear ha
 have Hb := Lib.hid hb; clear hb
 go_enter Try.func34, Try.ntmps34
 go_wp2
 refine atomW fun W1 e1 => ?_
 have hb1 : Below w.heap.size w W1 := by rw [e1]; exact bt
 have q1 := hb1.size
 have R1 : IsRow W1 (w.heap.size) ∧ IsRow W1 (w.heap.size + 1) ∧ IsRow W1 (w.heap.size + 2) ∧ IsRow W1 (w.heap.size + 3) := by rw [e1]; simp [go_sem]
 obtain ⟨r4_1, r5_1, r6_1, r8_1⟩ := R1
 have C1 := (⟨congrArg (blk · (w.heap.size)) e1, congrArg (blk · (w.heap.size + 1)) e1, congrArg (blk · (w.heap.size + 2)) e1, congrArg (blk · (w.heap.size + 3)) e1⟩ : _ ∧ _ ∧ _ ∧ _); simp [go_sem] at C1
 obtain ⟨c4_1, c5_1, c6_1, c8_1⟩ := C1
 have z4_1 := isRow_lt r4_1; have z5_1 := isRow_lt r5_1; have z6_1 := isRow_lt r6_1; have z8_1 := isRow_lt r8_1
 clear e1
 refine wp_quiet_made3s 6 2 _ _ _ _ (row 64 zf) (row 8 zf) (alg 0 0 zf) 40 38 91 40 9 18 (by kernel_rfl) rfl rfl rfl rfl rfl rfl rfl rfl rfl (by simp) rfl (by kernel_rfl) (fun a W => (xallocLin _ _ _ _ _ _ _).trans (allocLin W)) (fun a W => (xallocVec _ _ _ _ _ _ _).trans (allocVec W)) (fun a W => (xallocAlg _ _ _ _ _ _ _).trans (allocAlg W)) (fun A W => rfl) ?_
 simp only [List.take_succ_cons, List.take_zero, List.drop_succ_cons, List.drop_zero, List.eraseIdx_cons_succ, List.eraseIdx_cons_zero]
 iterate 2 (refine e_plain rfl ?_; apply Exists.intro; refine ⟨fun D hD hK W hW => ?_, ?_⟩; (focus (obtain ⟨x4, y4⟩ := keepB (hD W hW) z4_1 r4_1 c4_1; obtain ⟨x5, y5⟩ := keepB (hD W hW) z5_1 r5_1 c5_1; obtain ⟨x6, y6⟩ := keepB (hD W hW) z6_1 r6_1 c6_1; obtain ⟨x8, y8⟩ := keepB (hD W hW) z8_1 r8_1 c8_1; unfold Oper.quietAt; go_simp; first | done | rfl)); simp only [Act.put, List.setIfInBounds_toArray, List.set_cons_zero, List.set_cons_succ])
 (refine e_plain rfl ?_; apply Exists.intro; refine ⟨fun D hD hK W hW => ?_, ?_⟩; (focus (obtain ⟨x4, y4⟩ := keepB (hD W hW) z4_1 r4_1 c4_1; obtain ⟨x5, y5⟩ := keepB (hD W hW) z5_1 r5_1 c5_1; obtain ⟨x6, y6⟩ := keepB (hD W hW) z6_1 r6_1 c6_1; obtain ⟨x8, y8⟩ := keepB (hD W hW) z8_1 r8_1 c8_1; unfold Oper.quietAt; go_simp; (go_at_call 56; exact (l03Coproduct_any p n f a _ hp hp' hn HF.out Ha.out).mono fun e w2 ⟨he, hw2⟩ => ⟨he, hK _ _ hW hw2⟩))); simp only [Act.put, List.setIfInBounds_toArray, List.set_cons_zero, List.set_cons_succ])
 iterate 2 (refine e_plain rfl ?_; apply Exists.intro; refine ⟨fun D hD hK W hW => ?_, ?_⟩; (focus (obtain ⟨x4, y4⟩ := keepB (hD W hW) z4_1 r4_1 c4_1; obtain ⟨x5, y5⟩ := keepB (hD W hW) z5_1 r5_1 c5_1; obtain ⟨x6, y6⟩ := keepB (hD W hW) z6_1 r6_1 c6_1; obtain ⟨x8, y8⟩ := keepB (hD W hW) z8_1 r8_1 c8_1; unfold Oper.quietAt; go_simp; first | done | rfl)); simp only [Act.put, List.setIfInBounds_toArray, List.set_cons_zero, List.set_cons_succ])
 (refine e_plain rfl ?_; apply Exists.intro; refine ⟨fun D hD hK W hW => ?_, ?_⟩; (focus (obtain ⟨x4, y4⟩ := keepB (hD W hW) z4_1 r4_1 c4_1; obtain ⟨x5, y5⟩ := keepB (hD W hW) z5_1 r5_1 c5_1; obtain ⟨x6, y6⟩ := keepB (hD W hW) z6_1 r6_1 c6_1; obtain ⟨x8, y8⟩ := keepB (hD W hW) z8_1 r8_1 c8_1; unfold Oper.quietAt; go_simp; (go_at_call 57; exact (l03Algebra_any _ _ _ _).mono fun e w2 ⟨he, hw2⟩ => ⟨he, hK _ _ hW hw2⟩))); simp only [Act.put, List.setIfInBounds_toArray, List.set_cons_zero, List.set_cons_succ])
 refine e_nil ?_
 refine ⟨row 64 (copS p (coF f) a n n 0), fun b W hr hc => ?_, ?_⟩
 · simp [go_sem, hr, hc, Act.eval]
 intro a2 b2 d2 W2 hw2 mk1_2 mk2_2 mk3_2 hne1_2 hne2_2 hne3_2
 obtain ⟨hl0_2, mr0_2, mc0_2⟩ := mk1_2
 obtain ⟨hl1_2, mr1_2, mc1_2⟩ := mk2_2
 obtain ⟨hl2_2, mr2_2, mc2_2⟩ := mk3_2
 have n4_9 : (w.heap.size) ≠ (a2) := by have := z4_1; omega
 have n9_4 : (a2) ≠ (w.heap.size) := by have := z4_1; omega
 have n4_10 : (w.heap.size) ≠ (b2) := by have := z4_1; omega
 have n10_4 : (b2) ≠ (w.heap.size) := by have := z4_1; omega
 have n4_11 : (w.heap.size) ≠ (d2) := by have := z4_1; omega
 have n11_4 : (d2) ≠ (w.heap.size) := by have := z4_1; omega
 have n5_9 : (w.heap.size + 1) ≠ (a2) := by have := z5_1; omega
 have n9_5 : (a2) ≠ (w.heap.size + 1) := by have := z5_1; omega
 have n5_10 : (w.heap.size + 1) ≠ (b2) := by have := z5_1; omega
 have n10_5 : (b2) ≠ (w.heap.size + 1) := by have := z5_1; omega
 have n5_11 : (w.heap.size + 1) ≠ (d2) := by have := z5_1; omega
 have n11_5 : (d2) ≠ (w.heap.size + 1) := by have := z5_1; omega
 have n6_9 : (w.heap.size + 2) ≠ (a2) := by have := z6_1; omega
 have n9_6 : (a2) ≠ (w.heap.size + 2) := by have := z6_1; omega
 have n6_10 : (w.heap.size + 2) ≠ (b2) := by have := z6_1; omega
 have n10_6 : (b2) ≠ (w.heap.size + 2) := by have := z6_1; omega
 have n6_11 : (w.heap.size + 2) ≠ (d2) := by have := z6_1; omega
 have n11_6 : (d2) ≠ (w.heap.size + 2) := by have := z6_1; omega
 have n8_9 : (w.heap.size + 3) ≠ (a2) := by have := z8_1; omega
 have n9_8 : (a2) ≠ (w.heap.size + 3) := by have := z8_1; omega
 have n8_10 : (w.heap.size + 3) ≠ (b2) := by have := z8_1; omega
 have n10_8 : (b2) ≠ (w.heap.size + 3) := by have := z8_1; omega
 have n8_11 : (w.heap.size + 3) ≠ (d2) := by have := z8_1; omega
 have n11_8 : (d2) ≠ (w.heap.size + 3) := by have := z8_1; omega
 obtain ⟨r4_2, c4_2, z4_2⟩ := keepZ hw2 z4_1 r4_1 c4_1
 obtain ⟨r5_2, c5_2, z5_2⟩ := keepZ hw2 z5_1 r5_1 c5_1
 obtain ⟨r6_2, c6_2, z6_2⟩ := keepZ hw2 z6_1 r6_1 c6_1
 obtain ⟨r8_2, c8_2, z8_2⟩ := keepZ hw2 z8_1 r8_1 c8_1
 obtain ⟨hb2, q2⟩ := bN hb1 hw2
 clear hw2 r4_1 c4_1 z4_1 r5_1 c5_1 z5_1 r6_1 c6_1 z6_1 r8_1 c8_1 z8_1 hb1
 have n9_10 : (a2) ≠ (b2) := hne1_2
 have n10_9 : (b2) ≠ (a2) := Ne.symm hne1_2
 have n9_11 : (a2) ≠ (d2) := hne2_2
 have n11_9 : (d2) ≠ (a2) := Ne.symm hne2_2
 have n10_11 : (b2) ≠ (d2) := hne3_2
 have n11_10 : (d2) ≠ (b2) := Ne.symm hne3_2
 have z9_2 := isRow_lt mr0_2
 have z10_2 := isRow_lt mr1_2
 have z11_2 := isRow_lt mr2_2
 simp only [Act.put, List.setIfInBounds_toArray, List.set_cons_zero, List.set_cons_succ]
 go_wp2
 refine atomW fun W3 e3 => ?_
 have hb3 : Below w.heap.size w W3 := by rw [e3]; exact bt
 have q3 := hb3.size
 have R3 : IsRow W3 (w.heap.size) ∧ IsRow W3 (w.heap.size + 2) ∧ IsRow W3 (w.heap.size + 3) ∧ IsRow W3 (a2) ∧ IsRow W3 (b2) ∧ IsRow W3 (d2) := by rw [e3]; simp [go_sem, r4_2, c4_2, n4_9, n4_10, n4_11, r6_2, c6_2, n6_9, n6_10, n6_11, r8_2, c8_2, n8_9, n8_10, n8_11, mr0_2, mc0_2, n9_4, n9_5, n9_6, n9_8, n9_10, n9_11, mr1_2, mc1_2, n10_4, n10_5, n10_6, n10_8, n10_9, n10_11, mr2_2, mc2_2, n11_4, n11_5, n11_6, n11_8, n11_9, n11_10, r5_2]
 obtain ⟨r4_3, r6_3, r8_3, r9_3, r10_3, r11_3⟩ := R3
 have C3 := (⟨congrArg (blk · (w.heap.size)) e3, congrArg (blk · (w.heap.size + 2)) e3, congrArg (blk · (w.heap.size + 3)) e3, congrArg (blk · (a2)) e3, congrArg (blk · (b2)) e3, congrArg (blk · (d2)) e3⟩ : _ ∧ _ ∧ _ ∧ _ ∧ _ ∧ _); simp [go_sem, r4_2, c4_2, n4_9, n4_10, n4_11, r6_2, c6_2, n6_9, n6_10, n6_11, r8_2, c8_2, n8_9, n8_10, n8_11, mr0_2, mc0_2, n9_4, n9_5, n9_6, n9_8, n9_10, n9_11, mr1_2, mc1_2, n10_4, n10_5, n10_6, n10_8, n10_9, n10_11, mr2_2, mc2_2, n11_4, n11_5, n11_6, n11_8, n11_9, n11_10, r5_2] at C3
 obtain ⟨c4_3, c6_3, c8_3, c9_3, c10_3, c11_3⟩ := C3
 have z4_3 := isRow_lt r4_3; have z6_3 := isRow_lt r6_3; have z8_3 := isRow_lt r8_3; have z9_3 := isRow_lt r9_3; have z10_3 := isRow_lt r10_3; have z11_3 := isRow_lt r11_3
 clear e3 r4_2 c4_2 z4_2 r6_2 c6_2 z6_2 r8_2 c8_2 z8_2 mr0_2 mc0_2 z9_2 mr1_2 mc1_2 z10_2 mr2_2 mc2_2 z11_2 hb2
 go_loopw [12] (fun s12 wr => ∃ j : Nat, j ≤ n ∧ s12 = .int .i64 j ∧ Below w.heap.size w wr ∧ (IsRow wr (w.heap.size) ∧ blk wr (w.heap.size) = blk W3 (w.heap.size)) ∧ (IsRow wr (w.heap.size + 2) ∧ blk wr (w.heap.size + 2) = blk W3 (w.heap.size + 2)) ∧ (IsRow wr (w.heap.size + 3) ∧ blk wr (w.heap.size + 3) = blk W3 (w.heap.size + 3)) ∧ (IsRow wr (a2) ∧ blk wr (a2) = blk W3 (a2)) ∧ (IsRow wr (b2) ∧ blk wr (b2) = row 8 (adK p n f a b false j 0)) ∧ (IsRow wr (d2) ∧ blk wr (d2) = blk W3 (d2))) (fun s12 _ => n - (intOf s12).toNat)
 case atStart => exact ⟨0, by omega, rfl, hb3, ⟨r4_3, rfl⟩, ⟨r6_3, rfl⟩, ⟨r8_3, rfl⟩, ⟨r9_3, rfl⟩, ⟨r10_3, c10_3.trans (adK_zero p n f a b false)⟩, ⟨r11_3, rfl⟩⟩
 case round =>
  obtain ⟨j, hle4, rfl, hb4, ⟨r4_4, c4_4⟩, ⟨r6_4, c6_4⟩, ⟨r8_4, c8_4⟩, ⟨r9_4, c9_4⟩, ⟨r10_4, c10_4⟩, ⟨r11_4, c11_4⟩⟩ := hrel
  obtain ⟨W4, rfl⟩ : ∃ W4 : World, W4 = wr := ⟨_, rfl⟩
  have q4 := hb4.size
  have E4_4 := Lib.hid c4_3; replace c4_4 := c4_4.trans c4_3
  have z4_4 := isRow_lt r4_4
  have E6_4 := Lib.hid c6_3; replace c6_4 := c6_4.trans c6_3
  have z6_4 := isRow_lt r6_4
  have E8_4 := Lib.hid c8_3; replace c8_4 := c8_4.trans c8_3
  have z8_4 := isRow_lt r8_4
  have E9_4 := Lib.hid c9_3; replace c9_4 := c9_4.trans c9_3
  have z9_4 := isRow_lt r9_4
  have z10_4 := isRow_lt r10_4
  have E11_4 := Lib.hid c11_3; replace c11_4 := c11_4.trans c11_3
  have z11_4 := isRow_lt r11_4
  clear r4_3 c4_3 z4_3 r6_3 c6_3 z6_3 r8_3 c8_3 z8_3 r9_3 c9_3 z9_3 r10_3 c10_3 z10_3 r11_3 c11_3 z11_3 hb3
  by_cases hlt4 : j < n
  ·
   have i0_4 : (0 : Int) ≤ (j : Int) := by omega
   have i8_4 : (j : Int) < 8 := by omega
   have k8_4 : j < 8 := by omega
   have m8_4 : j * 8 + 8 ≤ 64 := by omega
   have m64_4 : j * 64 + 64 ≤ 512 := by omega
   have l1_4 : 10 + j * 64 + 64 ≤ 522 := by omega
   go_wp2
   go_loopw [13] (fun s13 wr => ∃ k : Nat, k ≤ n ∧ s13 = .int .i64 k ∧ Below w.heap.size w wr ∧ (IsRow wr (w.heap.size) ∧ blk wr (w.heap.size) = blk W4 (w.heap.size)) ∧ (IsRow wr (w.heap.size + 2) ∧ blk wr (w.heap.size + 2) = blk W4 (w.heap.size + 2)) ∧ (IsRow wr (w.heap.size + 3) ∧ blk wr (w.heap.size + 3) = blk W4 (w.heap.size + 3)) ∧ (IsRow wr (a2) ∧ blk wr (a2) = blk W4 (a2)) ∧ (IsRow wr (b2) ∧ blk wr (b2) = row 8 (adK p n f a b false j k)) ∧ (IsRow wr (d2) ∧ blk wr (d2) = blk W4 (d2))) (fun s13 _ => n - (intOf s13).toNat)
   case atStart => exact ⟨0, by omega, rfl, hb4, ⟨r4_4, rfl⟩, ⟨r6_4, rfl⟩, ⟨r8_4, rfl⟩, ⟨r9_4, rfl⟩, ⟨r10_4, c10_4⟩, ⟨r11_4, rfl⟩⟩
   case round =>
    obtain ⟨k, hle5, rfl, hb5, ⟨r4_5, c4_5⟩, ⟨r6_5, c6_5⟩, ⟨r8_5, c8_5⟩, ⟨r9_5, c9_5⟩, ⟨r10_5, c10_5⟩, ⟨r11_5, c11_5⟩⟩ := hrel
    obtain ⟨W5, rfl⟩ : ∃ W5 : World, W5 = wr := ⟨_, rfl⟩
    have q5 := hb5.size
    have E4_5 := Lib.hid c4_4; replace c4_5 := c4_5.trans c4_4
    have z4_5 := isRow_lt r4_5
    have E6_5 := Lib.hid c6_4; replace c6_5 := c6_5.trans c6_4
    have z6_5 := isRow_lt r6_5
    have E8_5 := Lib.hid c8_4; replace c8_5 := c8_5.trans c8_4
    have z8_5 := isRow_lt r8_5
    have E9_5 := Lib.hid c9_4; replace c9_5 := c9_5.trans c9_4
    have z9_5 := isRow_lt r9_5
    have z10_5 := isRow_lt r10_5
    have E11_5 := Lib.hid c11_4; replace c11_5 := c11_5.trans c11_4
    have z11_5 := isRow_lt r11_5
    clear r4_4 c4_4 z4_4 r6_4 c6_4 z6_4 r8_4 c8_4 z8_4 r9_4 c9_4 z9_4 r10_4 c10_4 z10_4 r11_4 c11_4 z11_4 hb4
    by_cases hlt5 : k < n
    ·
     have i0_5 : (0 : Int) ≤ (k : Int) := by omega
     have i8_5 : (k : Int) < 8 := by omega
     have k8_5 : k < 8 := by omega
     have m8_5 : k * 8 + 8 ≤ 64 := by omega
     have m64_5 : k * 64 + 64 ≤ 512 := by omega
     have l1_5 : 10 + k * 64 + 64 ≤ 522 := by omega
     have l2_5j : 10 + j * 64 + k * 8 + 8 ≤ 522 := by omega
     have l3_5j : 10 + k * 64 + j * 8 + 8 ≤ 522 := by omega
     have l4_5j : j * 64 + k * 8 + 8 ≤ 512 := by omega
     have l5_5j : k * 64 + j * 8 + 8 ≤ 512 := by omega
     have l6_5j : j * 8 + k < 64 := by omega
     have l7_5j : k * 8 + j < 64 := by omega
     by_cases hz : copS p (coF f) a n n 0 (j * 8 + k) = 0
     ·
      have hz1 : (copS p (coF f) a n n 0 (j * 8 + k) == 0) = true := by simpa using hz
      have HZ := Lib.hid (adK_skip (b := b) (r := false) hz)
      clear hz
      have HFb := Lib.hid (hop_bytes HF.out)
      have ha1 := hop_antR p n f j (by omega)
      have ha2 := hop_antR p n f k (by omega)
      have l1 : 1042 + j * 8 + 8 ≤ 1106 := by omega
      have l3 : 1042 + k * 8 + 8 ≤ 1106 := by omega
      have l2 : j * 8 + k < 64 := by omega
      have HX1 : Hid (Bytes 8 (ebas j)) := Lib.hid (adA_bytes HF.out false (i := j) (by omega))
      have HX2 : Hid (Bytes 8 (antR f k)) := Lib.hid (adB_bytes HF.out false (i := k) (by omega))
      have HL : Hid (Bytes 8 (mulF p n (mtab f) (ebas j) b)) := Lib.hid (mulF_bytes hp hp' _ _ _ _)
      have HP : Hid (Bytes 8 (adP p n f b false j k)) := Lib.hid (mulF_bytes hp hp' _ _ _ _)
      have HK := Lib.hid (adK_bytes hp hp' n f a b false j k)
      have hb := copS_bytes hp hp' (coF f) a n n 0 (j * 8 + k)
      have w1 : IntKind.i64.wrap (copS p (coF f) a n n 0 (j * 8 + k)) = copS p (coF f) a n n 0 (j * 8 + k) := IntWalk.i64_in _ (by omega)
      go_wp2
      go_roundw
      case rel => exact ⟨k + 1, by omega, by go_num, bt, ⟨by simp [go_sem, r4_5, c4_5, n4_9, n4_10, n4_11, r6_5, c6_5, n6_9, n6_10, n6_11, r8_5, c8_5, n8_9, n8_10, n8_11, r9_5, c9_5, n9_4, n9_6, n9_8, n9_10, n9_11, r10_5, c10_5, n10_4, n10_6, n10_8, n10_9, n10_11, r11_5, c11_5, n11_4, n11_6, n11_8, n11_9, n11_10], (by rw [E4_5.out]; first | exact c4_5 | (simp [go_sem, r4_5, c4_5, n4_9, n4_10, n4_11, r6_5, c6_5, n6_9, n6_10, n6_11, r8_5, c8_5, n8_9, n8_10, n8_11, r9_5, c9_5, n9_4, n9_6, n9_8, n9_10, n9_11, r10_5, c10_5, n10_4, n10_6, n10_8, n10_9, n10_11, r11_5, c11_5, n11_4, n11_6, n11_8, n11_9, n11_10]; done))⟩, ⟨by simp [go_sem, r4_5, c4_5, n4_9, n4_10, n4_11, r6_5, c6_5, n6_9, n6_10, n6_11, r8_5, c8_5, n8_9, n8_10, n8_11, r9_5, c9_5, n9_4, n9_6, n9_8, n9_10, n9_11, r10_5, c10_5, n10_4, n10_6, n10_8, n10_9, n10_11, r11_5, c11_5, n11_4, n11_6, n11_8, n11_9, n11_10], (by rw [E6_5.out]; first | exact c6_5 | (simp [go_sem, r4_5, c4_5, n4_9, n4_10, n4_11, r6_5, c6_5, n6_9, n6_10, n6_11, r8_5, c8_5, n8_9, n8_10, n8_11, r9_5, c9_5, n9_4, n9_6, n9_8, n9_10, n9_11, r10_5, c10_5, n10_4, n10_6, n10_8, n10_9, n10_11, r11_5, c11_5, n11_4, n11_6, n11_8, n11_9, n11_10]; done))⟩, ⟨by simp [go_sem, r4_5, c4_5, n4_9, n4_10, n4_11, r6_5, c6_5, n6_9, n6_10, n6_11, r8_5, c8_5, n8_9, n8_10, n8_11, r9_5, c9_5, n9_4, n9_6, n9_8, n9_10, n9_11, r10_5, c10_5, n10_4, n10_6, n10_8, n10_9, n10_11, r11_5, c11_5, n11_4, n11_6, n11_8, n11_9, n11_10], (by rw [E8_5.out]; first | exact c8_5 | (simp [go_sem, r4_5, c4_5, n4_9, n4_10, n4_11, r6_5, c6_5, n6_9, n6_10, n6_11, r8_5, c8_5, n8_9, n8_10, n8_11, r9_5, c9_5, n9_4, n9_6, n9_8, n9_10, n9_11, r10_5, c10_5, n10_4, n10_6, n10_8, n10_9, n10_11, r11_5, c11_5, n11_4, n11_6, n11_8, n11_9, n11_10]; done))⟩, ⟨by simp [go_sem, r4_5, c4_5, n4_9, n4_10, n4_11, r6_5, c6_5, n6_9, n6_10, n6_11, r8_5, c8_5, n8_9, n8_10, n8_11, r9_5, c9_5, n9_4, n9_6, n9_8, n9_10, n9_11, r10_5, c10_5, n10_4, n10_6, n10_8, n10_9, n10_11, r11_5, c11_5, n11_4, n11_6, n11_8, n11_9, n11_10], (by rw [E9_5.out]; first | exact c9_5 | (simp [go_sem, r4_5, c4_5, n4_9, n4_10, n4_11, r6_5, c6_5, n6_9, n6_10, n6_11, r8_5, c8_5, n8_9, n8_10, n8_11, r9_5, c9_5, n9_4, n9_6, n9_8, n9_10, n9_11, r10_5, c10_5, n10_4, n10_6, n10_8, n10_9, n10_11, r11_5, c11_5, n11_4, n11_6, n11_8, n11_9, n11_10]; done))⟩, ⟨by simp [go_sem, r4_5, c4_5, n4_9, n4_10, n4_11, r6_5, c6_5, n6_9, n6_10, n6_11, r8_5, c8_5, n8_9, n8_10, n8_11, r9_5, c9_5, n9_4, n9_6, n9_8, n9_10, n9_11, r10_5, c10_5, n10_4, n10_6, n10_8, n10_9, n10_11, r11_5, c11_5, n11_4, n11_6, n11_8, n11_9, n11_10], (by first | exact (c10_5).trans (HZ.out) | (simp [go_sem, r4_5, c4_5, n4_9, n4_10, n4_11, r6_5, c6_5, n6_9, n6_10, n6_11, r8_5, c8_5, n8_9, n8_10, n8_11, r9_5, c9_5, n9_4, n9_6, n9_8, n9_10, n9_11, r10_5, c10_5, n10_4, n10_6, n10_8, n10_9, n10_11, r11_5, c11_5, n11_4, n11_6, n11_8, n11_9, n11_10]; exact HZ.out))⟩, ⟨by simp [go_sem, r4_5, c4_5, n4_9, n4_10, n4_11, r6_5, c6_5, n6_9, n6_10, n6_11, r8_5, c8_5, n8_9, n8_10, n8_11, r9_5, c9_5, n9_4, n9_6, n9_8, n9_10, n9_11, r10_5, c10_5, n10_4, n10_6, n10_8, n10_9, n10_11, r11_5, c11_5, n11_4, n11_6, n11_8, n11_9, n11_10], (by rw [E11_5.out]; first | exact c11_5 | (simp [go_sem, r4_5, c4_5, n4_9, n4_10, n4_11, r6_5, c6_5, n6_9, n6_10, n6_11, r8_5, c8_5, n8_9, n8_10, n8_11, r9_5, c9_5, n9_4, n9_6, n9_8, n9_10, n9_11, r10_5, c10_5, n10_4, n10_6, n10_8, n10_9, n10_11, r11_5, c11_5, n11_4, n11_6, n11_8, n11_9, n11_10]; done))⟩⟩
      case measure => simp [intOf]; try omega
     ·
      have hz1 : (copS p (coF f) a n n 0 (j * 8 + k) == 0) = false := by simpa using hz
      clear hz
      have HFb := Lib.hid (hop_bytes HF.out)
      have ha1 := hop_antR p n f j (by omega)
      have ha2 := hop_antR p n f k (by omega)
      have l1 : 1042 + j * 8 + 8 ≤ 1106 := by omega
      have l3 : 1042 + k * 8 + 8 ≤ 1106 := by omega
      have l2 : j * 8 + k < 64 := by omega
      have HX1 : Hid (Bytes 8 (ebas j)) := Lib.hid (adA_bytes HF.out false (i := j) (by omega))
      have HX2 : Hid (Bytes 8 (antR f k)) := Lib.hid (adB_bytes HF.out false (i := k) (by omega))
      have HL : Hid (Bytes 8 (mulF p n (mtab f) (ebas j) b)) := Lib.hid (mulF_bytes hp hp' _ _ _ _)
      have HP : Hid (Bytes 8 (adP p n f b false j k)) := Lib.hid (mulF_bytes hp hp' _ _ _ _)
      have HK := Lib.hid (adK_bytes hp hp' n f a b false j k)
      have hb := copS_bytes hp hp' (coF f) a n n 0 (j * 8 + k)
      have w1 : IntKind.i64.wrap (copS p (coF f) a n n 0 (j * 8 + k)) = copS p (coF f) a n n 0 (j * 8 + k) := IntWalk.i64_in _ (by omega)
      go_wp2
      refine wp_quiet_made2s 6 1 _ _ _ (row 8 zf) (row 8 zf) 38 38 38 14 41 (by kernel_rfl) rfl rfl rfl rfl rfl rfl rfl (by simp) rfl (by kernel_rfl) (fun a W => (xallocVec _ _ _ _ _ _ _).trans (allocVec W)) (fun a W => (xallocVec _ _ _ _ _ _ _).trans (allocVec W)) (fun A W => rfl) ?_
      simp only [List.take_succ_cons, List.take_zero, List.drop_succ_cons, List.drop_zero, List.eraseIdx_cons_succ, List.eraseIdx_cons_zero]
      iterate 1 (refine e_plain rfl ?_; apply Exists.intro; refine ⟨fun D hD hK W hW => ?_, ?_⟩; (focus (obtain ⟨x4, y4⟩ := keepB (hD W hW) z4_5 r4_5 c4_5; obtain ⟨x6, y6⟩ := keepB (hD W hW) z6_5 r6_5 c6_5; obtain ⟨x8, y8⟩ := keepB (hD W hW) z8_5 r8_5 c8_5; obtain ⟨x9, y9⟩ := keepB (hD W hW) z9_5 r9_5 c9_5; obtain ⟨x10, y10⟩ := keepB (hD W hW) z10_5 r10_5 c10_5; obtain ⟨x11, y11⟩ := keepB (hD W hW) z11_5 r11_5 c11_5; unfold Oper.quietAt; go_simp; first | done | rfl)); simp only [Act.put, List.setIfInBounds_toArray, List.set_cons_zero, List.set_cons_succ])
      (refine e_plain rfl ?_; apply Exists.intro; refine ⟨fun D hD hK W hW => ?_, ?_⟩; (focus (obtain ⟨x4, y4⟩ := keepB (hD W hW) z4_5 r4_5 c4_5; obtain ⟨x6, y6⟩ := keepB (hD W hW) z6_5 r6_5 c6_5; obtain ⟨x8, y8⟩ := keepB (hD W hW) z8_5 r8_5 c8_5; obtain ⟨x9, y9⟩ := keepB (hD W hW) z9_5 r9_5 c9_5; obtain ⟨x10, y10⟩ := keepB (hD W hW) z10_5 r10_5 c10_5; obtain ⟨x11, y11⟩ := keepB (hD W hW) z11_5 r11_5 c11_5; unfold Oper.quietAt; go_simp; (go_at_call 58; exact (l01BasisAt j (by omega) _).mono fun e w2 ⟨he, hw2⟩ => ⟨he, hK _ _ hW hw2⟩))); simp only [Act.put, List.setIfInBounds_toArray, List.set_cons_zero, List.set_cons_succ])
      iterate 4 (refine e_plain rfl ?_; apply Exists.intro; refine ⟨fun D hD hK W hW => ?_, ?_⟩; (focus (obtain ⟨x4, y4⟩ := keepB (hD W hW) z4_5 r4_5 c4_5; obtain ⟨x6, y6⟩ := keepB (hD W hW) z6_5 r6_5 c6_5; obtain ⟨x8, y8⟩ := keepB (hD W hW) z8_5 r8_5 c8_5; obtain ⟨x9, y9⟩ := keepB (hD W hW) z9_5 r9_5 c9_5; obtain ⟨x10, y10⟩ := keepB (hD W hW) z10_5 r10_5 c10_5; obtain ⟨x11, y11⟩ := keepB (hD W hW) z11_5 r11_5 c11_5; unfold Oper.quietAt; go_simp; first | done | rfl)); simp only [Act.put, List.setIfInBounds_toArray, List.set_cons_zero, List.set_cons_succ])
      refine e_nil ?_
      refine ⟨row 8 (ebas j), fun b W hr hc => ?_, ?_⟩
      · simp [go_sem, hr, hc, Act.eval]
      intro a6 b6 W6 hw6 mk1_6 mk2_6 hne6
      obtain ⟨hl1_6, m1_6, m2_6⟩ := mk1_6; obtain ⟨hl2_6, m3_6, m4_6⟩ := mk2_6
      have n4_14 : (w.heap.size) ≠ (a6) := by have := z4_5; omega
      have n14_4 : (a6) ≠ (w.heap.size) := by have := z4_5; omega
      have n4_15 : (w.heap.size) ≠ (b6) := by have := z4_5; omega
      have n15_4 : (b6) ≠ (w.heap.size) := by have := z4_5; omega
      have n6_14 : (w.heap.size + 2) ≠ (a6) := by have := z6_5; omega
      have n14_6 : (a6) ≠ (w.heap.size + 2) := by have := z6_5; omega
      have n6_15 : (w.heap.size + 2) ≠ (b6) := by have := z6_5; omega
      have n15_6 : (b6) ≠ (w.heap.size + 2) := by have := z6_5; omega
      have n8_14 : (w.heap.size + 3) ≠ (a6) := by have := z8_5; omega
      have n14_8 : (a6) ≠ (w.heap.size + 3) := by have := z8_5; omega
      have n8_15 : (w.heap.size + 3) ≠ (b6) := by have := z8_5; omega
      have n15_8 : (b6) ≠ (w.heap.size + 3) := by have := z8_5; omega
      have n9_14 : (a2) ≠ (a6) := by have := z9_5; omega
      have n14_9 : (a6) ≠ (a2) := by have := z9_5; omega
      have n9_15 : (a2) ≠ (b6) := by have := z9_5; omega
      have n15_9 : (b6) ≠ (a2) := by have := z9_5; omega
      have n10_14 : (b2) ≠ (a6) := by have := z10_5; omega
      have n14_10 : (a6) ≠ (b2) := by have := z10_5; omega
      have n10_15 : (b2) ≠ (b6) := by have := z10_5; omega
      have n15_10 : (b6) ≠ (b2) := by have := z10_5; omega
      have n11_14 : (d2) ≠ (a6) := by have := z11_5; omega
      have n14_11 : (a6) ≠ (d2) := by have := z11_5; omega
      have n11_15 : (d2) ≠ (b6) := by have := z11_5; omega
      have n15_11 : (b6) ≠ (d2) := by have := z11_5; omega
      obtain ⟨r4_6, c4_6, z4_6⟩ := keepZ hw6 z4_5 r4_5 c4_5
      obtain ⟨r6_6, c6_6, z6_6⟩ := keepZ hw6 z6_5 r6_5 c6_5
      obtain ⟨r8_6, c8_6, z8_6⟩ := keepZ hw6 z8_5 r8_5 c8_5
      obtain ⟨r9_6, c9_6, z9_6⟩ := keepZ hw6 z9_5 r9_5 c9_5
      obtain ⟨r10_6, c10_6, z10_6⟩ := keepZ hw6 z10_5 r10_5 c10_5
      obtain ⟨r11_6, c11_6, z11_6⟩ := keepZ hw6 z11_5 r11_5 c11_5
      obtain ⟨hb6, q6⟩ := bN hb5 hw6
      clear hw6 r4_5 c4_5 z4_5 r6_5 c6_5 z6_5 r8_5 c8_5 z8_5 r9_5 c9_5 z9_5 r10_5 c10_5 z10_5 r11_5 c11_5 z11_5 hb5
      have n14_15 : (a6) ≠ (b6) := hne6
      have n15_14 : (b6) ≠ (a6) := Ne.symm hne6
      have z14_6 := isRow_lt m1_6
      have z15_6 := isRow_lt m3_6
      simp only [Act.put, List.setIfInBounds_toArray, List.set_cons_zero, List.set_cons_succ]
      go_wp2
      refine atomW fun W7 e7 => ?_
      have hb7 : Below w.heap.size w W7 := by rw [e7]; exact bt
      have q7 := hb7.size
      have R7 : IsRow W7 (w.heap.size) ∧ IsRow W7 (w.heap.size + 2) ∧ IsRow W7 (w.heap.size + 3) ∧ IsRow W7 (a2) ∧ IsRow W7 (b2) ∧ IsRow W7 (d2) ∧ IsRow W7 (a6) ∧ IsRow W7 (b6) := by rw [e7]; simp [go_sem, r4_6, c4_6, n4_9, n4_10, n4_11, n4_14, n4_15, r6_6, c6_6, n6_9, n6_10, n6_11, n6_14, n6_15, r8_6, c8_6, n8_9, n8_10, n8_11, n8_14, n8_15, r9_6, c9_6, n9_4, n9_6, n9_8, n9_10, n9_11, n9_14, n9_15, r10_6, c10_6, n10_4, n10_6, n10_8, n10_9, n10_11, n10_14, n10_15, r11_6, c11_6, n11_4, n11_6, n11_8, n11_9, n11_10, n11_14, n11_15, m1_6, m2_6, n14_4, n14_6, n14_8, n14_9, n14_10, n14_11, n14_15, m3_6, m4_6, n15_4, n15_6, n15_8, n15_9, n15_10, n15_11, n15_14]
      obtain ⟨r4_7, r6_7, r8_7, r9_7, r10_7, r11_7, r14_7, r15_7⟩ := R7
      have C7 := (⟨congrArg (blk · (w.heap.size)) e7, congrArg (blk · (w.heap.size + 2)) e7, congrArg (blk · (w.heap.size + 3)) e7, congrArg (blk · (a2)) e7, congrArg (blk · (b2)) e7, congrArg (blk · (d2)) e7, congrArg (blk · (a6)) e7, congrArg (blk · (b6)) e7⟩ : _ ∧ _ ∧ _ ∧ _ ∧ _ ∧ _ ∧ _ ∧ _); simp [go_sem, r4_6, c4_6, n4_9, n4_10, n4_11, n4_14, n4_15, r6_6, c6_6, n6_9, n6_10, n6_11, n6_14, n6_15, r8_6, c8_6, n8_9, n8_10, n8_11, n8_14, n8_15, r9_6, c9_6, n9_4, n9_6, n9_8, n9_10, n9_11, n9_14, n9_15, r10_6, c10_6, n10_4, n10_6, n10_8, n10_9, n10_11, n10_14, n10_15, r11_6, c11_6, n11_4, n11_6, n11_8, n11_9, n11_10, n11_14, n11_15, m1_6, m2_6, n14_4, n14_6, n14_8, n14_9, n14_10, n14_11, n14_15, m3_6, m4_6, n15_4, n15_6, n15_8, n15_9, n15_10, n15_11, n15_14] at C7
      obtain ⟨c4_7, c6_7, c8_7, c9_7, c10_7, c11_7, c14_7, c15_7⟩ := C7
      have z4_7 := isRow_lt r4_7; have z6_7 := isRow_lt r6_7; have z8_7 := isRow_lt r8_7; have z9_7 := isRow_lt r9_7; have z10_7 := isRow_lt r10_7; have z11_7 := isRow_lt r11_7; have z14_7 := isRow_lt r14_7; have z15_7 := isRow_lt r15_7
      clear e7 r4_6 c4_6 z4_6 r6_6 c6_6 z6_6 r8_6 c8_6 z8_6 r9_6 c9_6 z9_6 r10_6 c10_6 z10_6 r11_6 c11_6 z11_6 m1_6 m2_6 z14_6 m3_6 m4_6 z15_6 hb6
      refine wp_quiet_tail 17 (Below W7.heap.size W7) (by kernel_rfl) (by kernel_rfl) (Below.refl _ _).drew ?_
      simp only [List.take_succ_cons, List.take_zero, List.drop_succ_cons, List.drop_zero]
      iterate 7 (refine q_plain rfl ?_; apply Exists.intro; refine ⟨fun W hW => ?_, ?_⟩; (focus (obtain ⟨x4, y4⟩ := keepB hW z4_7 r4_7 c4_7; obtain ⟨x6, y6⟩ := keepB hW z6_7 r6_7 c6_7; obtain ⟨x8, y8⟩ := keepB hW z8_7 r8_7 c8_7; obtain ⟨x9, y9⟩ := keepB hW z9_7 r9_7 c9_7; obtain ⟨x10, y10⟩ := keepB hW z10_7 r10_7 c10_7; obtain ⟨x11, y11⟩ := keepB hW z11_7 r11_7 c11_7; obtain ⟨x14, y14⟩ := keepB hW z14_7 r14_7 c14_7; obtain ⟨x15, y15⟩ := keepB hW z15_7 r15_7 c15_7; go_simp; first | done | rfl)); simp only [Act.put, List.setIfInBounds_toArray, List.set_cons_zero, List.set_cons_succ])
      (refine q_plain rfl ?_; apply Exists.intro; refine ⟨fun W hW => ?_, ?_⟩; (focus (obtain ⟨x4, y4⟩ := keepB hW z4_7 r4_7 c4_7; obtain ⟨x6, y6⟩ := keepB hW z6_7 r6_7 c6_7; obtain ⟨x8, y8⟩ := keepB hW z8_7 r8_7 c8_7; obtain ⟨x9, y9⟩ := keepB hW z9_7 r9_7 c9_7; obtain ⟨x10, y10⟩ := keepB hW z10_7 r10_7 c10_7; obtain ⟨x11, y11⟩ := keepB hW z11_7 r11_7 c11_7; obtain ⟨x14, y14⟩ := keepB hW z14_7 r14_7 c14_7; obtain ⟨x15, y15⟩ := keepB hW z15_7 r15_7 c15_7; go_simp; (go_at_call 60; exact (l01Times_any p n f (ebas j) b _ hp hp' hn HFb.out HX1.out Hb.out).mono fun e w2 ⟨he, hw2⟩ => ⟨he, hW.trans (hw2.mono hW.size)⟩))); simp only [Act.put, List.setIfInBounds_toArray, List.set_cons_zero, List.set_cons_succ])
      iterate 1 (refine q_plain rfl ?_; apply Exists.intro; refine ⟨fun W hW => ?_, ?_⟩; (focus (obtain ⟨x4, y4⟩ := keepB hW z4_7 r4_7 c4_7; obtain ⟨x6, y6⟩ := keepB hW z6_7 r6_7 c6_7; obtain ⟨x8, y8⟩ := keepB hW z8_7 r8_7 c8_7; obtain ⟨x9, y9⟩ := keepB hW z9_7 r9_7 c9_7; obtain ⟨x10, y10⟩ := keepB hW z10_7 r10_7 c10_7; obtain ⟨x11, y11⟩ := keepB hW z11_7 r11_7 c11_7; obtain ⟨x14, y14⟩ := keepB hW z14_7 r14_7 c14_7; obtain ⟨x15, y15⟩ := keepB hW z15_7 r15_7 c15_7; go_simp; first | done | rfl)); simp only [Act.put, List.setIfInBounds_toArray, List.set_cons_zero, List.set_cons_succ])
      (refine q_plain rfl ?_; apply Exists.intro; refine ⟨fun W hW => ?_, ?_⟩; (focus (obtain ⟨x4, y4⟩ := keepB hW z4_7 r4_7 c4_7; obtain ⟨x6, y6⟩ := keepB hW z6_7 r6_7 c6_7; obtain ⟨x8, y8⟩ := keepB hW z8_7 r8_7 c8_7; obtain ⟨x9, y9⟩ := keepB hW z9_7 r9_7 c9_7; obtain ⟨x10, y10⟩ := keepB hW z10_7 r10_7 c10_7; obtain ⟨x11, y11⟩ := keepB hW z11_7 r11_7 c11_7; obtain ⟨x14, y14⟩ := keepB hW z14_7 r14_7 c14_7; obtain ⟨x15, y15⟩ := keepB hW z15_7 r15_7 c15_7; go_simp; (go_at_call 60; exact (l01Times_any p n f (mulF p n (mtab f) (ebas j) b) (antR f k) _ hp hp' hn HFb.out HL.out HX2.out).mono fun e w2 ⟨he, hw2⟩ => ⟨he, hW.trans (hw2.mono hW.size)⟩))); simp only [Act.put, List.setIfInBounds_toArray, List.set_cons_zero, List.set_cons_succ])
      iterate 6 (refine q_plain rfl ?_; apply Exists.intro; refine ⟨fun W hW => ?_, ?_⟩; (focus (obtain ⟨x4, y4⟩ := keepB hW z4_7 r4_7 c4_7; obtain ⟨x6, y6⟩ := keepB hW z6_7 r6_7 c6_7; obtain ⟨x8, y8⟩ := keepB hW z8_7 r8_7 c8_7; obtain ⟨x9, y9⟩ := keepB hW z9_7 r9_7 c9_7; obtain ⟨x10, y10⟩ := keepB hW z10_7 r10_7 c10_7; obtain ⟨x11, y11⟩ := keepB hW z11_7 r11_7 c11_7; obtain ⟨x14, y14⟩ := keepB hW z14_7 r14_7 c14_7; obtain ⟨x15, y15⟩ := keepB hW z15_7 r15_7 c15_7; go_simp; first | done | rfl)); simp only [Act.put, List.setIfInBounds_toArray, List.set_cons_zero, List.set_cons_succ])
      (refine q_plain rfl ?_; apply Exists.intro; refine ⟨fun W hW => ?_, ?_⟩; (focus (obtain ⟨x4, y4⟩ := keepB hW z4_7 r4_7 c4_7; obtain ⟨x6, y6⟩ := keepB hW z6_7 r6_7 c6_7; obtain ⟨x8, y8⟩ := keepB hW z8_7 r8_7 c8_7; obtain ⟨x9, y9⟩ := keepB hW z9_7 r9_7 c9_7; obtain ⟨x10, y10⟩ := keepB hW z10_7 r10_7 c10_7; obtain ⟨x11, y11⟩ := keepB hW z11_7 r11_7 c11_7; obtain ⟨x14, y14⟩ := keepB hW z14_7 r14_7 c14_7; obtain ⟨x15, y15⟩ := keepB hW z15_7 r15_7 c15_7; go_simp; (go_at_call 59; exact (l01Add_any p (copS p (coF f) a n n 0 (j * 8 + k)) (adK p n f a b false j k) (adP p n f b false j k) _ hp hp' (by omega) (by omega) HK.out HP.out).mono fun e w2 ⟨he, hw2⟩ => ⟨he, hW.trans (hw2.mono hW.size)⟩))); simp only [Act.put, List.setIfInBounds_toArray, List.set_cons_zero, List.set_cons_succ])
      refine wpQuiet_nil ?_
      intro W8 hw8
      obtain ⟨r4_8, c4_8, z4_8⟩ := keepZ hw8 z4_7 r4_7 c4_7
      obtain ⟨r6_8, c6_8, z6_8⟩ := keepZ hw8 z6_7 r6_7 c6_7
      obtain ⟨r8_8, c8_8, z8_8⟩ := keepZ hw8 z8_7 r8_7 c8_7
      obtain ⟨r9_8, c9_8, z9_8⟩ := keepZ hw8 z9_7 r9_7 c9_7
      obtain ⟨r10_8, c10_8, z10_8⟩ := keepZ hw8 z10_7 r10_7 c10_7
      obtain ⟨r11_8, c11_8, z11_8⟩ := keepZ hw8 z11_7 r11_7 c11_7
      obtain ⟨r14_8, c14_8, z14_8⟩ := keepZ hw8 z14_7 r14_7 c14_7
      obtain ⟨r15_8, c15_8, z15_8⟩ := keepZ hw8 z15_7 r15_7 c15_7
      obtain ⟨hb8, q8⟩ := bN hb7 hw8
      clear hw8 r4_7 c4_7 z4_7 r6_7 c6_7 z6_7 r8_7 c8_7 z8_7 r9_7 c9_7 z9_7 r10_7 c10_7 z10_7 r11_7 c11_7 z11_7 r14_7 c14_7 z14_7 r15_7 c15_7 z15_7 hb7
      go_wp2
      go_roundw
      case rel => exact ⟨k + 1, by omega, by go_num, bt, ⟨by simp [go_sem, r4_8, c4_8, n4_9, n4_10, n4_11, n4_14, n4_15, r6_8, c6_8, n6_9, n6_10, n6_11, n6_14, n6_15, r8_8, c8_8, n8_9, n8_10, n8_11, n8_14, n8_15, r9_8, c9_8, n9_4, n9_6, n9_8, n9_10, n9_11, n9_14, n9_15, r10_8, c10_8, n10_4, n10_6, n10_8, n10_9, n10_11, n10_14, n10_15, r11_8, c11_8, n11_4, n11_6, n11_8, n11_9, n11_10, n11_14, n11_15, r14_8, c14_8, n14_4, n14_6, n14_8, n14_9, n14_10, n14_11, n14_15, r15_8, c15_8, n15_4, n15_6, n15_8, n15_9, n15_10, n15_11, n15_14], (by rw [E4_5.out]; first | exact c4_8 | (simp [go_sem, r4_8, c4_8, n4_9, n4_10, n4_11, n4_14, n4_15, r6_8, c6_8, n6_9, n6_10, n6_11, n6_14, n6_15, r8_8, c8_8, n8_9, n8_10, n8_11, n8_14, n8_15, r9_8, c9_8, n9_4, n9_6, n9_8, n9_10, n9_11, n9_14, n9_15, r10_8, c10_8, n10_4, n10_6, n10_8, n10_9, n10_11, n10_14, n10_15, r11_8, c11_8, n11_4, n11_6, n11_8, n11_9, n11_10, n11_14, n11_15, r14_8, c14_8, n14_4, n14_6, n14_8, n14_9, n14_10, n14_11, n14_15, r15_8, c15_8, n15_4, n15_6, n15_8, n15_9, n15_10, n15_11, n15_14]; done))⟩, ⟨by simp [go_sem, r4_8, c4_8, n4_9, n4_10, n4_11, n4_14, n4_15, r6_8, c6_8, n6_9, n6_10, n6_11, n6_14, n6_15, r8_8, c8_8, n8_9, n8_10, n8_11, n8_14, n8_15, r9_8, c9_8, n9_4, n9_6, n9_8, n9_10, n9_11, n9_14, n9_15, r10_8, c10_8, n10_4, n10_6, n10_8, n10_9, n10_11, n10_14, n10_15, r11_8, c11_8, n11_4, n11_6, n11_8, n11_9, n11_10, n11_14, n11_15, r14_8, c14_8, n14_4, n14_6, n14_8, n14_9, n14_10, n14_11, n14_15, r15_8, c15_8, n15_4, n15_6, n15_8, n15_9, n15_10, n15_11, n15_14], (by rw [E6_5.out]; first | exact c6_8 | (simp [go_sem, r4_8, c4_8, n4_9, n4_10, n4_11, n4_14, n4_15, r6_8, c6_8, n6_9, n6_10, n6_11, n6_14, n6_15, r8_8, c8_8, n8_9, n8_10, n8_11, n8_14, n8_15, r9_8, c9_8, n9_4, n9_6, n9_8, n9_10, n9_11, n9_14, n9_15, r10_8, c10_8, n10_4, n10_6, n10_8, n10_9, n10_11, n10_14, n10_15, r11_8, c11_8, n11_4, n11_6, n11_8, n11_9, n11_10, n11_14, n11_15, r14_8, c14_8, n14_4, n14_6, n14_8, n14_9, n14_10, n14_11, n14_15, r15_8, c15_8, n15_4, n15_6, n15_8, n15_9, n15_10, n15_11, n15_14]; done))⟩, ⟨by simp [go_sem, r4_8, c4_8, n4_9, n4_10, n4_11, n4_14, n4_15, r6_8, c6_8, n6_9, n6_10, n6_11, n6_14, n6_15, r8_8, c8_8, n8_9, n8_10, n8_11, n8_14, n8_15, r9_8, c9_8, n9_4, n9_6, n9_8, n9_10, n9_11, n9_14, n9_15, r10_8, c10_8, n10_4, n10_6, n10_8, n10_9, n10_11, n10_14, n10_15, r11_8, c11_8, n11_4, n11_6, n11_8, n11_9, n11_10, n11_14, n11_15, r14_8, c14_8, n14_4, n14_6, n14_8, n14_9, n14_10, n14_11, n14_15, r15_8, c15_8, n15_4, n15_6, n15_8, n15_9, n15_10, n15_11, n15_14], (by rw [E8_5.out]; first | exact c8_8 | (simp [go_sem, r4_8, c4_8, n4_9, n4_10, n4_11, n4_14, n4_15, r6_8, c6_8, n6_9, n6_10, n6_11, n6_14, n6_15, r8_8, c8_8, n8_9, n8_10, n8_11, n8_14, n8_15, r9_8, c9_8, n9_4, n9_6, n9_8, n9_10, n9_11, n9_14, n9_15, r10_8, c10_8, n10_4, n10_6, n10_8, n10_9, n10_11, n10_14, n10_15, r11_8, c11_8, n11_4, n11_6, n11_8, n11_9, n11_10, n11_14, n11_15, r14_8, c14_8, n14_4, n14_6, n14_8, n14_9, n14_10, n14_11, n14_15, r15_8, c15_8, n15_4, n15_6, n15_8, n15_9, n15_10, n15_11, n15_14]; done))⟩, ⟨by simp [go_sem, r4_8, c4_8, n4_9, n4_10, n4_11, n4_14, n4_15, r6_8, c6_8, n6_9, n6_10, n6_11, n6_14, n6_15, r8_8, c8_8, n8_9, n8_10, n8_11, n8_14, n8_15, r9_8, c9_8, n9_4, n9_6, n9_8, n9_10, n9_11, n9_14, n9_15, r10_8, c10_8, n10_4, n10_6, n10_8, n10_9, n10_11, n10_14, n10_15, r11_8, c11_8, n11_4, n11_6, n11_8, n11_9, n11_10, n11_14, n11_15, r14_8, c14_8, n14_4, n14_6, n14_8, n14_9, n14_10, n14_11, n14_15, r15_8, c15_8, n15_4, n15_6, n15_8, n15_9, n15_10, n15_11, n15_14], (by rw [E9_5.out]; first | exact c9_8 | (simp [go_sem, r4_8, c4_8, n4_9, n4_10, n4_11, n4_14, n4_15, r6_8, c6_8, n6_9, n6_10, n6_11, n6_14, n6_15, r8_8, c8_8, n8_9, n8_10, n8_11, n8_14, n8_15, r9_8, c9_8, n9_4, n9_6, n9_8, n9_10, n9_11, n9_14, n9_15, r10_8, c10_8, n10_4, n10_6, n10_8, n10_9, n10_11, n10_14, n10_15, r11_8, c11_8, n11_4, n11_6, n11_8, n11_9, n11_10, n11_14, n11_15, r14_8, c14_8, n14_4, n14_6, n14_8, n14_9, n14_10, n14_11, n14_15, r15_8, c15_8, n15_4, n15_6, n15_8, n15_9, n15_10, n15_11, n15_14]; done))⟩, ⟨by simp [go_sem, r4_8, c4_8, n4_9, n4_10, n4_11, n4_14, n4_15, r6_8, c6_8, n6_9, n6_10, n6_11, n6_14, n6_15, r8_8, c8_8, n8_9, n8_10, n8_11, n8_14, n8_15, r9_8, c9_8, n9_4, n9_6, n9_8, n9_10, n9_11, n9_14, n9_15, r10_8, c10_8, n10_4, n10_6, n10_8, n10_9, n10_11, n10_14, n10_15, r11_8, c11_8, n11_4, n11_6, n11_8, n11_9, n11_10, n11_14, n11_15, r14_8, c14_8, n14_4, n14_6, n14_8, n14_9, n14_10, n14_11, n14_15, r15_8, c15_8, n15_4, n15_6, n15_8, n15_9, n15_10, n15_11, n15_14], (by first | (rw [blk_setRow _ _ _ _ r10_8, if_pos rfl]; exact adK_step p n f a b false j k) | exact (c10_8).trans (adK_step p n f a b false j k) | (simp [go_sem, r4_8, c4_8, n4_9, n4_10, n4_11, n4_14, n4_15, r6_8, c6_8, n6_9, n6_10, n6_11, n6_14, n6_15, r8_8, c8_8, n8_9, n8_10, n8_11, n8_14, n8_15, r9_8, c9_8, n9_4, n9_6, n9_8, n9_10, n9_11, n9_14, n9_15, r10_8, c10_8, n10_4, n10_6, n10_8, n10_9, n10_11, n10_14, n10_15, r11_8, c11_8, n11_4, n11_6, n11_8, n11_9, n11_10, n11_14, n11_15, r14_8, c14_8, n14_4, n14_6, n14_8, n14_9, n14_10, n14_11, n14_15, r15_8, c15_8, n15_4, n15_6, n15_8, n15_9, n15_10, n15_11, n15_14]; exact adK_step p n f a b false j k))⟩, ⟨by simp [go_sem, r4_8, c4_8, n4_9, n4_10, n4_11, n4_14, n4_15, r6_8, c6_8, n6_9, n6_10, n6_11, n6_14, n6_15, r8_8, c8_8, n8_9, n8_10, n8_11, n8_14, n8_15, r9_8, c9_8, n9_4, n9_6, n9_8, n9_10, n9_11, n9_14, n9_15, r10_8, c10_8, n10_4, n10_6, n10_8, n10_9, n10_11, n10_14, n10_15, r11_8, c11_8, n11_4, n11_6, n11_8, n11_9, n11_10, n11_14, n11_15, r14_8, c14_8, n14_4, n14_6, n14_8, n14_9, n14_10, n14_11, n14_15, r15_8, c15_8, n15_4, n15_6, n15_8, n15_9, n15_10, n15_11, n15_14], (by rw [E11_5.out]; first | exact c11_8 | (simp [go_sem, r4_8, c4_8, n4_9, n4_10, n4_11, n4_14, n4_15, r6_8, c6_8, n6_9, n6_10, n6_11, n6_14, n6_15, r8_8, c8_8, n8_9, n8_10, n8_11, n8_14, n8_15, r9_8, c9_8, n9_4, n9_6, n9_8, n9_10, n9_11, n9_14, n9_15, r10_8, c10_8, n10_4, n10_6, n10_8, n10_9, n10_11, n10_14, n10_15, r11_8, c11_8, n11_4, n11_6, n11_8, n11_9, n11_10, n11_14, n11_15, r14_8, c14_8, n14_4, n14_6, n14_8, n14_9, n14_10, n14_11, n14_15, r15_8, c15_8, n15_4, n15_6, n15_8, n15_9, n15_10, n15_11, n15_14]; done))⟩⟩
      case measure => simp [intOf]; try omega
    ·
     obtain rfl : n = k := by omega
     go_wp2
     go_roundw
     case rel => exact ⟨j + 1, by omega, by go_num, bt, ⟨by simp [go_sem, r4_5, c4_5, n4_9, n4_10, n4_11, r6_5, c6_5, n6_9, n6_10, n6_11, r8_5, c8_5, n8_9, n8_10, n8_11, r9_5, c9_5, n9_4, n9_6, n9_8, n9_10, n9_11, r10_5, c10_5, n10_4, n10_6, n10_8, n10_9, n10_11, r11_5, c11_5, n11_4, n11_6, n11_8, n11_9, n11_10], (by rw [E4_4.out]; first | exact c4_5 | (simp [go_sem, r4_5, c4_5, n4_9, n4_10, n4_11, r6_5, c6_5, n6_9, n6_10, n6_11, r8_5, c8_5, n8_9, n8_10, n8_11, r9_5, c9_5, n9_4, n9_6, n9_8, n9_10, n9_11, r10_5, c10_5, n10_4, n10_6, n10_8, n10_9, n10_11, r11_5, c11_5, n11_4, n11_6, n11_8, n11_9, n11_10]; done))⟩, ⟨by simp [go_sem, r4_5, c4_5, n4_9, n4_10, n4_11, r6_5, c6_5, n6_9, n6_10, n6_11, r8_5, c8_5, n8_9, n8_10, n8_11, r9_5, c9_5, n9_4, n9_6, n9_8, n9_10, n9_11, r10_5, c10_5, n10_4, n10_6, n10_8, n10_9, n10_11, r11_5, c11_5, n11_4, n11_6, n11_8, n11_9, n11_10], (by rw [E6_4.out]; first | exact c6_5 | (simp [go_sem, r4_5, c4_5, n4_9, n4_10, n4_11, r6_5, c6_5, n6_9, n6_10, n6_11, r8_5, c8_5, n8_9, n8_10, n8_11, r9_5, c9_5, n9_4, n9_6, n9_8, n9_10, n9_11, r10_5, c10_5, n10_4, n10_6, n10_8, n10_9, n10_11, r11_5, c11_5, n11_4, n11_6, n11_8, n11_9, n11_10]; done))⟩, ⟨by simp [go_sem, r4_5, c4_5, n4_9, n4_10, n4_11, r6_5, c6_5, n6_9, n6_10, n6_11, r8_5, c8_5, n8_9, n8_10, n8_11, r9_5, c9_5, n9_4, n9_6, n9_8, n9_10, n9_11, r10_5, c10_5, n10_4, n10_6, n10_8, n10_9, n10_11, r11_5, c11_5, n11_4, n11_6, n11_8, n11_9, n11_10], (by rw [E8_4.out]; first | exact c8_5 | (simp [go_sem, r4_5, c4_5, n4_9, n4_10, n4_11, r6_5, c6_5, n6_9, n6_10, n6_11, r8_5, c8_5, n8_9, n8_10, n8_11, r9_5, c9_5, n9_4, n9_6, n9_8, n9_10, n9_11, r10_5, c10_5, n10_4, n10_6, n10_8, n10_9, n10_11, r11_5, c11_5, n11_4, n11_6, n11_8, n11_9, n11_10]; done))⟩, ⟨by simp [go_sem, r4_5, c4_5, n4_9, n4_10, n4_11, r6_5, c6_5, n6_9, n6_10, n6_11, r8_5, c8_5, n8_9, n8_10, n8_11, r9_5, c9_5, n9_4, n9_6, n9_8, n9_10, n9_11, r10_5, c10_5, n10_4, n10_6, n10_8, n10_9, n10_11, r11_5, c11_5, n11_4, n11_6, n11_8, n11_9, n11_10], (by rw [E9_4.out]; first | exact c9_5 | (simp [go_sem, r4_5, c4_5, n4_9, n4_10, n4_11, r6_5, c6_5, n6_9, n6_10, n6_11, r8_5, c8_5, n8_9, n8_10, n8_11, r9_5, c9_5, n9_4, n9_6, n9_8, n9_10, n9_11, r10_5, c10_5, n10_4, n10_6, n10_8, n10_9, n10_11, r11_5, c11_5, n11_4, n11_6, n11_8, n11_9, n11_10]; done))⟩, ⟨by simp [go_sem, r4_5, c4_5, n4_9, n4_10, n4_11, r6_5, c6_5, n6_9, n6_10, n6_11, r8_5, c8_5, n8_9, n8_10, n8_11, r9_5, c9_5, n9_4, n9_6, n9_8, n9_10, n9_11, r10_5, c10_5, n10_4, n10_6, n10_8, n10_9, n10_11, r11_5, c11_5, n11_4, n11_6, n11_8, n11_9, n11_10], (by first | exact (c10_5).trans (adK_row p n f a b false j) | (simp [go_sem, r4_5, c4_5, n4_9, n4_10, n4_11, r6_5, c6_5, n6_9, n6_10, n6_11, r8_5, c8_5, n8_9, n8_10, n8_11, r9_5, c9_5, n9_4, n9_6, n9_8, n9_10, n9_11, r10_5, c10_5, n10_4, n10_6, n10_8, n10_9, n10_11, r11_5, c11_5, n11_4, n11_6, n11_8, n11_9, n11_10]; exact adK_row p n f a b false j))⟩, ⟨by simp [go_sem, r4_5, c4_5, n4_9, n4_10, n4_11, r6_5, c6_5, n6_9, n6_10, n6_11, r8_5, c8_5, n8_9, n8_10, n8_11, r9_5, c9_5, n9_4, n9_6, n9_8, n9_10, n9_11, r10_5, c10_5, n10_4, n10_6, n10_8, n10_9, n10_11, r11_5, c11_5, n11_4, n11_6, n11_8, n11_9, n11_10], (by rw [E11_4.out]; first | exact c11_5 | (simp [go_sem, r4_5, c4_5, n4_9, n4_10, n4_11, r6_5, c6_5, n6_9, n6_10, n6_11, r8_5, c8_5, n8_9, n8_10, n8_11, r9_5, c9_5, n9_4, n9_6, n9_8, n9_10, n9_11, r10_5, c10_5, n10_4, n10_6, n10_8, n10_9, n10_11, r11_5, c11_5, n11_4, n11_6, n11_8, n11_9, n11_10]; done))⟩⟩
     case measure => simp [intOf]; try omega
  ·
   obtain rfl : n = j := by omega
   go_wp2_with fail
   refine bodyPost_ret (result_cell rfl aggVec _ _ (row 8 (adK p n f a b false n 0)) _ rfl ?_ ?_) rfl ⟨rfl, ?_⟩
   · simp [go_sem, r4_4, c4_4, n4_9, n4_10, n4_11, r6_4, c6_4, n6_9, n6_10, n6_11, r8_4, c8_4, n8_9, n8_10, n8_11, r9_4, c9_4, n9_4, n9_6, n9_8, n9_10, n9_11, r10_4, c10_4, n10_4, n10_6, n10_8, n10_9, n10_11, r11_4, c11_4, n11_4, n11_6, n11_8, n11_9, n11_10]
   · simp [go_sem, r4_4, c4_4, n4_9, n4_10, n4_11, r6_4, c6_4, n6_9, n6_10, n6_11, r8_4, c8_4, n8_9, n8_10, n8_11, r9_4, c9_4, n9_4, n9_6, n9_8, n9_10, n9_11, r10_4, c10_4, n10_4, n10_6, n10_8, n10_9, n10_11, r11_4, c11_4, n11_4, n11_6, n11_8, n11_9, n11_10]
   · exact bt

set_option maxRecDepth 100000 in
set_option maxHeartbeats 4000000 in
theorem adjoint_true (p : Int) (n : Nat) (f a b : Nat → Int) (w : World) (hp : 0 < p) (hp' : p ≤ 255) (hn : n ≤ 8) (hF : Bytes 1104 f) (ha : Bytes 8 a) (hb : Bytes 8 b) :
    Calls Try.prog 37 #[.agg (hop p n f), .agg (row 8 a), .agg (row 8 b), .bool true] w fun e w' => e = .returned (.agg (row 8 (adI p n f a b true n))) ∧ Below w.heap.size w w' := by
 have HF := Lib.hid hF; clear hF
 have Ha := Lib.hid ha; clear ha
 have Hb := Lib.hid hb; clear hb
 go_enter Try.func37, Try.ntmps37
 go_wp2
 refine atomW fun W1 e1 => ?_
 have hb1 : Below w.heap.size w W1 := by rw [e1]; exact bt
 have q1 := hb1.size
 have R1 : IsRow W1 (w.heap.size) ∧ IsRow W1 (w.heap.size + 1) ∧ IsRow W1 (w.heap.size + 2) ∧ IsRow W1 (w.heap.size + 3) := by rw [e1]; simp [go_sem]
 obtain ⟨r4_1, r5_1, r6_1, r8_1⟩ := R1
 have C1 := (⟨congrArg (blk · (w.heap.size)) e1, congrArg (blk · (w.heap.size + 1)) e1, congrArg (blk · (w.heap.size + 2)) e1, congrArg (blk · (w.heap.size + 3)) e1⟩ : _ ∧ _ ∧ _ ∧ _); simp [go_sem] at C1
 obtain ⟨c4_1, c5_1, c6_1, c8_1⟩ := C1
 have z4_1 := isRow_lt r4_1; have z5_1 := isRow_lt r5_1; have z6_1 := isRow_lt r6_1; have z8_1 := isRow_lt r8_1
 clear e1
 refine wp_quiet_made2 6 8 _ _ (alg 0 0 zf) (row 64 zf) 91 40 (by kernel_rfl) rfl rfl rfl rfl (by omega) (by kernel_rfl) (fun a W => (xallocAlg _ _ _ _ _ _ _).trans (allocAlg W)) (fun a W => (xallocLin _ _ _ _ _ _ _).trans (allocLin W)) ?_
 simp only [List.take_succ_cons, List.take_zero, List.drop_succ_cons, List.drop_zero, List.eraseIdx_cons_succ, List.eraseIdx_cons_zero]
 iterate 1 (refine e_plain rfl ?_; apply Exists.intro; refine ⟨fun D hD hK W hW => ?_, ?_⟩; (focus (obtain ⟨x4, y4⟩ := keepB (hD W hW) z4_1 r4_1 c4_1; obtain ⟨x5, y5⟩ := keepB (hD W hW) z5_1 r5_1 c5_1; obtain ⟨x6, y6⟩ := keepB (hD W hW) z6_1 r6_1 c6_1; obtain ⟨x8, y8⟩ := keepB (hD W hW) z8_1 r8_1 c8_1; unfold Oper.quietAt; go_simp; first | done | rfl)); simp only [Act.put, List.setIfInBounds_toArray, List.set_cons_zero, List.set_cons_succ])
 (refine e_plain rfl ?_; apply Exists.intro; refine ⟨fun D hD hK W hW => ?_, ?_⟩; (focus (obtain ⟨x4, y4⟩ := keepB (hD W hW) z4_1 r4_1 c4_1; obtain ⟨x5, y5⟩ := keepB (hD W hW) z5_1 r5_1 c5_1; obtain ⟨x6, y6⟩ := keepB (hD W hW) z6_1 r6_1 c6_1; obtain ⟨x8, y8⟩ := keepB (hD W hW) z8_1 r8_1 c8_1; unfold Oper.quietAt; go_simp; (go_at_call 62; exact (algebraOf_any _ _ _ _).mono fun e w2 ⟨he, hw2⟩ => ⟨he, hK _ _ hW hw2⟩))); simp only [Act.put, List.setIfInBounds_toArray, List.set_cons_zero, List.set_cons_succ])
 iterate 1 (refine e_plain rfl ?_; apply Exists.intro; refine ⟨fun D hD hK W hW => ?_, ?_⟩; (focus (obtain ⟨x4, y4⟩ := keepB (hD W hW) z4_1 r4_1 c4_1; obtain ⟨x5, y5⟩ := keepB (hD W hW) z5_1 r5_1 c5_1; obtain ⟨x6, y6⟩ := keepB (hD W hW) z6_1 r6_1 c6_1; obtain ⟨x8, y8⟩ := keepB (hD W hW) z8_1 r8_1 c8_1; unfold Oper.quietAt; go_simp; first | done | rfl)); simp only [Act.put, List.setIfInBounds_toArray, List.set_cons_zero, List.set_cons_succ])
 (refine e_plain rfl ?_; apply Exists.intro; refine ⟨fun D hD hK W hW => ?_, ?_⟩; (focus (obtain ⟨x4, y4⟩ := keepB (hD W hW) z4_1 r4_1 c4_1; obtain ⟨x5, y5⟩ := keepB (hD W hW) z5_1 r5_1 c5_1; obtain ⟨x6, y6⟩ := keepB (hD W hW) z6_1 r6_1 c6_1; obtain ⟨x8, y8⟩ := keepB (hD W hW) z8_1 r8_1 c8_1; unfold Oper.quietAt; go_simp; (go_at_call 63; exact (coalgebraOf_any _ _ _ _).mono fun e w2 ⟨he, hw2⟩ => ⟨he, hK _ _ hW hw2⟩))); simp only [Act.put, List.setIfInBounds_toArray, List.set_cons_zero, List.set_cons_succ])
 iterate 1 (refine e_plain rfl ?_; apply Exists.intro; refine ⟨fun D hD hK W hW => ?_, ?_⟩; (focus (obtain ⟨x4, y4⟩ := keepB (hD W hW) z4_1 r4_1 c4_1; obtain ⟨x5, y5⟩ := keepB (hD W hW) z5_1 r5_1 c5_1; obtain ⟨x6, y6⟩ := keepB (hD W hW) z6_1 r6_1 c6_1; obtain ⟨x8, y8⟩ := keepB (hD W hW) z8_1 r8_1 c8_1; unfold Oper.quietAt; go_simp; first | done | rfl)); simp only [Act.put, List.setIfInBounds_toArray, List.set_cons_zero, List.set_cons_succ])
 (refine e_plain rfl ?_; apply Exists.intro; refine ⟨fun D hD hK W hW => ?_, ?_⟩; (focus (obtain ⟨x4, y4⟩ := keepB (hD W hW) z4_1 r4_1 c4_1; obtain ⟨x5, y5⟩ := keepB (hD W hW) z5_1 r5_1 c5_1; obtain ⟨x6, y6⟩ := keepB (hD W hW) z6_1 r6_1 c6_1; obtain ⟨x8, y8⟩ := keepB (hD W hW) z8_1 r8_1 c8_1; unfold Oper.quietAt; go_simp; (go_at_call 50; exact (coproduct_any p n (coF f) a _ hp hp' (co_bytes HF.out) Ha.out).mono fun e w2 ⟨he, hw2⟩ => ⟨he, hK _ _ hW hw2⟩))); simp only [Act.put, List.setIfInBounds_toArray, List.set_cons_zero, List.set_cons_succ])
 refine e_nil ?_
 intro a2 b2 W2 hw2 mk1_2 mk2_2 hne2
 obtain ⟨hl1_2, m1_2, m2_2⟩ := mk1_2; obtain ⟨hl2_2, m3_2, m4_2⟩ := mk2_2
 have n4_9 : (w.heap.size) ≠ (a2) := by have := z4_1; omega
 have n9_4 : (a2) ≠ (w.heap.size) := by have := z4_1; omega
 have n4_10 : (w.heap.size) ≠ (b2) := by have := z4_1; omega
 have n10_4 : (b2) ≠ (w.heap.size) := by have := z4_1; omega
 have n5_9 : (w.heap.size + 1) ≠ (a2) := by have := z5_1; omega
 have n9_5 : (a2) ≠ (w.heap.size + 1) := by have := z5_1; omega
 have n5_10 : (w.heap.size + 1) ≠ (b2) := by have := z5_1; omega
 have n10_5 : (b2) ≠ (w.heap.size + 1) := by have := z5_1; omega
 have n6_9 : (w.heap.size + 2) ≠ (a2) := by have := z6_1; omega
 have n9_6 : (a2) ≠ (w.heap.size + 2) := by have := z6_1; omega
 have n6_10 : (w.heap.size + 2) ≠ (b2) := by have := z6_1; omega
 have n10_6 : (b2) ≠ (w.heap.size + 2) := by have := z6_1; omega
 have n8_9 : (w.heap.size + 3) ≠ (a2) := by have := z8_1; omega
 have n9_8 : (a2) ≠ (w.heap.size + 3) := by have := z8_1; omega
 have n8_10 : (w.heap.size + 3) ≠ (b2) := by have := z8_1; omega
 have n10_8 : (b2) ≠ (w.heap.size + 3) := by have := z8_1; omega
 obtain ⟨r4_2, c4_2, z4_2⟩ := keepZ hw2 z4_1 r4_1 c4_1
 obtain ⟨r5_2, c5_2, z5_2⟩ := keepZ hw2 z5_1 r5_1 c5_1
 obtain ⟨r6_2, c6_2, z6_2⟩ := keepZ hw2 z6_1 r6_1 c6_1
 obtain ⟨r8_2, c8_2, z8_2⟩ := keepZ hw2 z8_1 r8_1 c8_1
 obtain ⟨hb2, q2⟩ := bN hb1 hw2
 clear hw2 r4_1 c4_1 z4_1 r5_1 c5_1 z5_1 r6_1 c6_1 z6_1 r8_1 c8_1 z8_1 hb1
 have n9_10 : (a2) ≠ (b2) := hne2
 have n10_9 : (b2) ≠ (a2) := Ne.symm hne2
 have z9_2 := isRow_lt m1_2
 have z10_2 := isRow_lt m3_2
 simp only [Act.put, List.setIfInBounds_toArray, List.set_cons_zero, List.set_cons_succ]
 go_wp2
 have nw4_W2_0 : (w.heap.size) ≠ W2.heap.size := by omega
 have nw6_W2_0 : (w.heap.size + 2) ≠ W2.heap.size := by omega
 have nw8_W2_0 : (w.heap.size + 3) ≠ W2.heap.size := by omega
 have nw9_W2_0 : (a2) ≠ W2.heap.size := by omega
 have nw10_W2_0 : (b2) ≠ W2.heap.size := by omega
 refine atomW fun W3 e3 => ?_
 have hb3 : Below w.heap.size w W3 := by rw [e3]; exact bt
 have q3 := hb3.size
 have R3 : IsRow W3 (w.heap.size) ∧ IsRow W3 (w.heap.size + 2) ∧ IsRow W3 (w.heap.size + 3) ∧ IsRow W3 (a2) ∧ IsRow W3 (b2) ∧ IsRow W3 (W2.heap.size) := by rw [e3]; simp [go_sem, r4_2, c4_2, n4_9, n4_10, r6_2, c6_2, n6_9, n6_10, r8_2, c8_2, n8_9, n8_10, m1_2, m2_2, n9_4, n9_5, n9_6, n9_8, n9_10, m3_2, m4_2, n10_4, n10_5, n10_6, n10_8, n10_9, nw4_W2_0, nw6_W2_0, nw8_W2_0, nw9_W2_0, nw10_W2_0, r5_2]
 obtain ⟨r4_3, r6_3, r8_3, r9_3, r10_3, r11_3⟩ := R3
 have C3 := (⟨congrArg (blk · (w.heap.size)) e3, congrArg (blk · (w.heap.size + 2)) e3, congrArg (blk · (w.heap.size + 3)) e3, congrArg (blk · (a2)) e3, congrArg (blk · (b2)) e3, congrArg (blk · (W2.heap.size)) e3⟩ : _ ∧ _ ∧ _ ∧ _ ∧ _ ∧ _); simp [go_sem, r4_2, c4_2, n4_9, n4_10, r6_2, c6_2, n6_9, n6_10, r8_2, c8_2, n8_9, n8_10, m1_2, m2_2, n9_4, n9_5, n9_6, n9_8, n9_10, m3_2, m4_2, n10_4, n10_5, n10_6, n10_8, n10_9, nw4_W2_0, nw6_W2_0, nw8_W2_0, nw9_W2_0, nw10_W2_0, r5_2] at C3
 obtain ⟨c4_3, c6_3, c8_3, c9_3, c10_3, c11_3⟩ := C3
 have z4_3 := isRow_lt r4_3; have z6_3 := isRow_lt r6_3; have z8_3 := isRow_lt r8_3; have z9_3 := isRow_lt r9_3; have z10_3 := isRow_lt r10_3; have z11_3 := isRow_lt r11_3
 have n4_11 : (w.heap.size) ≠ (W2.heap.size) := by omega
 have n6_11 : (w.heap.size + 2) ≠ (W2.heap.size) := by omega
 have n8_11 : (w.heap.size + 3) ≠ (W2.heap.size) := by omega
 have n9_11 : (a2) ≠ (W2.heap.size) := by omega
 have n10_11 : (b2) ≠ (W2.heap.size) := by omega
 have n11_4 : (W2.heap.size) ≠ (w.heap.size) := by omega
 have n11_6 : (W2.heap.size) ≠ (w.heap.size + 2) := by omega
 have n11_8 : (W2.heap.size) ≠ (w.heap.size + 3) := by omega
 have n11_9 : (W2.heap.size) ≠ (a2) := by omega
 have n11_10 : (W2.heap.size) ≠ (b2) := by omega
 clear e3 nw4_W2_0 nw6_W2_0 nw8_W2_0 nw9_W2_0 nw10_W2_0 r4_2 c4_2 z4_2 r6_2 c6_2 z6_2 r8_2 c8_2 z8_2 m1_2 m2_2 z9_2 m3_2 m4_2 z10_2 hb2
 go_loopw [24] (fun s24 wr => ∃ j : Nat, j ≤ n ∧ s24 = .int .i64 j ∧ Below w.heap.size w wr ∧ (IsRow wr (w.heap.size) ∧ blk wr (w.heap.size) = blk W3 (w.heap.size)) ∧ (IsRow wr (w.heap.size + 2) ∧ blk wr (w.heap.size + 2) = blk W3 (w.heap.size + 2)) ∧ (IsRow wr (w.heap.size + 3) ∧ blk wr (w.heap.size + 3) = blk W3 (w.heap.size + 3)) ∧ (IsRow wr (a2) ∧ blk wr (a2) = blk W3 (a2)) ∧ (IsRow wr (b2) ∧ blk wr (b2) = blk W3 (b2)) ∧ (IsRow wr (W2.heap.size) ∧ blk wr (W2.heap.size) = row 8 (adI p n f a b true j))) (fun s24 _ => n - (intOf s24).toNat)
 case atStart => exact ⟨0, by omega, rfl, hb3, ⟨r4_3, rfl⟩, ⟨r6_3, rfl⟩, ⟨r8_3, rfl⟩, ⟨r9_3, rfl⟩, ⟨r10_3, rfl⟩, ⟨r11_3, c11_3.trans (adI_zero p n f a b true)⟩⟩
 case round =>
  obtain ⟨j, hle4, rfl, hb4, ⟨r4_4, c4_4⟩, ⟨r6_4, c6_4⟩, ⟨r8_4, c8_4⟩, ⟨r9_4, c9_4⟩, ⟨r10_4, c10_4⟩, ⟨r11_4, c11_4⟩⟩ := hrel
  obtain ⟨W4, rfl⟩ : ∃ W4 : World, W4 = wr := ⟨_, rfl⟩
  have q4 := hb4.size
  have E4_4 := Lib.hid c4_3; replace c4_4 := c4_4.trans c4_3
  have z4_4 := isRow_lt r4_4
  have E6_4 := Lib.hid c6_3; replace c6_4 := c6_4.trans c6_3
  have z6_4 := isRow_lt r6_4
  have E8_4 := Lib.hid c8_3; replace c8_4 := c8_4.trans c8_3
  have z8_4 := isRow_lt r8_4
  have E9_4 := Lib.hid c9_3; replace c9_4 := c9_4.trans c9_3
  have z9_4 := isRow_lt r9_4
  have E10_4 := Lib.hid c10_3; replace c10_4 := c10_4.trans c10_3
  have z10_4 := isRow_lt r10_4
  have z11_4 := isRow_lt r11_4
  clear r4_3 c4_3 z4_3 r6_3 c6_3 z6_3 r8_3 c8_3 z8_3 r9_3 c9_3 z9_3 r10_3 c10_3 z10_3 r11_3 c11_3 z11_3 hb3
  by_cases hlt4 : j < n
  ·
   have i0_4 : (0 : Int) ≤ (j : Int) := by omega
   have i8_4 : (j : Int) < 8 := by omega
   have k8_4 : j < 8 := by omega
   have m8_4 : j * 8 + 8 ≤ 64 := by omega
   have m64_4 : j * 64 + 64 ≤ 512 := by omega
   have l1_4 : 10 + j * 64 + 64 ≤ 522 := by omega
   have HFb := Lib.hid (hop_bytes HF.out)
   have HAn := Lib.hid (an_bytes HF.out)
   have HCo := Lib.hid (co_bytes HF.out)
   have ha1 := hop_antR p n f j (by omega)
   have l1 : 1042 + j * 8 + 8 ≤ 1106 := by omega
   have l2 : j * 8 + 8 ≤ 64 := by omega
   have HT : Hid (Bytes 8 (fun t => copF p (coF f) a 8 (j * 8 + t))) := Lib.hid (cop_bytes8 hp hp' _ _ _ _)
   have HAA : Hid (Bytes 8 (antR f j)) := Lib.hid (adA_bytes HF.out true (i := j) (by omega))
   have HL : Hid (Bytes 8 (mulF p n (mtab f) (antR f j) b)) := Lib.hid (mulF_bytes hp hp' _ _ _ _)
   have HQ : Hid (Bytes 8 (fun t => copF p (coF f) a 8 (j * 8 + t))) := HT
   have HP : Hid (Bytes 8 (adQ p n f a b true j)) := Lib.hid (mulF_bytes hp hp' _ _ _ _)
   go_wp2
   refine wp_quiet_made2 10 12 _ _ (row 8 zf) (row 8 zf) 38 38 (by kernel_rfl) rfl rfl rfl rfl (by omega) (by kernel_rfl) (fun a W => (xallocVec _ _ _ _ _ _ _).trans (allocVec W)) (fun a W => (xallocVec _ _ _ _ _ _ _).trans (allocVec W)) ?_
   simp only [List.take_succ_cons, List.take_zero, List.drop_succ_cons, List.drop_zero, List.eraseIdx_cons_succ, List.eraseIdx_cons_zero]
   iterate 1 (refine e_plain rfl ?_; apply Exists.intro; refine ⟨fun D hD hK W hW => ?_, ?_⟩; (focus (obtain ⟨x4, y4⟩ := keepB (hD W hW) z4_4 r4_4 c4_4; obtain ⟨x6, y6⟩ := keepB (hD W hW) z6_4 r6_4 c6_4; obtain ⟨x8, y8⟩ := keepB (hD W hW) z8_4 r8_4 c8_4; obtain ⟨x9, y9⟩ := keepB (hD W hW) z9_4 r9_4 c9_4; obtain ⟨x10, y10⟩ := keepB (hD W hW) z10_4 r10_4 c10_4; obtain ⟨x11, y11⟩ := keepB (hD W hW) z11_4 r11_4 c11_4; unfold Oper.quietAt; go_simp; first | done | rfl)); simp only [Act.put, List.setIfInBounds_toArray, List.set_cons_zero, List.set_cons_succ])
   (refine e_plain rfl ?_; apply Exists.intro; refine ⟨fun D hD hK W hW => ?_, ?_⟩; (focus (obtain ⟨x4, y4⟩ := keepB (hD W hW) z4_4 r4_4 c4_4; obtain ⟨x6, y6⟩ := keepB (hD W hW) z6_4 r6_4 c6_4; obtain ⟨x8, y8⟩ := keepB (hD W hW) z8_4 r8_4 c8_4; obtain ⟨x9, y9⟩ := keepB (hD W hW) z9_4 r9_4 c9_4; obtain ⟨x10, y10⟩ := keepB (hD W hW) z10_4 r10_4 c10_4; obtain ⟨x11, y11⟩ := keepB (hD W hW) z11_4 r11_4 c11_4; unfold Oper.quietAt; go_simp; (go_at_call 64; exact (basisAt j (by omega) _).mono fun e w2 ⟨he, hw2⟩ => ⟨he, hK _ _ hW hw2⟩))); simp only [Act.put, List.setIfInBounds_toArray, List.set_cons_zero, List.set_cons_succ])
   iterate 7 (refine e_plain rfl ?_; apply Exists.intro; refine ⟨fun D hD hK W hW => ?_, ?_⟩; (focus (obtain ⟨x4, y4⟩ := keepB (hD W hW) z4_4 r4_4 c4_4; obtain ⟨x6, y6⟩ := keepB (hD W hW) z6_4 r6_4 c6_4; obtain ⟨x8, y8⟩ := keepB (hD W hW) z8_4 r8_4 c8_4; obtain ⟨x9, y9⟩ := keepB (hD W hW) z9_4 r9_4 c9_4; obtain ⟨x10, y10⟩ := keepB (hD W hW) z10_4 r10_4 c10_4; obtain ⟨x11, y11⟩ := keepB (hD W hW) z11_4 r11_4 c11_4; unfold Oper.quietAt; go_simp; first | done | rfl)); simp only [Act.put, List.setIfInBounds_toArray, List.set_cons_zero, List.set_cons_succ])
   (refine e_plain rfl ?_; apply Exists.intro; refine ⟨fun D hD hK W hW => ?_, ?_⟩; (focus (obtain ⟨x4, y4⟩ := keepB (hD W hW) z4_4 r4_4 c4_4; obtain ⟨x6, y6⟩ := keepB (hD W hW) z6_4 r6_4 c6_4; obtain ⟨x8, y8⟩ := keepB (hD W hW) z8_4 r8_4 c8_4; obtain ⟨x9, y9⟩ := keepB (hD W hW) z9_4 r9_4 c9_4; obtain ⟨x10, y10⟩ := keepB (hD W hW) z10_4 r10_4 c10_4; obtain ⟨x11, y11⟩ := keepB (hD W hW) z11_4 r11_4 c11_4; unfold Oper.quietAt; go_simp; (go_at_call 65; exact (applyLinear_any p (anF f) (fun t => copF p (coF f) a 8 (j * 8 + t)) _ hp hp' HAn.out HT.out).mono fun e w2 ⟨he, hw2⟩ => ⟨he, hK _ _ hW hw2⟩))); simp only [Act.put, List.setIfInBounds_toArray, List.set_cons_zero, List.set_cons_succ])
   refine e_nil ?_
   intro a5 b5 W5 hw5 mk1_5 mk2_5 hne5
   obtain ⟨hl1_5, m1_5, m2_5⟩ := mk1_5; obtain ⟨hl2_5, m3_5, m4_5⟩ := mk2_5
   have n4_13 : (w.heap.size) ≠ (a5) := by have := z4_4; omega
   have n13_4 : (a5) ≠ (w.heap.size) := by have := z4_4; omega
   have n4_14 : (w.heap.size) ≠ (b5) := by have := z4_4; omega
   have n14_4 : (b5) ≠ (w.heap.size) := by have := z4_4; omega
   have n6_13 : (w.heap.size + 2) ≠ (a5) := by have := z6_4; omega
   have n13_6 : (a5) ≠ (w.heap.size + 2) := by have := z6_4; omega
   have n6_14 : (w.heap.size + 2) ≠ (b5) := by have := z6_4; omega
   have n14_6 : (b5) ≠ (w.heap.size + 2) := by have := z6_4; omega
   have n8_13 : (w.heap.size + 3) ≠ (a5) := by have := z8_4; omega
   have n13_8 : (a5) ≠ (w.heap.size + 3) := by have := z8_4; omega
   have n8_14 : (w.heap.size + 3) ≠ (b5) := by have := z8_4; omega
   have n14_8 : (b5) ≠ (w.heap.size + 3) := by have := z8_4; omega
   have n9_13 : (a2) ≠ (a5) := by have := z9_4; omega
   have n13_9 : (a5) ≠ (a2) := by have := z9_4; omega
   have n9_14 : (a2) ≠ (b5) := by have := z9_4; omega
   have n14_9 : (b5) ≠ (a2) := by have := z9_4; omega
   have n10_13 : (b2) ≠ (a5) := by have := z10_4; omega
   have n13_10 : (a5) ≠ (b2) := by have := z10_4; omega
   have n10_14 : (b2) ≠ (b5) := by have := z10_4; omega
   have n14_10 : (b5) ≠ (b2) := by have := z10_4; omega
   have n11_13 : (W2.heap.size) ≠ (a5) := by have := z11_4; omega
   have n13_11 : (a5) ≠ (W2.heap.size) := by have := z11_4; omega
   have n11_14 : (W2.heap.size) ≠ (b5) := by have := z11_4; omega
   have n14_11 : (b5) ≠ (W2.heap.size) := by have := z11_4; omega
   obtain ⟨r4_5, c4_5, z4_5⟩ := keepZ hw5 z4_4 r4_4 c4_4
   obtain ⟨r6_5, c6_5, z6_5⟩ := keepZ hw5 z6_4 r6_4 c6_4
   obtain ⟨r8_5, c8_5, z8_5⟩ := keepZ hw5 z8_4 r8_4 c8_4
   obtain ⟨r9_5, c9_5, z9_5⟩ := keepZ hw5 z9_4 r9_4 c9_4
   obtain ⟨r10_5, c10_5, z10_5⟩ := keepZ hw5 z10_4 r10_4 c10_4
   obtain ⟨r11_5, c11_5, z11_5⟩ := keepZ hw5 z11_4 r11_4 c11_4
   obtain ⟨hb5, q5⟩ := bN hb4 hw5
   clear hw5 r4_4 c4_4 z4_4 r6_4 c6_4 z6_4 r8_4 c8_4 z8_4 r9_4 c9_4 z9_4 r10_4 c10_4 z10_4 r11_4 c11_4 z11_4 hb4
   have n13_14 : (a5) ≠ (b5) := hne5
   have n14_13 : (b5) ≠ (a5) := Ne.symm hne5
   have z13_5 := isRow_lt m1_5
   have z14_5 := isRow_lt m3_5
   simp only [Act.put, List.setIfInBounds_toArray, List.set_cons_zero, List.set_cons_succ]
   go_wp2
   refine atomW fun W6 e6 => ?_
   have hb6 : Below w.heap.size w W6 := by rw [e6]; exact bt
   have q6 := hb6.size
   have R6 : IsRow W6 (w.heap.size) ∧ IsRow W6 (w.heap.size + 2) ∧ IsRow W6 (w.heap.size + 3) ∧ IsRow W6 (a2) ∧ IsRow W6 (b2) ∧ IsRow W6 (W2.heap.size) ∧ IsRow W6 (a5) ∧ IsRow W6 (b5) := by rw [e6]; simp [go_sem, r4_5, c4_5, n4_9, n4_10, n4_11, n4_13, n4_14, r6_5, c6_5, n6_9, n6_10, n6_11, n6_13, n6_14, r8_5, c8_5, n8_9, n8_10, n8_11, n8_13, n8_14, r9_5, c9_5, n9_4, n9_6, n9_8, n9_10, n9_11, n9_13, n9_14, r10_5, c10_5, n10_4, n10_6, n10_8, n10_9, n10_11, n10_13, n10_14, r11_5, c11_5, n11_4, n11_6, n11_8, n11_9, n11_10, n11_13, n11_14, m1_5, m2_5, n13_4, n13_6, n13_8, n13_9, n13_10, n13_11, n13_14, m3_5, m4_5, n14_4, n14_6, n14_8, n14_9, n14_10, n14_11, n14_13]
   obtain ⟨r4_6, r6_6, r8_6, r9_6, r10_6, r11_6, r13_6, r14_6⟩ := R6
   have C6 := (⟨congrArg (blk · (w.heap.size)) e6, congrArg (blk · (w.heap.size + 2)) e6, congrArg (blk · (w.heap.size + 3)) e6, congrArg (blk · (a2)) e6, congrArg (blk · (b2)) e6, congrArg (blk · (W2.heap.size)) e6, congrArg (blk · (a5)) e6, congrArg (blk · (b5)) e6⟩ : _ ∧ _ ∧ _ ∧ _ ∧ _ ∧ _ ∧ _ ∧ _); simp [go_sem, r4_5, c4_5, n4_9, n4_10, n4_11, n4_13, n4_14, r6_5, c6_5, n6_9, n6_10, n6_11, n6_13, n6_14, r8_5, c8_5, n8_9, n8_10, n8_11, n8_13, n8_14, r9_5, c9_5, n9_4, n9_6, n9_8, n9_10, n9_11, n9_13, n9_14, r10_5, c10_5, n10_4, n10_6, n10_8, n10_9, n10_11, n10_13, n10_14, r11_5, c11_5, n11_4, n11_6, n11_8, n11_9, n11_10, n11_13, n11_14, m1_5, m2_5, n13_4, n13_6, n13_8, n13_9, n13_10, n13_11, n13_14, m3_5, m4_5, n14_4, n14_6, n14_8, n14_9, n14_10, n14_11, n14_13] at C6
   obtain ⟨c4_6, c6_6, c8_6, c9_6, c10_6, c11_6, c13_6, c14_6⟩ := C6
   have z4_6 := isRow_lt r4_6; have z6_6 := isRow_lt r6_6; have z8_6 := isRow_lt r8_6; have z9_6 := isRow_lt r9_6; have z10_6 := isRow_lt r10_6; have z11_6 := isRow_lt r11_6; have z13_6 := isRow_lt r13_6; have z14_6 := isRow_lt r14_6
   clear e6 r4_5 c4_5 z4_5 r6_5 c6_5 z6_5 r8_5 c8_5 z8_5 r9_5 c9_5 z9_5 r10_5 c10_5 z10_5 r11_5 c11_5 z11_5 m1_5 m2_5 z13_5 m3_5 m4_5 z14_5 hb5
   refine wp_quiet_store 7 3 (a5) _ _ 38 13 41 (by kernel_rfl) rfl rfl rfl rfl (by kernel_rfl) r13_6 c13_6 (fun A W => rfl) ?_
   simp only [List.take_succ_cons, List.take_zero, List.drop_succ_cons, List.drop_zero]
   (refine e_plain rfl ?_; apply Exists.intro; refine ⟨fun D hD hK W hW => ?_, ?_⟩; (focus (obtain ⟨x4, y4⟩ := keepA (hD W hW) z4_6 (by first | assumption | (simp; done) | omega) r4_6 c4_6; obtain ⟨x6, y6⟩ := keepA (hD W hW) z6_6 (by first | assumption | (simp; done) | omega) r6_6 c6_6; obtain ⟨x8, y8⟩ := keepA (hD W hW) z8_6 (by first | assumption | (simp; done) | omega) r8_6 c8_6; obtain ⟨x9, y9⟩ := keepA (hD W hW) z9_6 (by first | assumption | (simp; done) | omega) r9_6 c9_6; obtain ⟨x10, y10⟩ := keepA (hD W hW) z10_6 (by first | assumption | (simp; done) | omega) r10_6 c10_6; obtain ⟨x11, y11⟩ := keepA (hD W hW) z11_6 (by first | assumption | (simp; done) | omega) r11_6 c11_6; obtain ⟨x14, y14⟩ := keepA (hD W hW) z14_6 (by first | assumption | (simp; done) | omega) r14_6 c14_6; unfold Oper.quietAt; go_simp; first | done | rfl)); simp only [Act.put, List.setIfInBounds_toArray, List.set_cons_zero, List.set_cons_succ])
   (refine e_plain rfl ?_; apply Exists.intro; refine ⟨fun D hD hK W hW => ?_, ?_⟩; (focus (obtain ⟨x4, y4⟩ := keepA (hD W hW) z4_6 (by first | assumption | (simp; done) | omega) r4_6 c4_6; obtain ⟨x6, y6⟩ := keepA (hD W hW) z6_6 (by first | assumption | (simp; done) | omega) r6_6 c6_6; obtain ⟨x8, y8⟩ := keepA (hD W hW) z8_6 (by first | assumption | (simp; done) | omega) r8_6 c8_6; obtain ⟨x9, y9⟩ := keepA (hD W hW) z9_6 (by first | assumption | (simp; done) | omega) r9_6 c9_6; obtain ⟨x10, y10⟩ := keepA (hD W hW) z10_6 (by first | assumption | (simp; done) | omega) r10_6 c10_6; obtain ⟨x11, y11⟩ := keepA (hD W hW) z11_6 (by first | assumption | (simp; done) | omega) r11_6 c11_6; obtain ⟨x14, y14⟩ := keepA (hD W hW) z14_6 (by first | assumption | (simp; done) | omega) r14_6 c14_6; unfold Oper.quietAt; go_simp; first | done | rfl)); simp only [Act.put, List.setIfInBounds_toArray, List.set_cons_zero, List.set_cons_succ])
   (refine e_plain rfl ?_; apply Exists.intro; refine ⟨fun D hD hK W hW => ?_, ?_⟩; (focus (obtain ⟨x4, y4⟩ := keepA (hD W hW) z4_6 (by first | assumption | (simp; done) | omega) r4_6 c4_6; obtain ⟨x6, y6⟩ := keepA (hD W hW) z6_6 (by first | assumption | (simp; done) | omega) r6_6 c6_6; obtain ⟨x8, y8⟩ := keepA (hD W hW) z8_6 (by first | assumption | (simp; done) | omega) r8_6 c8_6; obtain ⟨x9, y9⟩ := keepA (hD W hW) z9_6 (by first | assumption | (simp; done) | omega) r9_6 c9_6; obtain ⟨x10, y10⟩ := keepA (hD W hW) z10_6 (by first | assumption | (simp; done) | omega) r10_6 c10_6; obtain ⟨x11, y11⟩ := keepA (hD W hW) z11_6 (by first | assumption | (simp; done) | omega) r11_6 c11_6; obtain ⟨x14, y14⟩ := keepA (hD W hW) z14_6 (by first | assumption | (simp; done) | omega) r14_6 c14_6; unfold Oper.quietAt; go_simp; first | done | rfl)); simp only [Act.put, List.setIfInBounds_toArray, List.set_cons_zero, List.set_cons_succ])
   (refine e_plain rfl ?_; apply Exists.intro; refine ⟨fun D hD hK W hW => ?_, ?_⟩; (focus (obtain ⟨x4, y4⟩ := keepA (hD W hW) z4_6 (by first | assumption | (simp; done) | omega) r4_6 c4_6; obtain ⟨x6, y6⟩ := keepA (hD W hW) z6_6 (by first | assumption | (simp; done) | omega) r6_6 c6_6; obtain ⟨x8, y8⟩ := keepA (hD W hW) z8_6 (by first | assumption | (simp; done) | omega) r8_6 c8_6; obtain ⟨x9, y9⟩ := keepA (hD W hW) z9_6 (by first | assumption | (simp; done) | omega) r9_6 c9_6; obtain ⟨x10, y10⟩ := keepA (hD W hW) z10_6 (by first | assumption | (simp; done) | omega) r10_6 c10_6; obtain ⟨x11, y11⟩ := keepA (hD W hW) z11_6 (by first | assumption | (simp; done) | omega) r11_6 c11_6; obtain ⟨x14, y14⟩ := keepA (hD W hW) z14_6 (by first | assumption | (simp; done) | omega) r14_6 c14_6; unfold Oper.quietAt; go_simp; first | done | rfl)); simp only [Act.put, List.setIfInBounds_toArray, List.set_cons_zero, List.set_cons_succ])
   (refine e_plain rfl ?_; apply Exists.intro; refine ⟨fun D hD hK W hW => ?_, ?_⟩; (focus (obtain ⟨x4, y4⟩ := keepA (hD W hW) z4_6 (by first | assumption | (simp; done) | omega) r4_6 c4_6; obtain ⟨x6, y6⟩ := keepA (hD W hW) z6_6 (by first | assumption | (simp; done) | omega) r6_6 c6_6; obtain ⟨x8, y8⟩ := keepA (hD W hW) z8_6 (by first | assumption | (simp; done) | omega) r8_6 c8_6; obtain ⟨x9, y9⟩ := keepA (hD W hW) z9_6 (by first | assumption | (simp; done) | omega) r9_6 c9_6; obtain ⟨x10, y10⟩ := keepA (hD W hW) z10_6 (by first | assumption | (simp; done) | omega) r10_6 c10_6; obtain ⟨x11, y11⟩ := keepA (hD W hW) z11_6 (by first | assumption | (simp; done) | omega) r11_6 c11_6; obtain ⟨x14, y14⟩ := keepA (hD W hW) z14_6 (by first | assumption | (simp; done) | omega) r14_6 c14_6; unfold Oper.quietAt; go_simp; first | done | rfl)); simp only [Act.put, List.setIfInBounds_toArray, List.set_cons_zero, List.set_cons_succ])
   (refine e_plain rfl ?_; apply Exists.intro; refine ⟨fun D hD hK W hW => ?_, ?_⟩; (focus (obtain ⟨x4, y4⟩ := keepA (hD W hW) z4_6 (by first | assumption | (simp; done) | omega) r4_6 c4_6; obtain ⟨x6, y6⟩ := keepA (hD W hW) z6_6 (by first | assumption | (simp; done) | omega) r6_6 c6_6; obtain ⟨x8, y8⟩ := keepA (hD W hW) z8_6 (by first | assumption | (simp; done) | omega) r8_6 c8_6; obtain ⟨x9, y9⟩ := keepA (hD W hW) z9_6 (by first | assumption | (simp; done) | omega) r9_6 c9_6; obtain ⟨x10, y10⟩ := keepA (hD W hW) z10_6 (by first | assumption | (simp; done) | omega) r10_6 c10_6; obtain ⟨x11, y11⟩ := keepA (hD W hW) z11_6 (by first | assumption | (simp; done) | omega) r11_6 c11_6; obtain ⟨x14, y14⟩ := keepA (hD W hW) z14_6 (by first | assumption | (simp; done) | omega) r14_6 c14_6; unfold Oper.quietAt; go_simp; first | done | rfl)); simp only [Act.put, List.setIfInBounds_toArray, List.set_cons_zero, List.set_cons_succ])
   (refine e_plain rfl ?_; apply Exists.intro; refine ⟨fun D hD hK W hW => ?_, ?_⟩; (focus (obtain ⟨x4, y4⟩ := keepA (hD W hW) z4_6 (by first | assumption | (simp; done) | omega) r4_6 c4_6; obtain ⟨x6, y6⟩ := keepA (hD W hW) z6_6 (by first | assumption | (simp; done) | omega) r6_6 c6_6; obtain ⟨x8, y8⟩ := keepA (hD W hW) z8_6 (by first | assumption | (simp; done) | omega) r8_6 c8_6; obtain ⟨x9, y9⟩ := keepA (hD W hW) z9_6 (by first | assumption | (simp; done) | omega) r9_6 c9_6; obtain ⟨x10, y10⟩ := keepA (hD W hW) z10_6 (by first | assumption | (simp; done) | omega) r10_6 c10_6; obtain ⟨x11, y11⟩ := keepA (hD W hW) z11_6 (by first | assumption | (simp; done) | omega) r11_6 c11_6; obtain ⟨x14, y14⟩ := keepA (hD W hW) z14_6 (by first | assumption | (simp; done) | omega) r14_6 c14_6; unfold Oper.quietAt; go_simp; first | done | rfl)); simp only [Act.put, List.setIfInBounds_toArray, List.set_cons_zero, List.set_cons_succ])
   refine e_nil ?_
   refine ⟨row 8 (antR f j), fun W hr hc => ?_, ?_⟩
   · simp [go_sem, hr, hc, Act.eval]
   intro W7 hw7 r13_7 c13_7
   obtain ⟨r4_7, c4_7⟩ := keepA hw7 z4_6 (by first | assumption | (simp; done) | omega) r4_6 c4_6
   have z4_7 := isRow_lt r4_7
   obtain ⟨r6_7, c6_7⟩ := keepA hw7 z6_6 (by first | assumption | (simp; done) | omega) r6_6 c6_6
   have z6_7 := isRow_lt r6_7
   obtain ⟨r8_7, c8_7⟩ := keepA hw7 z8_6 (by first | assumption | (simp; done) | omega) r8_6 c8_6
   have z8_7 := isRow_lt r8_7
   obtain ⟨r9_7, c9_7⟩ := keepA hw7 z9_6 (by first | assumption | (simp; done) | omega) r9_6 c9_6
   have z9_7 := isRow_lt r9_7
   obtain ⟨r10_7, c10_7⟩ := keepA hw7 z10_6 (by first | assumption | (simp; done) | omega) r10_6 c10_6
   have z10_7 := isRow_lt r10_7
   obtain ⟨r11_7, c11_7⟩ := keepA hw7 z11_6 (by first | assumption | (simp; done) | omega) r11_6 c11_6
   have z11_7 := isRow_lt r11_7
   have z13_7 := isRow_lt r13_7
   obtain ⟨r14_7, c14_7⟩ := keepA hw7 z14_6 (by first | assumption | (simp; done) | omega) r14_6 c14_6
   have z14_7 := isRow_lt r14_7
   have hb7 := Below.aside hb6 hw7 (by omega)
   have q7 := hb7.size
   clear hw7 r4_6 c4_6 z4_6 r6_6 c6_6 z6_6 r8_6 c8_6 z8_6 r9_6 c9_6 z9_6 r10_6 c10_6 z10_6 r11_6 c11_6 z11_6 r13_6 c13_6 z13_6 r14_6 c14_6 z14_6 hb6
   go_wp2
   refine atomW fun W8 e8 => ?_
   have hb8 : Below w.heap.size w W8 := by rw [e8]; exact bt
   have q8 := hb8.size
   have R8 : IsRow W8 (w.heap.size) ∧ IsRow W8 (w.heap.size + 2) ∧ IsRow W8 (w.heap.size + 3) ∧ IsRow W8 (a2) ∧ IsRow W8 (b2) ∧ IsRow W8 (W2.heap.size) ∧ IsRow W8 (a5) ∧ IsRow W8 (b5) := by rw [e8]; simp [go_sem, r4_7, c4_7, n4_9, n4_10, n4_11, n4_13, n4_14, r6_7, c6_7, n6_9, n6_10, n6_11, n6_13, n6_14, r8_7, c8_7, n8_9, n8_10, n8_11, n8_13, n8_14, r9_7, c9_7, n9_4, n9_6, n9_8, n9_10, n9_11, n9_13, n9_14, r10_7, c10_7, n10_4, n10_6, n10_8, n10_9, n10_11, n10_13, n10_14, r11_7, c11_7, n11_4, n11_6, n11_8, n11_9, n11_10, n11_13, n11_14, r13_7, c13_7, n13_4, n13_6, n13_8, n13_9, n13_10, n13_11, n13_14, r14_7, c14_7, n14_4, n14_6, n14_8, n14_9, n14_10, n14_11, n14_13]
   obtain ⟨r4_8, r6_8, r8_8, r9_8, r10_8, r11_8, r13_8, r14_8⟩ := R8
   have C8 := (⟨congrArg (blk · (w.heap.size)) e8, congrArg (blk · (w.heap.size + 2)) e8, congrArg (blk · (w.heap.size + 3)) e8, congrArg (blk · (a2)) e8, congrArg (blk · (b2)) e8, congrArg (blk · (W2.heap.size)) e8, congrArg (blk · (a5)) e8, congrArg (blk · (b5)) e8⟩ : _ ∧ _ ∧ _ ∧ _ ∧ _ ∧ _ ∧ _ ∧ _); simp [go_sem, r4_7, c4_7, n4_9, n4_10, n4_11, n4_13, n4_14, r6_7, c6_7, n6_9, n6_10, n6_11, n6_13, n6_14, r8_7, c8_7, n8_9, n8_10, n8_11, n8_13, n8_14, r9_7, c9_7, n9_4, n9_6, n9_8, n9_10, n9_11, n9_13, n9_14, r10_7, c10_7, n10_4, n10_6, n10_8, n10_9, n10_11, n10_13, n10_14, r11_7, c11_7, n11_4, n11_6, n11_8, n11_9, n11_10, n11_13, n11_14, r13_7, c13_7, n13_4, n13_6, n13_8, n13_9, n13_10, n13_11, n13_14, r14_7, c14_7, n14_4, n14_6, n14_8, n14_9, n14_10, n14_11, n14_13] at C8
   obtain ⟨c4_8, c6_8, c8_8, c9_8, c10_8, c11_8, c13_8, c14_8⟩ := C8
   have z4_8 := isRow_lt r4_8; have z6_8 := isRow_lt r6_8; have z8_8 := isRow_lt r8_8; have z9_8 := isRow_lt r9_8; have z10_8 := isRow_lt r10_8; have z11_8 := isRow_lt r11_8; have z13_8 := isRow_lt r13_8; have z14_8 := isRow_lt r14_8
   clear e8 r4_7 c4_7 z4_7 r6_7 c6_7 z6_7 r8_7 c8_7 z8_7 r9_7 c9_7 z9_7 r10_7 c10_7 z10_7 r11_7 c11_7 z11_7 r13_7 c13_7 z13_7 r14_7 c14_7 z14_7 hb7
   refine wp_quiet_alloc 7 _ (.cells (row 8 zf) 38) (Below W8.heap.size W8) (Made W8 (row 8 zf)) (by kernel_rfl) rfl rfl (by kernel_rfl) (fun a W => (xallocVec _ _ _ _ _ _ _).trans (allocVec W)) (closed_below W8) (closed_made W8 _) (fun b W h => h.1) (fun W h => made_new W8 _ _ W h) (Below.refl _ _).drew ?_
   simp only [List.take_succ_cons, List.take_zero, List.drop_succ_cons, List.drop_zero]
   iterate 4 (refine e_plain rfl ?_; apply Exists.intro; refine ⟨fun D hD hK W hW => ?_, ?_⟩; (focus (obtain ⟨x4, y4⟩ := keepB (hD W hW) z4_8 r4_8 c4_8; obtain ⟨x6, y6⟩ := keepB (hD W hW) z6_8 r6_8 c6_8; obtain ⟨x8, y8⟩ := keepB (hD W hW) z8_8 r8_8 c8_8; obtain ⟨x9, y9⟩ := keepB (hD W hW) z9_8 r9_8 c9_8; obtain ⟨x10, y10⟩ := keepB (hD W hW) z10_8 r10_8 c10_8; obtain ⟨x11, y11⟩ := keepB (hD W hW) z11_8 r11_8 c11_8; obtain ⟨x13, y13⟩ := keepB (hD W hW) z13_8 r13_8 c13_8; obtain ⟨x14, y14⟩ := keepB (hD W hW) z14_8 r14_8 c14_8; unfold Oper.quietAt; go_simp; first | done | rfl)); simp only [Act.put, List.setIfInBounds_toArray, List.set_cons_zero, List.set_cons_succ])
   (refine e_plain rfl ?_; apply Exists.intro; refine ⟨fun D hD hK W hW => ?_, ?_⟩; (focus (obtain ⟨x4, y4⟩ := keepB (hD W hW) z4_8 r4_8 c4_8; obtain ⟨x6, y6⟩ := keepB (hD W hW) z6_8 r6_8 c6_8; obtain ⟨x8, y8⟩ := keepB (hD W hW) z8_8 r8_8 c8_8; obtain ⟨x9, y9⟩ := keepB (hD W hW) z9_8 r9_8 c9_8; obtain ⟨x10, y10⟩ := keepB (hD W hW) z10_8 r10_8 c10_8; obtain ⟨x11, y11⟩ := keepB (hD W hW) z11_8 r11_8 c11_8; obtain ⟨x13, y13⟩ := keepB (hD W hW) z13_8 r13_8 c13_8; obtain ⟨x14, y14⟩ := keepB (hD W hW) z14_8 r14_8 c14_8; unfold Oper.quietAt; go_simp; (go_at_call 66; exact (multiply_any p n f (antR f j) b _ hp hp' hn HFb.out HAA.out Hb.out).mono fun e w2 ⟨he, hw2⟩ => ⟨he, hK _ _ hW hw2⟩))); simp only [Act.put, List.setIfInBounds_toArray, List.set_cons_zero, List.set_cons_succ])
   iterate 1 (refine e_plain rfl ?_; apply Exists.intro; refine ⟨fun D hD hK W hW => ?_, ?_⟩; (focus (obtain ⟨x4, y4⟩ := keepB (hD W hW) z4_8 r4_8 c4_8; obtain ⟨x6, y6⟩ := keepB (hD W hW) z6_8 r6_8 c6_8; obtain ⟨x8, y8⟩ := keepB (hD W hW) z8_8 r8_8 c8_8; obtain ⟨x9, y9⟩ := keepB (hD W hW) z9_8 r9_8 c9_8; obtain ⟨x10, y10⟩ := keepB (hD W hW) z10_8 r10_8 c10_8; obtain ⟨x11, y11⟩ := keepB (hD W hW) z11_8 r11_8 c11_8; obtain ⟨x13, y13⟩ := keepB (hD W hW) z13_8 r13_8 c13_8; obtain ⟨x14, y14⟩ := keepB (hD W hW) z14_8 r14_8 c14_8; unfold Oper.quietAt; go_simp; first | done | rfl)); simp only [Act.put, List.setIfInBounds_toArray, List.set_cons_zero, List.set_cons_succ])
   (refine e_plain rfl ?_; apply Exists.intro; refine ⟨fun D hD hK W hW => ?_, ?_⟩; (focus (obtain ⟨x4, y4⟩ := keepB (hD W hW) z4_8 r4_8 c4_8; obtain ⟨x6, y6⟩ := keepB (hD W hW) z6_8 r6_8 c6_8; obtain ⟨x8, y8⟩ := keepB (hD W hW) z8_8 r8_8 c8_8; obtain ⟨x9, y9⟩ := keepB (hD W hW) z9_8 r9_8 c9_8; obtain ⟨x10, y10⟩ := keepB (hD W hW) z10_8 r10_8 c10_8; obtain ⟨x11, y11⟩ := keepB (hD W hW) z11_8 r11_8 c11_8; obtain ⟨x13, y13⟩ := keepB (hD W hW) z13_8 r13_8 c13_8; obtain ⟨x14, y14⟩ := keepB (hD W hW) z14_8 r14_8 c14_8; unfold Oper.quietAt; go_simp; (go_at_call 66; exact (multiply_any p n f (mulF p n (mtab f) (antR f j) b) (fun t => copF p (coF f) a 8 (j * 8 + t)) _ hp hp' hn HFb.out HL.out HQ.out).mono fun e w2 ⟨he, hw2⟩ => ⟨he, hK _ _ hW hw2⟩))); simp only [Act.put, List.setIfInBounds_toArray, List.set_cons_zero, List.set_cons_succ])
   refine e_nil ?_
   intro a9 W9 hW9
   obtain ⟨hw9, hl9, m1_9, m2_9⟩ := hW9
   have n4_15 : (w.heap.size) ≠ (a9) := by have := z4_8; omega
   have n15_4 : (a9) ≠ (w.heap.size) := by have := z4_8; omega
   have n6_15 : (w.heap.size + 2) ≠ (a9) := by have := z6_8; omega
   have n15_6 : (a9) ≠ (w.heap.size + 2) := by have := z6_8; omega
   have n8_15 : (w.heap.size + 3) ≠ (a9) := by have := z8_8; omega
   have n15_8 : (a9) ≠ (w.heap.size + 3) := by have := z8_8; omega
   have n9_15 : (a2) ≠ (a9) := by have := z9_8; omega
   have n15_9 : (a9) ≠ (a2) := by have := z9_8; omega
   have n10_15 : (b2) ≠ (a9) := by have := z10_8; omega
   have n15_10 : (a9) ≠ (b2) := by have := z10_8; omega
   have n11_15 : (W2.heap.size) ≠ (a9) := by have := z11_8; omega
   have n15_11 : (a9) ≠ (W2.heap.size) := by have := z11_8; omega
   have n13_15 : (a5) ≠ (a9) := by have := z13_8; omega
   have n15_13 : (a9) ≠ (a5) := by have := z13_8; omega
   have n14_15 : (b5) ≠ (a9) := by have := z14_8; omega
   have n15_14 : (a9) ≠ (b5) := by have := z14_8; omega
   obtain ⟨r4_9, c4_9, z4_9⟩ := keepZ hw9 z4_8 r4_8 c4_8
   obtain ⟨r6_9, c6_9, z6_9⟩ := keepZ hw9 z6_8 r6_8 c6_8
   obtain ⟨r8_9, c8_9, z8_9⟩ := keepZ hw9 z8_8 r8_8 c8_8
   obtain ⟨r9_9, c9_9, z9_9⟩ := keepZ hw9 z9_8 r9_8 c9_8
   obtain ⟨r10_9, c10_9, z10_9⟩ := keepZ hw9 z10_8 r10_8 c10_8
   obtain ⟨r11_9, c11_9, z11_9⟩ := keepZ hw9 z11_8 r11_8 c11_8
   obtain ⟨r13_9, c13_9, z13_9⟩ := keepZ hw9 z13_8 r13_8 c13_8
   obtain ⟨r14_9, c14_9, z14_9⟩ := keepZ hw9 z14_8 r14_8 c14_8
   obtain ⟨hb9, q9⟩ := bN hb8 hw9
   clear hw9 r4_8 c4_8 z4_8 r6_8 c6_8 z6_8 r8_8 c8_8 z8_8 r9_8 c9_8 z9_8 r10_8 c10_8 z10_8 r11_8 c11_8 z11_8 r13_8 c13_8 z13_8 r14_8 c14_8 z14_8 hb8
   have z15_9 := isRow_lt m1_9
   simp only [Act.put, List.setIfInBounds_toArray, List.set_cons_zero, List.set_cons_succ]
   go_wp2
   refine atomW fun W10 e10 => ?_
   have hb10 : Below w.heap.size w W10 := by rw [e10]; exact bt
   have q10 := hb10.size
   have R10 : IsRow W10 (w.heap.size) ∧ IsRow W10 (w.heap.size + 2) ∧ IsRow W10 (w.heap.size + 3) ∧ IsRow W10 (a2) ∧ IsRow W10 (b2) ∧ IsRow W10 (W2.heap.size) ∧ IsRow W10 (a9) := by rw [e10]; simp [go_sem, r4_9, c4_9, n4_9, n4_10, n4_11, n4_13, n4_14, n4_15, r6_9, c6_9, n6_9, n6_10, n6_11, n6_13, n6_14, n6_15, r8_9, c8_9, n8_9, n8_10, n8_11, n8_13, n8_14, n8_15, r9_9, c9_9, n9_4, n9_6, n9_8, n9_10, n9_11, n9_13, n9_14, n9_15, r10_9, c10_9, n10_4, n10_6, n10_8, n10_9, n10_11, n10_13, n10_14, n10_15, r11_9, c11_9, n11_4, n11_6, n11_8, n11_9, n11_10, n11_13, n11_14, n11_15, m1_9, m2_9, n15_4, n15_6, n15_8, n15_9, n15_10, n15_11, n15_13, n15_14, r13_9, r14_9]
   obtain ⟨r4_10, r6_10, r8_10, r9_10, r10_10, r11_10, r15_10⟩ := R10
   have C10 := (⟨congrArg (blk · (w.heap.size)) e10, congrArg (blk · (w.heap.size + 2)) e10, congrArg (blk · (w.heap.size + 3)) e10, congrArg (blk · (a2)) e10, congrArg (blk · (b2)) e10, congrArg (blk · (W2.heap.size)) e10, congrArg (blk · (a9)) e10⟩ : _ ∧ _ ∧ _ ∧ _ ∧ _ ∧ _ ∧ _); simp [go_sem, r4_9, c4_9, n4_9, n4_10, n4_11, n4_13, n4_14, n4_15, r6_9, c6_9, n6_9, n6_10, n6_11, n6_13, n6_14, n6_15, r8_9, c8_9, n8_9, n8_10, n8_11, n8_13, n8_14, n8_15, r9_9, c9_9, n9_4, n9_6, n9_8, n9_10, n9_11, n9_13, n9_14, n9_15, r10_9, c10_9, n10_4, n10_6, n10_8, n10_9, n10_11, n10_13, n10_14, n10_15, r11_9, c11_9, n11_4, n11_6, n11_8, n11_9, n11_10, n11_13, n11_14, n11_15, m1_9, m2_9, n15_4, n15_6, n15_8, n15_9, n15_10, n15_11, n15_13, n15_14, r13_9, r14_9] at C10
   obtain ⟨c4_10, c6_10, c8_10, c9_10, c10_10, c11_10, c15_10⟩ := C10
   have z4_10 := isRow_lt r4_10; have z6_10 := isRow_lt r6_10; have z8_10 := isRow_lt r8_10; have z9_10 := isRow_lt r9_10; have z10_10 := isRow_lt r10_10; have z11_10 := isRow_lt r11_10; have z15_10 := isRow_lt r15_10
   clear e10 r4_9 c4_9 z4_9 r6_9 c6_9 z6_9 r8_9 c8_9 z8_9 r9_9 c9_9 z9_9 r10_9 c10_9 z10_9 r11_9 c11_9 z11_9 m1_9 m2_9 z15_9 hb9
   refine wp_quiet_tail 4 (Below W10.heap.size W10) (by kernel_rfl) (by kernel_rfl) (Below.refl _ _).drew ?_
   simp only [List.take_succ_cons, List.take_zero, List.drop_succ_cons, List.drop_zero]
   iterate 4 (refine q_plain rfl ?_; apply Exists.intro; refine ⟨fun W hW => ?_, ?_⟩; (focus (obtain ⟨x4, y4⟩ := keepB hW z4_10 r4_10 c4_10; obtain ⟨x6, y6⟩ := keepB hW z6_10 r6_10 c6_10; obtain ⟨x8, y8⟩ := keepB hW z8_10 r8_10 c8_10; obtain ⟨x9, y9⟩ := keepB hW z9_10 r9_10 c9_10; obtain ⟨x10, y10⟩ := keepB hW z10_10 r10_10 c10_10; obtain ⟨x11, y11⟩ := keepB hW z11_10 r11_10 c11_10; obtain ⟨x15, y15⟩ := keepB hW z15_10 r15_10 c15_10; go_simp; first | done | rfl)); simp only [Act.put, List.setIfInBounds_toArray, List.set_cons_zero, List.set_cons_succ])
   refine wpQuiet_nil ?_
   intro W11 hw11
   obtain ⟨r4_11, c4_11, z4_11⟩ := keepZ hw11 z4_10 r4_10 c4_10
   obtain ⟨r6_11, c6_11, z6_11⟩ := keepZ hw11 z6_10 r6_10 c6_10
   obtain ⟨r8_11, c8_11, z8_11⟩ := keepZ hw11 z8_10 r8_10 c8_10
   obtain ⟨r9_11, c9_11, z9_11⟩ := keepZ hw11 z9_10 r9_10 c9_10
   obtain ⟨r10_11, c10_11, z10_11⟩ := keepZ hw11 z10_10 r10_10 c10_10
   obtain ⟨r11_11, c11_11, z11_11⟩ := keepZ hw11 z11_10 r11_10 c11_10
   obtain ⟨r15_11, c15_11, z15_11⟩ := keepZ hw11 z15_10 r15_10 c15_10
   obtain ⟨hb11, q11⟩ := bN hb10 hw11
   clear hw11 r4_10 c4_10 z4_10 r6_10 c6_10 z6_10 r8_10 c8_10 z8_10 r9_10 c9_10 z9_10 r10_10 c10_10 z10_10 r11_10 c11_10 z11_10 r15_10 c15_10 z15_10 hb10
   go_wp2_with fail
   refine (addMultiple_any p 1 _ 0 8 8 _ _ _ 0 (adI p n f a b true j) (adQ p n f a b true j) _ hp hp' (by omega) (by omega) r11_11 c11_11 (by omega) (by omega) (fun t _ _ => adI_range hp _ _ _ _ _ _ t) (byte_at (N := 8) (off' := 0) c15_11 (by omega) (fun t _ => by rw [Nat.zero_add]; rfl) HP.out) (by omega)).mono ?_; rintro _ _ ⟨rfl, rfl⟩
   go_wp2
   go_roundw
   case rel => exact ⟨j + 1, by omega, by go_num, bt, ⟨by simp [go_sem, r4_11, c4_11, n4_9, n4_10, n4_11, n4_15, r6_11, c6_11, n6_9, n6_10, n6_11, n6_15, r8_11, c8_11, n8_9, n8_10, n8_11, n8_15, r9_11, c9_11, n9_4, n9_6, n9_8, n9_10, n9_11, n9_15, r10_11, c10_11, n10_4, n10_6, n10_8, n10_9, n10_11, n10_15, r11_11, c11_11, n11_4, n11_6, n11_8, n11_9, n11_10, n11_15, r15_11, c15_11, n15_4, n15_6, n15_8, n15_9, n15_10, n15_11], (by rw [E4_4.out]; first | exact c4_11 | (simp [go_sem, r4_11, c4_11, n4_9, n4_10, n4_11, n4_15, r6_11, c6_11, n6_9, n6_10, n6_11, n6_15, r8_11, c8_11, n8_9, n8_10, n8_11, n8_15, r9_11, c9_11, n9_4, n9_6, n9_8, n9_10, n9_11, n9_15, r10_11, c10_11, n10_4, n10_6, n10_8, n10_9, n10_11, n10_15, r11_11, c11_11, n11_4, n11_6, n11_8, n11_9, n11_10, n11_15, r15_11, c15_11, n15_4, n15_6, n15_8, n15_9, n15_10, n15_11]; done))⟩, ⟨by simp [go_sem, r4_11, c4_11, n4_9, n4_10, n4_11, n4_15, r6_11, c6_11, n6_9, n6_10, n6_11, n6_15, r8_11, c8_11, n8_9, n8_10, n8_11, n8_15, r9_11, c9_11, n9_4, n9_6, n9_8, n9_10, n9_11, n9_15, r10_11, c10_11, n10_4, n10_6, n10_8, n10_9, n10_11, n10_15, r11_11, c11_11, n11_4, n11_6, n11_8, n11_9, n11_10, n11_15, r15_11, c15_11, n15_4, n15_6, n15_8, n15_9, n15_10, n15_11], (by rw [E6_4.out]; first | exact c6_11 | (simp [go_sem, r4_11, c4_11, n4_9, n4_10, n4_11, n4_15, r6_11, c6_11, n6_9, n6_10, n6_11, n6_15, r8_11, c8_11, n8_9, n8_10, n8_11, n8_15, r9_11, c9_11, n9_4, n9_6, n9_8, n9_10, n9_11, n9_15, r10_11, c10_11, n10_4, n10_6, n10_8, n10_9, n10_11, n10_15, r11_11, c11_11, n11_4, n11_6, n11_8, n11_9, n11_10, n11_15, r15_11, c15_11, n15_4, n15_6, n15_8, n15_9, n15_10, n15_11]; done))⟩, ⟨by simp [go_sem, r4_11, c4_11, n4_9, n4_10, n4_11, n4_15, r6_11, c6_11, n6_9, n6_10, n6_11, n6_15, r8_11, c8_11, n8_9, n8_10, n8_11, n8_15, r9_11, c9_11, n9_4, n9_6, n9_8, n9_10, n9_11, n9_15, r10_11, c10_11, n10_4, n10_6, n10_8, n10_9, n10_11, n10_15, r11_11, c11_11, n11_4, n11_6, n11_8, n11_9, n11_10, n11_15, r15_11, c15_11, n15_4, n15_6, n15_8, n15_9, n15_10, n15_11], (by rw [E8_4.out]; first | exact c8_11 | (simp [go_sem, r4_11, c4_11, n4_9, n4_10, n4_11, n4_15, r6_11, c6_11, n6_9, n6_10, n6_11, n6_15, r8_11, c8_11, n8_9, n8_10, n8_11, n8_15, r9_11, c9_11, n9_4, n9_6, n9_8, n9_10, n9_11, n9_15, r10_11, c10_11, n10_4, n10_6, n10_8, n10_9, n10_11, n10_15, r11_11, c11_11, n11_4, n11_6, n11_8, n11_9, n11_10, n11_15, r15_11, c15_11, n15_4, n15_6, n15_8, n15_9, n15_10, n15_11]; done))⟩, ⟨by simp [go_sem, r4_11, c4_11, n4_9, n4_10, n4_11, n4_15, r6_11, c6_11, n6_9, n6_10, n6_11, n6_15, r8_11, c8_11, n8_9, n8_10, n8_11, n8_15, r9_11, c9_11, n9_4, n9_6, n9_8, n9_10, n9_11, n9_15, r10_11, c10_11, n10_4, n10_6, n10_8, n10_9, n10_11, n10_15, r11_11, c11_11, n11_4, n11_6, n11_8, n11_9, n11_10, n11_15, r15_11, c15_11, n15_4, n15_6, n15_8, n15_9, n15_10, n15_11], (by rw [E9_4.out]; first | exact c9_11 | (simp [go_sem, r4_11, c4_11, n4_9, n4_10, n4_11, n4_15, r6_11, c6_11, n6_9, n6_10, n6_11, n6_15, r8_11, c8_11, n8_9, n8_10, n8_11, n8_15, r9_11, c9_11, n9_4, n9_6, n9_8, n9_10, n9_11, n9_15, r10_11, c10_11, n10_4, n10_6, n10_8, n10_9, n10_11, n10_15, r11_11, c11_11, n11_4, n11_6, n11_8, n11_9, n11_10, n11_15, r15_11, c15_11, n15_4, n15_6, n15_8, n15_9, n15_10, n15_11]; done))⟩, ⟨by simp [go_sem, r4_11, c4_11, n4_9, n4_10, n4_11, n4_15, r6_11, c6_11, n6_9, n6_10, n6_11, n6_15, r8_11, c8_11, n8_9, n8_10, n8_11, n8_15, r9_11, c9_11, n9_4, n9_6, n9_8, n9_10, n9_11, n9_15, r10_11, c10_11, n10_4, n10_6, n10_8, n10_9, n10_11, n10_15, r11_11, c11_11, n11_4, n11_6, n11_8, n11_9, n11_10, n11_15, r15_11, c15_11, n15_4, n15_6, n15_8, n15_9, n15_10, n15_11], (by rw [E10_4.out]; first | exact c10_11 | (simp [go_sem, r4_11, c4_11, n4_9, n4_10, n4_11, n4_15, r6_11, c6_11, n6_9, n6_10, n6_11, n6_15, r8_11, c8_11, n8_9, n8_10, n8_11, n8_15, r9_11, c9_11, n9_4, n9_6, n9_8, n9_10, n9_11, n9_15, r10_11, c10_11, n10_4, n10_6, n10_8, n10_9, n10_11, n10_15, r11_11, c11_11, n11_4, n11_6, n11_8, n11_9, n11_10, n11_15, r15_11, c15_11, n15_4, n15_6, n15_8, n15_9, n15_10, n15_11]; done))⟩, ⟨by simp [go_sem, r4_11, c4_11, n4_9, n4_10, n4_11, n4_15, r6_11, c6_11, n6_9, n6_10, n6_11, n6_15, r8_11, c8_11, n8_9, n8_10, n8_11, n8_15, r9_11, c9_11, n9_4, n9_6, n9_8, n9_10, n9_11, n9_15, r10_11, c10_11, n10_4, n10_6, n10_8, n10_9, n10_11, n10_15, r11_11, c11_11, n11_4, n11_6, n11_8, n11_9, n11_10, n11_15, r15_11, c15_11, n15_4, n15_6, n15_8, n15_9, n15_10, n15_11], (by first | (rw [blk_setRow _ _ _ _ r11_11, if_pos rfl]; exact adI_step p n f a b true j) | exact (c11_11).trans (adI_step p n f a b true j) | (simp [go_sem, r4_11, c4_11, n4_9, n4_10, n4_11, n4_15, r6_11, c6_11, n6_9, n6_10, n6_11, n6_15, r8_11, c8_11, n8_9, n8_10, n8_11, n8_15, r9_11, c9_11, n9_4, n9_6, n9_8, n9_10, n9_11, n9_15, r10_11, c10_11, n10_4, n10_6, n10_8, n10_9, n10_11, n10_15, r11_11, c11_11, n11_4, n11_6, n11_8, n11_9, n11_10, n11_15, r15_11, c15_11, n15_4, n15_6, n15_8, n15_9, n15_10, n15_11]; exact adI_step p n f a b true j))⟩⟩
   case measure => simp [intOf]; try omega
  ·
   obtain rfl : n = j := by omega
   go_wp2_with fail
   refine bodyPost_ret (result_cell rfl aggVec _ _ (row 8 (adI p n f a b true n)) _ rfl ?_ ?_) rfl ⟨rfl, ?_⟩
   · simp [go_sem, r4_4, c4_4, n4_9, n4_10, n4_11, r6_4, c6_4, n6_9, n6_10, n6_11, r8_4, c8_4, n8_9, n8_10, n8_11, r9_4, c9_4, n9_4, n9_6, n9_8, n9_10, n9_11, r10_4, c10_4, n10_4, n10_6, n10_8, n10_9, n10_11, r11_4, c11_4, n11_4, n11_6, n11_8, n11_9, n11_10]
   · simp [go_sem, r4_4, c4_4, n4_9, n4_10, n4_11, r6_4, c6_4, n6_9, n6_10, n6_11, r8_4, c8_4, n8_9, n8_10, n8_11, r9_4, c9_4, n9_4, n9_6, n9_8, n9_10, n9_11, r10_4, c10_4, n10_4, n10_6, n10_8, n10_9, n10_11, r11_4, c11_4, n11_4, n11_6, n11_8, n11_9, n11_10]
   · exact bt

set_option maxRecDepth 100000 in
set_option maxHeartbeats 4000000 in
theorem l07Adjoint_true (p : Int) (n : Nat) (f a b : Nat → Int) (w : World) (hp : 0 < p) (hp' : p ≤ 255) (hn : n ≤ 8) (hF : Bytes 1104 f) (ha : Bytes 8 a) (hb : Bytes 8 b) :
    Calls Try.prog 34 #[.agg (hop p n f), .agg (row 8 a), .agg (row 8 b), .bool true] w fun e w' => e = .returned (.agg (row 8 (adK p n f a b true n 0))) ∧ Below w.heap.size w w' := by
 have HF := Lib.hid hF; clear hF
 have Ha := Lib.hid ha; clear ha
 have Hb := Lib.hid hb; clear hb
 go_enter Try.func34, Try.ntmps34
 go_wp2
 refine atomW fun W1 e1 => ?_
 have hb1 : Below w.heap.size w W1 := by rw [e1]; exact bt
 have q1 := hb1.size
 have R1 : IsRow W1 (w.heap.size) ∧ IsRow W1 (w.heap.size + 1) ∧ IsRow W1 (w.heap.size + 2) ∧ IsRow W1 (w.heap.size + 3) := by rw [e1]; simp [go_sem]
 obtain ⟨r4_1, r5_1, r6_1, r8_1⟩ := R1
 have C1 := (⟨congrArg (blk · (w.heap.size)) e1, congrArg (blk · (w.heap.size + 1)) e1, congrArg (blk · (w.heap.size + 2)) e1, congrArg (blk · (w.heap.size + 3)) e1⟩ : _ ∧ _ ∧ _ ∧ _); simp [go_sem] at C1
 obtain ⟨c4_1, c5_1, c6_1, c8_1⟩ := C1
 have z4_1 := isRow_lt r4_1; have z5_1 := isRow_lt r5_1; have z6_1 := isRow_lt r6_1; have z8_1 := isRow_lt r8_1
 clear e1
 refine wp_quiet_made3s 6 2 _ _ _ _ (row 64 zf) (row 8 zf) (alg 0 0 zf) 40 38 91 40 9 18 (by kernel_rfl) rfl rfl rfl rfl rfl rfl rfl rfl rfl (by simp) rfl (by kernel_rfl) (fun a W => (xallocLin _ _ _ _ _ _ _).trans (allocLin W)) (fun a W => (xallocVec _ _ _ _ _ _ _).trans (allocVec W)) (fun a W => (xallocAlg _ _ _ _ _ _ _).trans (allocAlg W)) (fun A W => rfl) ?_
 simp only [List.take_succ_cons, List.take_zero, List.drop_succ_cons, List.drop_zero, List.eraseIdx_cons_succ, List.eraseIdx_cons_zero]
 iterate 2 (refine e_plain rfl ?_; apply Exists.intro; refine ⟨fun D hD hK W hW => ?_, ?_⟩; (focus (obtain ⟨x4, y4⟩ := keepB (hD W hW) z4_1 r4_1 c4_1; obtain ⟨x5, y5⟩ := keepB (hD W hW) z5_1 r5_1 c5_1; obtain ⟨x6, y6⟩ := keepB (hD W hW) z6_1 r6_1 c6_1; obtain ⟨x8, y8⟩ := keepB (hD W hW) z8_1 r8_1 c8_1; unfold Oper.quietAt; go_simp; first | done | rfl)); simp only [Act.put, List.setIfInBounds_toArray, List.set_cons_zero, List.set_cons_succ])
 (refine e_plain rfl ?_; apply Exists.intro; refine ⟨fun D hD hK W hW => ?_, ?_⟩; (focus (obtain ⟨x4, y4⟩ := keepB (hD W hW) z4_1 r4_1 c4_1; obtain ⟨x5, y5⟩ := keepB (hD W hW) z5_1 r5_1 c5_1; obtain ⟨x6, y6⟩ := keepB (hD W hW) z6_1 r6_1 c6_1; obtain ⟨x8, y8⟩ := keepB (hD W hW) z8_1 r8_1 c8_1; unfold Oper.quietAt; go_simp; (go_at_call 56; exact (l03Coproduct_any p n f a _ hp hp' hn HF.out Ha.out).mono fun e w2 ⟨he, hw2⟩ => ⟨he, hK _ _ hW hw2⟩))); simp only [Act.put, List.setIfInBounds_toArray, List.set_cons_zero, List.set_cons_succ])
 iterate 2 (refine e_plain rfl ?_; apply Exists.intro; refine ⟨fun D hD hK W hW => ?_, ?_⟩; (focus (obtain ⟨x4, y4⟩ := keepB (hD W hW) z4_1 r4_1 c4_1; obtain ⟨x5, y5⟩ := keepB (hD W hW) z5_1 r5_1 c5_1; obtain ⟨x6, y6⟩ := keepB (hD W hW) z6_1 r6_1 c6_1; obtain ⟨x8, y8⟩ := keepB (hD W hW) z8_1 r8_1 c8_1; unfold Oper.quietAt; go_simp; first | done | rfl)); simp only [Act.put, List.setIfInBounds_toArray, List.set_cons_zero, List.set_cons_succ])
 (refine e_plain rfl ?_; apply Exists.intro; refine ⟨fun D hD hK W hW => ?_, ?_⟩; (focus (obtain ⟨x4, y4⟩ := keepB (hD W hW) z4_1 r4_1 c4_1; obtain ⟨x5, y5⟩ := keepB (hD W hW) z5_1 r5_1 c5_1; obtain ⟨x6, y6⟩ := keepB (hD W hW) z6_1 r6_1 c6_1; obtain ⟨x8, y8⟩ := keepB (hD W hW) z8_1 r8_1 c8_1; unfold Oper.quietAt; go_simp; (go_at_call 57; exact (l03Algebra_any _ _ _ _).mono fun e w2 ⟨he, hw2⟩ => ⟨he, hK _ _ hW hw2⟩))); simp only [Act.put, List.setIfInBounds_toArray, List.set_cons_zero, List.set_cons_succ])
 refine e_nil ?_
 refine ⟨row 64 (copS p (coF f) a n n 0), fun b W hr hc => ?_, ?_⟩
 · simp [go_sem, hr, hc, Act.eval]
 intro a2 b2 d2 W2 hw2 mk1_2 mk2_2 mk3_2 hne1_2 hne2_2 hne3_2
 obtain ⟨hl0_2, mr0_2, mc0_2⟩ := mk1_2
 obtain ⟨hl1_2, mr1_2, mc1_2⟩ := mk2_2
 obtain ⟨hl2_2, mr2_2, mc2_2⟩ := mk3_2
 have n4_9 : (w.heap.size) ≠ (a2) := by have := z4_1; omega
 have n9_4 : (a2) ≠ (w.heap.size) := by have := z4_1; omega
 have n4_10 : (w.heap.size) ≠ (b2) := by have := z4_1; omega
 have n10_4 : (b2) ≠ (w.heap.size) := by have := z4_1; omega
 have n4_11 : (w.heap.size) ≠ (d2) := by have := z4_1; omega
 have n11_4 : (d2) ≠ (w.heap.size) := by have := z4_1; omega
 have n5_9 : (w.heap.size + 1) ≠ (a2) := by have := z5_1; omega
 have n9_5 : (a2) ≠ (w.heap.size + 1) := by have := z5_1; omega
 have n5_10 : (w.heap.size + 1) ≠ (b2) := by have := z5_1; omega
 have n10_5 : (b2) ≠ (w.heap.size + 1) := by have := z5_1; omega
 have n5_11 : (w.heap.size + 1) ≠ (d2) := by have := z5_1; omega
 have n11_5 : (d2) ≠ (w.heap.size + 1) := by have := z5_1; omega
 have n6_9 : (w.heap.size + 2) ≠ (a2) := by have := z6_1; omega
 have n9_6 : (a2) ≠ (w.heap.size + 2) := by have := z6_1; omega
 have n6_10 : (w.heap.size + 2) ≠ (b2) := by have := z6_1; omega
 have n10_6 : (b2) ≠ (w.heap.size + 2) := by have := z6_1; omega
 have n6_11 : (w.heap.size + 2) ≠ (d2) := by have := z6_1; omega
 have n11_6 : (d2) ≠ (w.heap.size + 2) := by have := z6_1; omega
 have n8_9 : (w.heap.size + 3) ≠ (a2) := by have := z8_1; omega
 have n9_8 : (a2) ≠ (w.heap.size + 3) := by have := z8_1; omega
 have n8_10 : (w.heap.size + 3) ≠ (b2) := by have := z8_1; omega
 have n10_8 : (b2) ≠ (w.heap.size + 3) := by have := z8_1; omega
 have n8_11 : (w.heap.size + 3) ≠ (d2) := by have := z8_1; omega
 have n11_8 : (d2) ≠ (w.heap.size + 3) := by have := z8_1; omega
 obtain ⟨r4_2, c4_2, z4_2⟩ := keepZ hw2 z4_1 r4_1 c4_1
 obtain ⟨r5_2, c5_2, z5_2⟩ := keepZ hw2 z5_1 r5_1 c5_1
 obtain ⟨r6_2, c6_2, z6_2⟩ := keepZ hw2 z6_1 r6_1 c6_1
 obtain ⟨r8_2, c8_2, z8_2⟩ := keepZ hw2 z8_1 r8_1 c8_1
 obtain ⟨hb2, q2⟩ := bN hb1 hw2
 clear hw2 r4_1 c4_1 z4_1 r5_1 c5_1 z5_1 r6_1 c6_1 z6_1 r8_1 c8_1 z8_1 hb1
 have n9_10 : (a2) ≠ (b2) := hne1_2
 have n10_9 : (b2) ≠ (a2) := Ne.symm hne1_2
 have n9_11 : (a2) ≠ (d2) := hne2_2
 have n11_9 : (d2) ≠ (a2) := Ne.symm hne2_2
 have n10_11 : (b2) ≠ (d2) := hne3_2
 have n11_10 : (d2) ≠ (b2) := Ne.symm hne3_2
 have z9_2 := isRow_lt mr0_2
 have z10_2 := isRow_lt mr1_2
 have z11_2 := isRow_lt mr2_2
 simp only [Act.put, List.setIfInBounds_toArray, List.set_cons_zero, List.set_cons_succ]
 go_wp2
 refine atomW fun W3 e3 => ?_
 have hb3 : Below w.heap.size w W3 := by rw [e3]; exact bt
 have q3 := hb3.size
 have R3 : IsRow W3 (w.heap.size) ∧ IsRow W3 (w.heap.size + 2) ∧ IsRow W3 (w.heap.size + 3) ∧ IsRow W3 (a2) ∧ IsRow W3 (b2) ∧ IsRow W3 (d2) := by rw [e3]; simp [go_sem, r4_2, c4_2, n4_9, n4_10, n4_11, r6_2, c6_2, n6_9, n6_10, n6_11, r8_2, c8_2, n8_9, n8_10, n8_11, mr0_2, mc0_2, n9_4, n9_5, n9_6, n9_8, n9_10, n9_11, mr1_2, mc1_2, n10_4, n10_5, n10_6, n10_8, n10_9, n10_11, mr2_2, mc2_2, n11_4, n11_5, n11_6, n11_8, n11_9, n11_10, r5_2]
 obtain ⟨r4_3, r6_3, r8_3, r9_3, r10_3, r11_3⟩ := R3
 have C3 := (⟨congrArg (blk · (w.heap.size)) e3, congrArg (blk · (w.heap.size + 2)) e3, congrArg (blk · (w.heap.size + 3)) e3, congrArg (blk · (a2)) e3, congrArg (blk · (b2)) e3, congrArg (blk · (d2)) e3⟩ : _ ∧ _ ∧ _ ∧ _ ∧ _ ∧ _); simp [go_sem, r4_2, c4_2, n4_9, n4_10, n4_11, r6_2, c6_2, n6_9, n6_10, n6_11, r8_2, c8_2, n8_9, n8_10, n8_11, mr0_2, mc0_2, n9_4, n9_5, n9_6, n9_8, n9_10, n9_11, mr1_2, mc1_2, n10_4, n10_5, n10_6, n10_8, n10_9, n10_11, mr2_2, mc2_2, n11_4, n11_5, n11_6, n11_8, n11_9, n11_10, r5_2] at C3
 obtain ⟨c4_3, c6_3, c8_3, c9_3, c10_3, c11_3⟩ := C3
 have z4_3 := isRow_lt r4_3; have z6_3 := isRow_lt r6_3; have z8_3 := isRow_lt r8_3; have z9_3 := isRow_lt r9_3; have z10_3 := isRow_lt r10_3; have z11_3 := isRow_lt r11_3
 clear e3 r4_2 c4_2 z4_2 r6_2 c6_2 z6_2 r8_2 c8_2 z8_2 mr0_2 mc0_2 z9_2 mr1_2 mc1_2 z10_2 mr2_2 mc2_2 z11_2 hb2
 go_loopw [12] (fun s12 wr => ∃ j : Nat, j ≤ n ∧ s12 = .int .i64 j ∧ Below w.heap.size w wr ∧ (IsRow wr (w.heap.size) ∧ blk wr (w.heap.size) = blk W3 (w.heap.size)) ∧ (IsRow wr (w.heap.size + 2) ∧ blk wr (w.heap.size + 2) = blk W3 (w.heap.size + 2)) ∧ (IsRow wr (w.heap.size + 3) ∧ blk wr (w.heap.size + 3) = blk W3 (w.heap.size + 3)) ∧ (IsRow wr (a2) ∧ blk wr (a2) = blk W3 (a2)) ∧ (IsRow wr (b2) ∧ blk wr (b2) = row 8 (adK p n f a b true j 0)) ∧ (IsRow wr (d2) ∧ blk wr (d2) = blk W3 (d2))) (fun s12 _ => n - (intOf s12).toNat)
 case atStart => exact ⟨0, by omega, rfl, hb3, ⟨r4_3, rfl⟩, ⟨r6_3, rfl⟩, ⟨r8_3, rfl⟩, ⟨r9_3, rfl⟩, ⟨r10_3, c10_3.trans (adK_zero p n f a b true)⟩, ⟨r11_3, rfl⟩⟩
 case round =>
  obtain ⟨j, hle4, rfl, hb4, ⟨r4_4, c4_4⟩, ⟨r6_4, c6_4⟩, ⟨r8_4, c8_4⟩, ⟨r9_4, c9_4⟩, ⟨r10_4, c10_4⟩, ⟨r11_4, c11_4⟩⟩ := hrel
  obtain ⟨W4, rfl⟩ : ∃ W4 : World, W4 = wr := ⟨_, rfl⟩
  have q4 := hb4.size
  have E4_4 := Lib.hid c4_3; replace c4_4 := c4_4.trans c4_3
  have z4_4 := isRow_lt r4_4
  have E6_4 := Lib.hid c6_3; replace c6_4 := c6_4.trans c6_3
  have z6_4 := isRow_lt r6_4
  have E8_4 := Lib.hid c8_3; replace c8_4 := c8_4.trans c8_3
  have z8_4 := isRow_lt r8_4
  have E9_4 := Lib.hid c9_3; replace c9_4 := c9_4.trans c9_3
  have z9_4 := isRow_lt r9_4
  have z10_4 := isRow_lt r10_4
  have E11_4 := Lib.hid c11_3; replace c11_4 := c11_4.trans c11_3
  have z11_4 := isRow_lt r11_4
  clear r4_3 c4_3 z4_3 r6_3 c6_3 z6_3 r8_3 c8_3 z8_3 r9_3 c9_3 z9_3 r10_3 c10_3 z10_3 r11_3 c11_3 z11_3 hb3
  by_cases hlt4 : j < n
  ·
   have i0_4 : (0 : Int) ≤ (j : Int) := by omega
   have i8_4 : (j : Int) < 8 := by omega
   have k8_4 : j < 8 := by omega
   have m8_4 : j * 8 + 8 ≤ 64 := by omega
   have m64_4 : j * 64 + 64 ≤ 512 := by omega
   have l1_4 : 10 + j * 64 + 64 ≤ 522 := by omega
   go_wp2
   go_loopw [13] (fun s13 wr => ∃ k : Nat, k ≤ n ∧ s13 = .int .i64 k ∧ Below w.heap.size w wr ∧ (IsRow wr (w.heap.size) ∧ blk wr (w.heap.size) = blk W4 (w.heap.size)) ∧ (IsRow wr (w.heap.size + 2) ∧ blk wr (w.heap.size + 2) = blk W4 (w.heap.size + 2)) ∧ (IsRow wr (w.heap.size + 3) ∧ blk wr (w.heap.size + 3) = blk W4 (w.heap.size + 3)) ∧ (IsRow wr (a2) ∧ blk wr (a2) = blk W4 (a2)) ∧ (IsRow wr (b2) ∧ blk wr (b2) = row 8 (adK p n f a b true j k)) ∧ (IsRow wr (d2) ∧ blk wr (d2) = blk W4 (d2))) (fun s13 _ => n - (intOf s13).toNat)
   case atStart => exact ⟨0, by omega, rfl, hb4, ⟨r4_4, rfl⟩, ⟨r6_4, rfl⟩, ⟨r8_4, rfl⟩, ⟨r9_4, rfl⟩, ⟨r10_4, c10_4⟩, ⟨r11_4, rfl⟩⟩
   case round =>
    obtain ⟨k, hle5, rfl, hb5, ⟨r4_5, c4_5⟩, ⟨r6_5, c6_5⟩, ⟨r8_5, c8_5⟩, ⟨r9_5, c9_5⟩, ⟨r10_5, c10_5⟩, ⟨r11_5, c11_5⟩⟩ := hrel
    obtain ⟨W5, rfl⟩ : ∃ W5 : World, W5 = wr := ⟨_, rfl⟩
    have q5 := hb5.size
    have E4_5 := Lib.hid c4_4; replace c4_5 := c4_5.trans c4_4
    have z4_5 := isRow_lt r4_5
    have E6_5 := Lib.hid c6_4; replace c6_5 := c6_5.trans c6_4
    have z6_5 := isRow_lt r6_5
    have E8_5 := Lib.hid c8_4; replace c8_5 := c8_5.trans c8_4
    have z8_5 := isRow_lt r8_5
    have E9_5 := Lib.hid c9_4; replace c9_5 := c9_5.trans c9_4
    have z9_5 := isRow_lt r9_5
    have z10_5 := isRow_lt r10_5
    have E11_5 := Lib.hid c11_4; replace c11_5 := c11_5.trans c11_4
    have z11_5 := isRow_lt r11_5
    clear r4_4 c4_4 z4_4 r6_4 c6_4 z6_4 r8_4 c8_4 z8_4 r9_4 c9_4 z9_4 r10_4 c10_4 z10_4 r11_4 c11_4 z11_4 hb4
    by_cases hlt5 : k < n
    ·
     have i0_5 : (0 : Int) ≤ (k : Int) := by omega
     have i8_5 : (k : Int) < 8 := by omega
     have k8_5 : k < 8 := by omega
     have m8_5 : k * 8 + 8 ≤ 64 := by omega
     have m64_5 : k * 64 + 64 ≤ 512 := by omega
     have l1_5 : 10 + k * 64 + 64 ≤ 522 := by omega
     have l2_5j : 10 + j * 64 + k * 8 + 8 ≤ 522 := by omega
     have l3_5j : 10 + k * 64 + j * 8 + 8 ≤ 522 := by omega
     have l4_5j : j * 64 + k * 8 + 8 ≤ 512 := by omega
     have l5_5j : k * 64 + j * 8 + 8 ≤ 512 := by omega
     have l6_5j : j * 8 + k < 64 := by omega
     have l7_5j : k * 8 + j < 64 := by omega
     by_cases hz : copS p (coF f) a n n 0 (j * 8 + k) = 0
     ·
      have hz1 : (copS p (coF f) a n n 0 (j * 8 + k) == 0) = true := by simpa using hz
      have HZ := Lib.hid (adK_skip (b := b) (r := true) hz)
      clear hz
      have HFb := Lib.hid (hop_bytes HF.out)
      have ha1 := hop_antR p n f j (by omega)
      have ha2 := hop_antR p n f k (by omega)
      have l1 : 1042 + j * 8 + 8 ≤ 1106 := by omega
      have l3 : 1042 + k * 8 + 8 ≤ 1106 := by omega
      have l2 : j * 8 + k < 64 := by omega
      have HX1 : Hid (Bytes 8 (antR f j)) := Lib.hid (adA_bytes HF.out true (i := j) (by omega))
      have HX2 : Hid (Bytes 8 (ebas k)) := Lib.hid (adB_bytes HF.out true (i := k) (by omega))
      have HL : Hid (Bytes 8 (mulF p n (mtab f) (antR f j) b)) := Lib.hid (mulF_bytes hp hp' _ _ _ _)
      have HP : Hid (Bytes 8 (adP p n f b true j k)) := Lib.hid (mulF_bytes hp hp' _ _ _ _)
      have HK := Lib.hid (adK_bytes hp hp' n f a b true j k)
      have hb := copS_bytes hp hp' (coF f) a n n 0 (j * 8 + k)
      have w1 : IntKind.i64.wrap (copS p (coF f) a n n 0 (j * 8 + k)) = copS p (coF f) a n n 0 (j * 8 + k) := IntWalk.i64_in _ (by omega)
      go_wp2
      go_roundw
      case rel => exact ⟨k + 1, by omega, by go_num, bt, ⟨by simp [go_sem, r4_5, c4_5, n4_9, n4_10, n4_11, r6_5, c6_5, n6_9, n6_10, n6_11, r8_5, c8_5, n8_9, n8_10, n8_11, r9_5, c9_5, n9_4, n9_6, n9_8, n9_10, n9_11, r10_5, c10_5, n10_4, n10_6, n10_8, n10_9, n10_11, r11_5, c11_5, n11_4, n11_6, n11_8, n11_9, n11_10], (by rw [E4_5.out]; first | exact c4_5 | (simp [go_sem, r4_5, c4_5, n4_9, n4_10, n4_11, r6_5, c6_5, n6_9, n6_10, n6_11, r8_5, c8_5, n8_9, n8_10, n8_11, r9_5, c9_5, n9_4, n9_6, n9_8, n9_10, n9_11, r10_5, c10_5, n10_4, n10_6, n10_8, n10_9, n10_11, r11_5, c11_5, n11_4, n11_6, n11_8, n11_9, n11_10]; done))⟩, ⟨by simp [go_sem, r4_5, c4_5, n4_9, n4_10, n4_11, r6_5, c6_5, n6_9, n6_10, n6_11, r8_5, c8_5, n8_9, n8_10, n8_11, r9_5, c9_5, n9_4, n9_6, n9_8, n9_10, n9_11, r10_5, c10_5, n10_4, n10_6, n10_8, n10_9, n10_11, r11_5, c11_5, n11_4, n11_6, n11_8, n11_9, n11_10], (by rw [E6_5.out]; first | exact c6_5 | (simp [go_sem, r4_5, c4_5, n4_9, n4_10, n4_11, r6_5, c6_5, n6_9, n6_10, n6_11, r8_5, c8_5, n8_9, n8_10, n8_11, r9_5, c9_5, n9_4, n9_6, n9_8, n9_10, n9_11, r10_5, c10_5, n10_4, n10_6, n10_8, n10_9, n10_11, r11_5, c11_5, n11_4, n11_6, n11_8, n11_9, n11_10]; done))⟩, ⟨by simp [go_sem, r4_5, c4_5, n4_9, n4_10, n4_11, r6_5, c6_5, n6_9, n6_10, n6_11, r8_5, c8_5, n8_9, n8_10, n8_11, r9_5, c9_5, n9_4, n9_6, n9_8, n9_10, n9_11, r10_5, c10_5, n10_4, n10_6, n10_8, n10_9, n10_11, r11_5, c11_5, n11_4, n11_6, n11_8, n11_9, n11_10], (by rw [E8_5.out]; first | exact c8_5 | (simp [go_sem, r4_5, c4_5, n4_9, n4_10, n4_11, r6_5, c6_5, n6_9, n6_10, n6_11, r8_5, c8_5, n8_9, n8_10, n8_11, r9_5, c9_5, n9_4, n9_6, n9_8, n9_10, n9_11, r10_5, c10_5, n10_4, n10_6, n10_8, n10_9, n10_11, r11_5, c11_5, n11_4, n11_6, n11_8, n11_9, n11_10]; done))⟩, ⟨by simp [go_sem, r4_5, c4_5, n4_9, n4_10, n4_11, r6_5, c6_5, n6_9, n6_10, n6_11, r8_5, c8_5, n8_9, n8_10, n8_11, r9_5, c9_5, n9_4, n9_6, n9_8, n9_10, n9_11, r10_5, c10_5, n10_4, n10_6, n10_8, n10_9, n10_11, r11_5, c11_5, n11_4, n11_6, n11_8, n11_9, n11_10], (by rw [E9_5.out]; first | exact c9_5 | (simp [go_sem, r4_5, c4_5, n4_9, n4_10, n4_11, r6_5, c6_5, n6_9, n6_10, n6_11, r8_5, c8_5, n8_9, n8_10, n8_11, r9_5, c9_5, n9_4, n9_6, n9_8, n9_10, n9_11, r10_5, c10_5, n10_4, n10_6, n10_8, n10_9, n10_11, r11_5, c11_5, n11_4, n11_6, n11_8, n11_9, n11_10]; done))⟩, ⟨by simp [go_sem, r4_5, c4_5, n4_9, n4_10, n4_11, r6_5, c6_5, n6_9, n6_10, n6_11, r8_5, c8_5, n8_9, n8_10, n8_11, r9_5, c9_5, n9_4, n9_6, n9_8, n9_10, n9_11, r10_5, c10_5, n10_4, n10_6, n10_8, n10_9, n10_11, r11_5, c11_5, n11_4, n11_6, n11_8, n11_9, n11_10], (by first | exact (c10_5).trans (HZ.out) | (simp [go_sem, r4_5, c4_5, n4_9, n4_10, n4_11, r6_5, c6_5, n6_9, n6_10, n6_11, r8_5, c8_5, n8_9, n8_10, n8_11, r9_5, c9_5, n9_4, n9_6, n9_8, n9_10, n9_11, r10_5, c10_5, n10_4, n10_6, n10_8, n10_9, n10_11, r11_5, c11_5, n11_4, n11_6, n11_8, n11_9, n11_10]; exact HZ.out))⟩, ⟨by simp [go_sem, r4_5, c4_5, n4_9, n4_10, n4_11, r6_5, c6_5, n6_9, n6_10, n6_11, r8_5, c8_5, n8_9, n8_10, n8_11, r9_5, c9_5, n9_4, n9_6, n9_8, n9_10, n9_11, r10_5, c10_5, n10_4, n10_6, n10_8, n10_9, n10_11, r11_5, c11_5, n11_4, n11_6, n11_8, n11_9, n11_10], (by rw [E11_5.out]; first | exact c11_5 | (simp [go_sem, r4_5, c4_5, n4_9, n4_10, n4_11, r6_5, c6_5, n6_9, n6_10, n6_11, r8_5, c8_5, n8_9, n8_10, n8_11, r9_5, c9_5, n9_4, n9_6, n9_8, n9_10, n9_11, r10_5, c10_5, n10_4, n10_6, n10_8, n10_9, n10_11, r11_5, c11_5, n11_4, n11_6, n11_8, n11_9, n11_10]; done))⟩⟩
      case measure => simp [intOf]; try omega
     ·
      have hz1 : (copS p (coF f) a n n 0 (j * 8 + k) == 0) = false := by simpa using hz
      clear hz
      have HFb := Lib.hid (hop_bytes HF.out)
      have ha1 := hop_antR p n f j (by omega)
      have ha2 := hop_antR p n f k (by omega)
      have l1 : 1042 + j * 8 + 8 ≤ 1106 := by omega
      have l3 : 1042 + k * 8 + 8 ≤ 1106 := by omega
      have l2 : j * 8 + k < 64 := by omega
      have HX1 : Hid (Bytes 8 (antR f j)) := Lib.hid (adA_bytes HF.out true (i := j) (by omega))
      have HX2 : Hid (Bytes 8 (ebas k)) := Lib.hid (adB_bytes HF.out true (i := k) (by omega))
      have HL : Hid (Bytes 8 (mulF p n (mtab f) (antR f j) b)) := Lib.hid (mulF_bytes hp hp' _ _ _ _)
      have HP : Hid (Bytes 8 (adP p n f b true j k)) := Lib.hid (mulF_bytes hp hp' _ _ _ _)
      have HK := Lib.hid (adK_bytes hp hp' n f a b true j k)
      have hb := copS_bytes hp hp' (coF f) a n n 0 (j * 8 + k)
      have w1 : IntKind.i64.wrap (copS p (coF f) a n n 0 (j * 8 + k)) = copS p (coF f) a n n 0 (j * 8 + k) := IntWalk.i64_in _ (by omega)
      go_wp2
      refine wp_quiet_made2s 6 1 _ _ _ (row 8 zf) (row 8 zf) 38 38 38 14 41 (by kernel_rfl) rfl rfl rfl rfl rfl rfl rfl (by simp) rfl (by kernel_rfl) (fun a W => (xallocVec _ _ _ _ _ _ _).trans (allocVec W)) (fun a W => (xallocVec _ _ _ _ _ _ _).trans (allocVec W)) (fun A W => rfl) ?_
      simp only [List.take_succ_cons, List.take_zero, List.drop_succ_cons, List.drop_zero, List.eraseIdx_cons_succ, List.eraseIdx_cons_zero]
      iterate 1 (refine e_plain rfl ?_; apply Exists.intro; refine ⟨fun D hD hK W hW => ?_, ?_⟩; (focus (obtain ⟨x4, y4⟩ := keepB (hD W hW) z4_5 r4_5 c4_5; obtain ⟨x6, y6⟩ := keepB (hD W hW) z6_5 r6_5 c6_5; obtain ⟨x8, y8⟩ := keepB (hD W hW) z8_5 r8_5 c8_5; obtain ⟨x9, y9⟩ := keepB (hD W hW) z9_5 r9_5 c9_5; obtain ⟨x10, y10⟩ := keepB (hD W hW) z10_5 r10_5 c10_5; obtain ⟨x11, y11⟩ := keepB (hD W hW) z11_5 r11_5 c11_5; unfold Oper.quietAt; go_simp; first | done | rfl)); simp only [Act.put, List.setIfInBounds_toArray, List.set_cons_zero, List.set_cons_succ])
      (refine e_plain rfl ?_; apply Exists.intro; refine ⟨fun D hD hK W hW => ?_, ?_⟩; (focus (obtain ⟨x4, y4⟩ := keepB (hD W hW) z4_5 r4_5 c4_5; obtain ⟨x6, y6⟩ := keepB (hD W hW) z6_5 r6_5 c6_5; obtain ⟨x8, y8⟩ := keepB (hD W hW) z8_5 r8_5 c8_5; obtain ⟨x9, y9⟩ := keepB (hD W hW) z9_5 r9_5 c9_5; obtain ⟨x10, y10⟩ := keepB (hD W hW) z10_5 r10_5 c10_5; obtain ⟨x11, y11⟩ := keepB (hD W hW) z11_5 r11_5 c11_5; unfold Oper.quietAt; go_simp; (go_at_call 58; exact (l01BasisAt j (by omega) _).mono fun e w2 ⟨he, hw2⟩ => ⟨he, hK _ _ hW hw2⟩))); simp only [Act.put, List.setIfInBounds_toArray, List.set_cons_zero, List.set_cons_succ])
      iterate 4 (refine e_plain rfl ?_; apply Exists.intro; refine ⟨fun D hD hK W hW => ?_, ?_⟩; (focus (obtain ⟨x4, y4⟩ := keepB (hD W hW) z4_5 r4_5 c4_5; obtain ⟨x6, y6⟩ := keepB (hD W hW) z6_5 r6_5 c6_5; obtain ⟨x8, y8⟩ := keepB (hD W hW) z8_5 r8_5 c8_5; obtain ⟨x9, y9⟩ := keepB (hD W hW) z9_5 r9_5 c9_5; obtain ⟨x10, y10⟩ := keepB (hD W hW) z10_5 r10_5 c10_5; obtain ⟨x11, y11⟩ := keepB (hD W hW) z11_5 r11_5 c11_5; unfold Oper.quietAt; go_simp; first | done | rfl)); simp only [Act.put, List.setIfInBounds_toArray, List.set_cons_zero, List.set_cons_succ])
      refine e_nil ?_
      refine ⟨row 8 (ebas j), fun b W hr hc => ?_, ?_⟩
      · simp [go_sem, hr, hc, Act.eval]
      intro a6 b6 W6 hw6 mk1_6 mk2_6 hne6
      obtain ⟨hl1_6, m1_6, m2_6⟩ := mk1_6; obtain ⟨hl2_6, m3_6, m4_6⟩ := mk2_6
      have n4_14 : (w.heap.size) ≠ (a6) := by have := z4_5; omega
      have n14_4 : (a6) ≠ (w.heap.size) := by have := z4_5; omega
      have n4_15 : (w.heap.size) ≠ (b6) := by have := z4_5; omega
      have n15_4 : (b6) ≠ (w.heap.size) := by have := z4_5; omega
      have n6_14 : (w.heap.size + 2) ≠ (a6) := by have := z6_5; omega
      have n14_6 : (a6) ≠ (w.heap.size + 2) := by have := z6_5; omega
      have n6_15 : (w.heap.size + 2) ≠ (b6) := by have := z6_5; omega
      have n15_6 : (b6) ≠ (w.heap.size + 2) := by have := z6_5; omega
      have n8_14 : (w.heap.size + 3) ≠ (a6) := by have := z8_5; omega
      have n14_8 : (a6) ≠ (w.heap.size + 3) := by have := z8_5; omega
      have n8_15 : (w.heap.size + 3) ≠ (b6) := by have := z8_5; omega
      have n15_8 : (b6) ≠ (w.heap.size + 3) := by have := z8_5; omega
      have n9_14 : (a2) ≠ (a6) := by have := z9_5; omega
      have n14_9 : (a6) ≠ (a2) := by have := z9_5; omega
      have n9_15 : (a2) ≠ (b6) := by have := z9_5; omega
      have n15_9 : (b6) ≠ (a2) := by have := z9_5; omega
      have n10_14 : (b2) ≠ (a6) := by have := z10_5; omega
      have n14_10 : (a6) ≠ (b2) := by have := z10_5; omega
      have n10_15 : (b2) ≠ (b6) := by have := z10_5; omega
      have n15_10 : (b6) ≠ (b2) := by have := z10_5; omega
      have n11_14 : (d2) ≠ (a6) := by have := z11_5; omega
      have n14_11 : (a6) ≠ (d2) := by have := z11_5; omega
      have n11_15 : (d2) ≠ (b6) := by have := z11_5; omega
      have n15_11 : (b6) ≠ (d2) := by have := z11_5; omega
      obtain ⟨r4_6, c4_6, z4_6⟩ := keepZ hw6 z4_5 r4_5 c4_5
      obtain ⟨r6_6, c6_6, z6_6⟩ := keepZ hw6 z6_5 r6_5 c6_5
      obtain ⟨r8_6, c8_6, z8_6⟩ := keepZ hw6 z8_5 r8_5 c8_5
      obtain ⟨r9_6, c9_6, z9_6⟩ := keepZ hw6 z9_5 r9_5 c9_5
      obtain ⟨r10_6, c10_6, z10_6⟩ := keepZ hw6 z10_5 r10_5 c10_5
      obtain ⟨r11_6, c11_6, z11_6⟩ := keepZ hw6 z11_5 r11_5 c11_5
      obtain ⟨hb6, q6⟩ := bN hb5 hw6
      clear hw6 r4_5 c4_5 z4_5 r6_5 c6_5 z6_5 r8_5 c8_5 z8_5 r9_5 c9_5 z9_5 r10_5 c10_5 z10_5 r11_5 c11_5 z11_5 hb5
      have n14_15 : (a6) ≠ (b6) := hne6
      have n15_14 : (b6) ≠ (a6) := Ne.symm hne6
      have z14_6 := isRow_lt m1_6
      have z15_6 := isRow_lt m3_6
      simp only [Act.put, List.setIfInBounds_toArray, List.set_cons_zero, List.set_cons_succ]
      go_wp2_with fail
      refine atomC fun W7 e7 => ?_
      have hb7 : Below w.heap.size w W7 := by rw [e7]; exact bt
      have q7 := hb7.size
      have R7 : IsRow W7 (w.heap.size) ∧ IsRow W7 (w.heap.size + 2) ∧ IsRow W7 (w.heap.size + 3) ∧ IsRow W7 (a2) ∧ IsRow W7 (b2) ∧ IsRow W7 (d2) ∧ IsRow W7 (a6) ∧ IsRow W7 (b6) := by rw [e7]; simp [go_sem, r4_6, c4_6, n4_9, n4_10, n4_11, n4_14, n4_15, r6_6, c6_6, n6_9, n6_10, n6_11, n6_14, n6_15, r8_6, c8_6, n8_9, n8_10, n8_11, n8_14, n8_15, r9_6, c9_6, n9_4, n9_6, n9_8, n9_10, n9_11, n9_14, n9_15, r10_6, c10_6, n10_4, n10_6, n10_8, n10_9, n10_11, n10_14, n10_15, r11_6, c11_6, n11_4, n11_6, n11_8, n11_9, n11_10, n11_14, n11_15, m1_6, m2_6, n14_4, n14_6, n14_8, n14_9, n14_10, n14_11, n14_15, m3_6, m4_6, n15_4, n15_6, n15_8, n15_9, n15_10, n15_11, n15_14]
      obtain ⟨r4_7, r6_7, r8_7, r9_7, r10_7, r11_7, r14_7, r15_7⟩ := R7
      have C7 := (⟨congrArg (blk · (w.heap.size)) e7, congrArg (blk · (w.heap.size + 2)) e7, congrArg (blk · (w.heap.size + 3)) e7, congrArg (blk · (a2)) e7, congrArg (blk · (b2)) e7, congrArg (blk · (d2)) e7, congrArg (blk · (a6)) e7, congrArg (blk · (b6)) e7⟩ : _ ∧ _ ∧ _ ∧ _ ∧ _ ∧ _ ∧ _ ∧ _); simp [go_sem, r4_6, c4_6, n4_9, n4_10, n4_11, n4_14, n4_15, r6_6, c6_6, n6_9, n6_10, n6_11, n6_14, n6_15, r8_6, c8_6, n8_9, n8_10, n8_11, n8_14, n8_15, r9_6, c9_6, n9_4, n9_6, n9_8, n9_10, n9_11, n9_14, n9_15, r10_6, c10_6, n10_4, n10_6, n10_8, n10_9, n10_11, n10_14, n10_15, r11_6, c11_6, n11_4, n11_6, n11_8, n11_9, n11_10, n11_14, n11_15, m1_6, m2_6, n14_4, n14_6, n14_8, n14_9, n14_10, n14_11, n14_15, m3_6, m4_6, n15_4, n15_6, n15_8, n15_9, n15_10, n15_11, n15_14] at C7
      obtain ⟨c4_7, c6_7, c8_7, c9_7, c10_7, c11_7, c14_7, c15_7⟩ := C7
      have z4_7 := isRow_lt r4_7; have z6_7 := isRow_lt r6_7; have z8_7 := isRow_lt r8_7; have z9_7 := isRow_lt r9_7; have z10_7 := isRow_lt r10_7; have z11_7 := isRow_lt r11_7; have z14_7 := isRow_lt r14_7; have z15_7 := isRow_lt r15_7
      clear e7 r4_6 c4_6 z4_6 r6_6 c6_6 z6_6 r8_6 c8_6 z8_6 r9_6 c9_6 z9_6 r10_6 c10_6 z10_6 r11_6 c11_6 z11_6 m1_6 m2_6 z14_6 m3_6 m4_6 z15_6 hb6
      refine (l01BasisAt k (by omega) _).mono ?_; rintro _ W8 ⟨rfl, hw8⟩
      obtain ⟨r4_8, c4_8, z4_8⟩ := keepZ hw8 z4_7 r4_7 c4_7
      obtain ⟨r6_8, c6_8, z6_8⟩ := keepZ hw8 z6_7 r6_7 c6_7
      obtain ⟨r8_8, c8_8, z8_8⟩ := keepZ hw8 z8_7 r8_7 c8_7
      obtain ⟨r9_8, c9_8, z9_8⟩ := keepZ hw8 z9_7 r9_7 c9_7
      obtain ⟨r10_8, c10_8, z10_8⟩ := keepZ hw8 z10_7 r10_7 c10_7
      obtain ⟨r11_8, c11_8, z11_8⟩ := keepZ hw8 z11_7 r11_7 c11_7
      obtain ⟨r14_8, c14_8, z14_8⟩ := keepZ hw8 z14_7 r14_7 c14_7
      obtain ⟨r15_8, c15_8, z15_8⟩ := keepZ hw8 z15_7 r15_7 c15_7
      obtain ⟨hb8, q8⟩ := bN hb7 hw8
      clear hw8 r4_7 c4_7 z4_7 r6_7 c6_7 z6_7 r8_7 c8_7 z8_7 r9_7 c9_7 z9_7 r10_7 c10_7 z10_7 r11_7 c11_7 z11_7 r14_7 c14_7 z14_7 r15_7 c15_7 z15_7 hb7
      go_wp2
      refine atomW fun W9 e9 => ?_
      have hb9 : Below w.heap.size w W9 := by rw [e9]; exact bt
      have q9 := hb9.size
      have R9 : IsRow W9 (w.heap.size) ∧ IsRow W9 (w.heap.size + 2) ∧ IsRow W9 (w.heap.size + 3) ∧ IsRow W9 (a2) ∧ IsRow W9 (b2) ∧ IsRow W9 (d2) ∧ IsRow W9 (a6) ∧ IsRow W9 (b6) := by rw [e9]; simp [go_sem, r4_8, c4_8, n4_9, n4_10, n4_11, n4_14, n4_15, r6_8, c6_8, n6_9, n6_10, n6_11, n6_14, n6_15, r8_8, c8_8, n8_9, n8_10, n8_11, n8_14, n8_15, r9_8, c9_8, n9_4, n9_6, n9_8, n9_10, n9_11, n9_14, n9_15, r10_8, c10_8, n10_4, n10_6, n10_8, n10_9, n10_11, n10_14, n10_15, r11_8, c11_8, n11_4, n11_6, n11_8, n11_9, n11_10, n11_14, n11_15, r14_8, c14_8, n14_4, n14_6, n14_8, n14_9, n14_10, n14_11, n14_15, r15_8, c15_8, n15_4, n15_6, n15_8, n15_9, n15_10, n15_11, n15_14]
      obtain ⟨r4_9, r6_9, r8_9, r9_9, r10_9, r11_9, r14_9, r15_9⟩ := R9
      have C9 := (⟨congrArg (blk · (w.heap.size)) e9, congrArg (blk · (w.heap.size + 2)) e9, congrArg (blk · (w.heap.size + 3)) e9, congrArg (blk · (a2)) e9, congrArg (blk · (b2)) e9, congrArg (blk · (d2)) e9, congrArg (blk · (a6)) e9, congrArg (blk · (b6)) e9⟩ : _ ∧ _ ∧ _ ∧ _ ∧ _ ∧ _ ∧ _ ∧ _); simp [go_sem, r4_8, c4_8, n4_9, n4_10, n4_11, n4_14, n4_15, r6_8, c6_8, n6_9, n6_10, n6_11, n6_14, n6_15, r8_8, c8_8, n8_9, n8_10, n8_11, n8_14, n8_15, r9_8, c9_8, n9_4, n9_6, n9_8, n9_10, n9_11, n9_14, n9_15, r10_8, c10_8, n10_4, n10_6, n10_8, n10_9, n10_11, n10_14, n10_15, r11_8, c11_8, n11_4, n11_6, n11_8, n11_9, n11_10, n11_14, n11_15, r14_8, c14_8, n14_4, n14_6, n14_8, n14_9, n14_10, n14_11, n14_15, r15_8, c15_8, n15_4, n15_6, n15_8, n15_9, n15_10, n15_11, n15_14] at C9
      obtain ⟨c4_9, c6_9, c8_9, c9_9, c10_9, c11_9, c14_9, c15_9⟩ := C9
      have z4_9 := isRow_lt r4_9; have z6_9 := isRow_lt r6_9; have z8_9 := isRow_lt r8_9; have z9_9 := isRow_lt r9_9; have z10_9 := isRow_lt r10_9; have z11_9 := isRow_lt r11_9; have z14_9 := isRow_lt r14_9; have z15_9 := isRow_lt r15_9
      clear e9 r4_8 c4_8 z4_8 r6_8 c6_8 z6_8 r8_8 c8_8 z8_8 r9_8 c9_8 z9_8 r10_8 c10_8 z10_8 r11_8 c11_8 z11_8 r14_8 c14_8 z14_8 r15_8 c15_8 z15_8 hb8
      refine wp_quiet_tail 17 (Below W9.heap.size W9) (by kernel_rfl) (by kernel_rfl) (Below.refl _ _).drew ?_
      simp only [List.take_succ_cons, List.take_zero, List.drop_succ_cons, List.drop_zero]
      iterate 7 (refine q_plain rfl ?_; apply Exists.intro; refine ⟨fun W hW => ?_, ?_⟩; (focus (obtain ⟨x4, y4⟩ := keepB hW z4_9 r4_9 c4_9; obtain ⟨x6, y6⟩ := keepB hW z6_9 r6_9 c6_9; obtain ⟨x8, y8⟩ := keepB hW z8_9 r8_9 c8_9; obtain ⟨x9, y9⟩ := keepB hW z9_9 r9_9 c9_9; obtain ⟨x10, y10⟩ := keepB hW z10_9 r10_9 c10_9; obtain ⟨x11, y11⟩ := keepB hW z11_9 r11_9 c11_9; obtain ⟨x14, y14⟩ := keepB hW z14_9 r14_9 c14_9; obtain ⟨x15, y15⟩ := keepB hW z15_9 r15_9 c15_9; go_simp; first | done | rfl)); simp only [Act.put, List.setIfInBounds_toArray, List.set_cons_zero, List.set_cons_succ])
      (refine q_plain rfl ?_; apply Exists.intro; refine ⟨fun W hW => ?_, ?_⟩; (focus (obtain ⟨x4, y4⟩ := keepB hW z4_9 r4_9 c4_9; obtain ⟨x6, y6⟩ := keepB hW z6_9 r6_9 c6_9; obtain ⟨x8, y8⟩ := keepB hW z8_9 r8_9 c8_9; obtain ⟨x9, y9⟩ := keepB hW z9_9 r9_9 c9_9; obtain ⟨x10, y10⟩ := keepB hW z10_9 r10_9 c10_9; obtain ⟨x11, y11⟩ := keepB hW z11_9 r11_9 c11_9; obtain ⟨x14, y14⟩ := keepB hW z14_9 r14_9 c14_9; obtain ⟨x15, y15⟩ := keepB hW z15_9 r15_9 c15_9; go_simp; (go_at_call 60; exact (l01Times_any p n f (antR f j) b _ hp hp' hn HFb.out HX1.out Hb.out).mono fun e w2 ⟨he, hw2⟩ => ⟨he, hW.trans (hw2.mono hW.size)⟩))); simp only [Act.put, List.setIfInBounds_toArray, List.set_cons_zero, List.set_cons_succ])
      iterate 1 (refine q_plain rfl ?_; apply Exists.intro; refine ⟨fun W hW => ?_, ?_⟩; (focus (obtain ⟨x4, y4⟩ := keepB hW z4_9 r4_9 c4_9; obtain ⟨x6, y6⟩ := keepB hW z6_9 r6_9 c6_9; obtain ⟨x8, y8⟩ := keepB hW z8_9 r8_9 c8_9; obtain ⟨x9, y9⟩ := keepB hW z9_9 r9_9 c9_9; obtain ⟨x10, y10⟩ := keepB hW z10_9 r10_9 c10_9; obtain ⟨x11, y11⟩ := keepB hW z11_9 r11_9 c11_9; obtain ⟨x14, y14⟩ := keepB hW z14_9 r14_9 c14_9; obtain ⟨x15, y15⟩ := keepB hW z15_9 r15_9 c15_9; go_simp; first | done | rfl)); simp only [Act.put, List.setIfInBounds_toArray, List.set_cons_zero, List.set_cons_succ])
      (refine q_plain rfl ?_; apply Exists.intro; refine ⟨fun W hW => ?_, ?_⟩; (focus (obtain ⟨x4, y4⟩ := keepB hW z4_9 r4_9 c4_9; obtain ⟨x6, y6⟩ := keepB hW z6_9 r6_9 c6_9; obtain ⟨x8, y8⟩ := keepB hW z8_9 r8_9 c8_9; obtain ⟨x9, y9⟩ := keepB hW z9_9 r9_9 c9_9; obtain ⟨x10, y10⟩ := keepB hW z10_9 r10_9 c10_9; obtain ⟨x11, y11⟩ := keepB hW z11_9 r11_9 c11_9; obtain ⟨x14, y14⟩ := keepB hW z14_9 r14_9 c14_9; obtain ⟨x15, y15⟩ := keepB hW z15_9 r15_9 c15_9; go_simp; (go_at_call 60; exact (l01Times_any p n f (mulF p n (mtab f) (antR f j) b) (ebas k) _ hp hp' hn HFb.out HL.out HX2.out).mono fun e w2 ⟨he, hw2⟩ => ⟨he, hW.trans (hw2.mono hW.size)⟩))); simp only [Act.put, List.setIfInBounds_toArray, List.set_cons_zero, List.set_cons_succ])
      iterate 6 (refine q_plain rfl ?_; apply Exists.intro; refine ⟨fun W hW => ?_, ?_⟩; (focus (obtain ⟨x4, y4⟩ := keepB hW z4_9 r4_9 c4_9; obtain ⟨x6, y6⟩ := keepB hW z6_9 r6_9 c6_9; obtain ⟨x8, y8⟩ := keepB hW z8_9 r8_9 c8_9; obtain ⟨x9, y9⟩ := keepB hW z9_9 r9_9 c9_9; obtain ⟨x10, y10⟩ := keepB hW z10_9 r10_9 c10_9; obtain ⟨x11, y11⟩ := keepB hW z11_9 r11_9 c11_9; obtain ⟨x14, y14⟩ := keepB hW z14_9 r14_9 c14_9; obtain ⟨x15, y15⟩ := keepB hW z15_9 r15_9 c15_9; go_simp; first | done | rfl)); simp only [Act.put, List.setIfInBounds_toArray, List.set_cons_zero, List.set_cons_succ])
      (refine q_plain rfl ?_; apply Exists.intro; refine ⟨fun W hW => ?_, ?_⟩; (focus (obtain ⟨x4, y4⟩ := keepB hW z4_9 r4_9 c4_9; obtain ⟨x6, y6⟩ := keepB hW z6_9 r6_9 c6_9; obtain ⟨x8, y8⟩ := keepB hW z8_9 r8_9 c8_9; obtain ⟨x9, y9⟩ := keepB hW z9_9 r9_9 c9_9; obtain ⟨x10, y10⟩ := keepB hW z10_9 r10_9 c10_9; obtain ⟨x11, y11⟩ := keepB hW z11_9 r11_9 c11_9; obtain ⟨x14, y14⟩ := keepB hW z14_9 r14_9 c14_9; obtain ⟨x15, y15⟩ := keepB hW z15_9 r15_9 c15_9; go_simp; (go_at_call 59; exact (l01Add_any p (copS p (coF f) a n n 0 (j * 8 + k)) (adK p n f a b true j k) (adP p n f b true j k) _ hp hp' (by omega) (by omega) HK.out HP.out).mono fun e w2 ⟨he, hw2⟩ => ⟨he, hW.trans (hw2.mono hW.size)⟩))); simp only [Act.put, List.setIfInBounds_toArray, List.set_cons_zero, List.set_cons_succ])
      refine wpQuiet_nil ?_
      intro W10 hw10
      obtain ⟨r4_10, c4_10, z4_10⟩ := keepZ hw10 z4_9 r4_9 c4_9
      obtain ⟨r6_10, c6_10, z6_10⟩ := keepZ hw10 z6_9 r6_9 c6_9
      obtain ⟨r8_10, c8_10, z8_10⟩ := keepZ hw10 z8_9 r8_9 c8_9
      obtain ⟨r9_10, c9_10, z9_10⟩ := keepZ hw10 z9_9 r9_9 c9_9
      obtain ⟨r10_10, c10_10, z10_10⟩ := keepZ hw10 z10_9 r10_9 c10_9
      obtain ⟨r11_10, c11_10, z11_10⟩ := keepZ hw10 z11_9 r11_9 c11_9
      obtain ⟨r14_10, c14_10, z14_10⟩ := keepZ hw10 z14_9 r14_9 c14_9
      obtain ⟨r15_10, c15_10, z15_10⟩ := keepZ hw10 z15_9 r15_9 c15_9
      obtain ⟨hb10, q10⟩ := bN hb9 hw10
      clear hw10 r4_9 c4_9 z4_9 r6_9 c6_9 z6_9 r8_9 c8_9 z8_9 r9_9 c9_9 z9_9 r10_9 c10_9 z10_9 r11_9 c11_9 z11_9 r14_9 c14_9 z14_9 r15_9 c15_9 z15_9 hb9
      go_wp2
      go_roundw
      case rel => exact ⟨k + 1, by omega, by go_num, bt, ⟨by simp [go_sem, r4_10, c4_10, n4_9, n4_10, n4_11, n4_14, n4_15, r6_10, c6_10, n6_9, n6_10, n6_11, n6_14, n6_15, r8_10, c8_10, n8_9, n8_10, n8_11, n8_14, n8_15, r9_10, c9_10, n9_4, n9_6, n9_8, n9_10, n9_11, n9_14, n9_15, r10_10, c10_10, n10_4, n10_6, n10_8, n10_9, n10_11, n10_14, n10_15, r11_10, c11_10, n11_4, n11_6, n11_8, n11_9, n11_10, n11_14, n11_15, r14_10, c14_10, n14_4, n14_6, n14_8, n14_9, n14_10, n14_11, n14_15, r15_10, c15_10, n15_4, n15_6, n15_8, n15_9, n15_10, n15_11, n15_14], (by rw [E4_5.out]; first | exact c4_10 | (simp [go_sem, r4_10, c4_10, n4_9, n4_10, n4_11, n4_14, n4_15, r6_10, c6_10, n6_9, n6_10, n6_11, n6_14, n6_15, r8_10, c8_10, n8_9, n8_10, n8_11, n8_14, n8_15, r9_10, c9_10, n9_4, n9_6, n9_8, n9_10, n9_11, n9_14, n9_15, r10_10, c10_10, n10_4, n10_6, n10_8, n10_9, n10_11, n10_14, n10_15, r11_10, c11_10, n11_4, n11_6, n11_8, n11_9, n11_10, n11_14, n11_15, r14_10, c14_10, n14_4, n14_6, n14_8, n14_9, n14_10, n14_11, n14_15, r15_10, c15_10, n15_4, n15_6, n15_8, n15_9, n15_10, n15_11, n15_14]; done))⟩, ⟨by simp [go_sem, r4_10, c4_10, n4_9, n4_10, n4_11, n4_14, n4_15, r6_10, c6_10, n6_9, n6_10, n6_11, n6_14, n6_15, r8_10, c8_10, n8_9, n8_10, n8_11, n8_14, n8_15, r9_10, c9_10, n9_4, n9_6, n9_8, n9_10, n9_11, n9_14, n9_15, r10_10, c10_10, n10_4, n10_6, n10_8, n10_9, n10_11, n10_14, n10_15, r11_10, c11_10, n11_4, n11_6, n11_8, n11_9, n11_10, n11_14, n11_15, r14_10, c14_10, n14_4, n14_6, n14_8, n14_9, n14_10, n14_11, n14_15, r15_10, c15_10, n15_4, n15_6, n15_8, n15_9, n15_10, n15_11, n15_14], (by rw [E6_5.out]; first | exact c6_10 | (simp [go_sem, r4_10, c4_10, n4_9, n4_10, n4_11, n4_14, n4_15, r6_10, c6_10, n6_9, n6_10, n6_11, n6_14, n6_15, r8_10, c8_10, n8_9, n8_10, n8_11, n8_14, n8_15, r9_10, c9_10, n9_4, n9_6, n9_8, n9_10, n9_11, n9_14, n9_15, r10_10, c10_10, n10_4, n10_6, n10_8, n10_9, n10_11, n10_14, n10_15, r11_10, c11_10, n11_4, n11_6, n11_8, n11_9, n11_10, n11_14, n11_15, r14_10, c14_10, n14_4, n14_6, n14_8, n14_9, n14_10, n14_11, n14_15, r15_10, c15_10, n15_4, n15_6, n15_8, n15_9, n15_10, n15_11, n15_14]; done))⟩, ⟨by simp [go_sem, r4_10, c4_10, n4_9, n4_10, n4_11, n4_14, n4_15, r6_10, c6_10, n6_9, n6_10, n6_11, n6_14, n6_15, r8_10, c8_10, n8_9, n8_10, n8_11, n8_14, n8_15, r9_10, c9_10, n9_4, n9_6, n9_8, n9_10, n9_11, n9_14, n9_15, r10_10, c10_10, n10_4, n10_6, n10_8, n10_9, n10_11, n10_14, n10_15, r11_10, c11_10, n11_4, n11_6, n11_8, n11_9, n11_10, n11_14, n11_15, r14_10, c14_10, n14_4, n14_6, n14_8, n14_9, n14_10, n14_11, n14_15, r15_10, c15_10, n15_4, n15_6, n15_8, n15_9, n15_10, n15_11, n15_14], (by rw [E8_5.out]; first | exact c8_10 | (simp [go_sem, r4_10, c4_10, n4_9, n4_10, n4_11, n4_14, n4_15, r6_10, c6_10, n6_9, n6_10, n6_11, n6_14, n6_15, r8_10, c8_10, n8_9, n8_10, n8_11, n8_14, n8_15, r9_10, c9_10, n9_4, n9_6, n9_8, n9_10, n9_11, n9_14, n9_15, r10_10, c10_10, n10_4, n10_6, n10_8, n10_9, n10_11, n10_14, n10_15, r11_10, c11_10, n11_4, n11_6, n11_8, n11_9, n11_10, n11_14, n11_15, r14_10, c14_10, n14_4, n14_6, n14_8, n14_9, n14_10, n14_11, n14_15, r15_10, c15_10, n15_4, n15_6, n15_8, n15_9, n15_10, n15_11, n15_14]; done))⟩, ⟨by simp [go_sem, r4_10, c4_10, n4_9, n4_10, n4_11, n4_14, n4_15, r6_10, c6_10, n6_9, n6_10, n6_11, n6_14, n6_15, r8_10, c8_10, n8_9, n8_10, n8_11, n8_14, n8_15, r9_10, c9_10, n9_4, n9_6, n9_8, n9_10, n9_11, n9_14, n9_15, r10_10, c10_10, n10_4, n10_6, n10_8, n10_9, n10_11, n10_14, n10_15, r11_10, c11_10, n11_4, n11_6, n11_8, n11_9, n11_10, n11_14, n11_15, r14_10, c14_10, n14_4, n14_6, n14_8, n14_9, n14_10, n14_11, n14_15, r15_10, c15_10, n15_4, n15_6, n15_8, n15_9, n15_10, n15_11, n15_14], (by rw [E9_5.out]; first | exact c9_10 | (simp [go_sem, r4_10, c4_10, n4_9, n4_10, n4_11, n4_14, n4_15, r6_10, c6_10, n6_9, n6_10, n6_11, n6_14, n6_15, r8_10, c8_10, n8_9, n8_10, n8_11, n8_14, n8_15, r9_10, c9_10, n9_4, n9_6, n9_8, n9_10, n9_11, n9_14, n9_15, r10_10, c10_10, n10_4, n10_6, n10_8, n10_9, n10_11, n10_14, n10_15, r11_10, c11_10, n11_4, n11_6, n11_8, n11_9, n11_10, n11_14, n11_15, r14_10, c14_10, n14_4, n14_6, n14_8, n14_9, n14_10, n14_11, n14_15, r15_10, c15_10, n15_4, n15_6, n15_8, n15_9, n15_10, n15_11, n15_14]; done))⟩, ⟨by simp [go_sem, r4_10, c4_10, n4_9, n4_10, n4_11, n4_14, n4_15, r6_10, c6_10, n6_9, n6_10, n6_11, n6_14, n6_15, r8_10, c8_10, n8_9, n8_10, n8_11, n8_14, n8_15, r9_10, c9_10, n9_4, n9_6, n9_8, n9_10, n9_11, n9_14, n9_15, r10_10, c10_10, n10_4, n10_6, n10_8, n10_9, n10_11, n10_14, n10_15, r11_10, c11_10, n11_4, n11_6, n11_8, n11_9, n11_10, n11_14, n11_15, r14_10, c14_10, n14_4, n14_6, n14_8, n14_9, n14_10, n14_11, n14_15, r15_10, c15_10, n15_4, n15_6, n15_8, n15_9, n15_10, n15_11, n15_14], (by first | (rw [blk_setRow _ _ _ _ r10_10, if_pos rfl]; exact adK_step p n f a b true j k) | exact (c10_10).trans (adK_step p n f a b true j k) | (simp [go_sem, r4_10, c4_10, n4_9, n4_10, n4_11, n4_14, n4_15, r6_10, c6_10, n6_9, n6_10, n6_11, n6_14, n6_15, r8_10, c8_10, n8_9, n8_10, n8_11, n8_14, n8_15, r9_10, c9_10, n9_4, n9_6, n9_8, n9_10, n9_11, n9_14, n9_15, r10_10, c10_10, n10_4, n10_6, n10_8, n10_9, n10_11, n10_14, n10_15, r11_10, c11_10, n11_4, n11_6, n11_8, n11_9, n11_10, n11_14, n11_15, r14_10, c14_10, n14_4, n14_6, n14_8, n14_9, n14_10, n14_11, n14_15, r15_10, c15_10, n15_4, n15_6, n15_8, n15_9, n15_10, n15_11, n15_14]; exact adK_step p n f a b true j k))⟩, ⟨by simp [go_sem, r4_10, c4_10, n4_9, n4_10, n4_11, n4_14, n4_15, r6_10, c6_10, n6_9, n6_10, n6_11, n6_14, n6_15, r8_10, c8_10, n8_9, n8_10, n8_11, n8_14, n8_15, r9_10, c9_10, n9_4, n9_6, n9_8, n9_10, n9_11, n9_14, n9_15, r10_10, c10_10, n10_4, n10_6, n10_8, n10_9, n10_11, n10_14, n10_15, r11_10, c11_10, n11_4, n11_6, n11_8, n11_9, n11_10, n11_14, n11_15, r14_10, c14_10, n14_4, n14_6, n14_8, n14_9, n14_10, n14_11, n14_15, r15_10, c15_10, n15_4, n15_6, n15_8, n15_9, n15_10, n15_11, n15_14], (by rw [E11_5.out]; first | exact c11_10 | (simp [go_sem, r4_10, c4_10, n4_9, n4_10, n4_11, n4_14, n4_15, r6_10, c6_10, n6_9, n6_10, n6_11, n6_14, n6_15, r8_10, c8_10, n8_9, n8_10, n8_11, n8_14, n8_15, r9_10, c9_10, n9_4, n9_6, n9_8, n9_10, n9_11, n9_14, n9_15, r10_10, c10_10, n10_4, n10_6, n10_8, n10_9, n10_11, n10_14, n10_15, r11_10, c11_10, n11_4, n11_6, n11_8, n11_9, n11_10, n11_14, n11_15, r14_10, c14_10, n14_4, n14_6, n14_8, n14_9, n14_10, n14_11, n14_15, r15_10, c15_10, n15_4, n15_6, n15_8, n15_9, n15_10, n15_11, n15_14]; done))⟩⟩
      case measure => simp [intOf]; try omega
    ·
     obtain rfl : n = k := by omega
     go_wp2
     go_roundw
     case rel => exact ⟨j + 1, by omega, by go_num, bt, ⟨by simp [go_sem, r4_5, c4_5, n4_9, n4_10, n4_11, r6_5, c6_5, n6_9, n6_10, n6_11, r8_5, c8_5, n8_9, n8_10, n8_11, r9_5, c9_5, n9_4, n9_6, n9_8, n9_10, n9_11, r10_5, c10_5, n10_4, n10_6, n10_8, n10_9, n10_11, r11_5, c11_5, n11_4, n11_6, n11_8, n11_9, n11_10], (by rw [E4_4.out]; first | exact c4_5 | (simp [go_sem, r4_5, c4_5, n4_9, n4_10, n4_11, r6_5, c6_5, n6_9, n6_10, n6_11, r8_5, c8_5, n8_9, n8_10, n8_11, r9_5, c9_5, n9_4, n9_6, n9_8, n9_10, n9_11, r10_5, c10_5, n10_4, n10_6, n10_8, n10_9, n10_11, r11_5, c11_5, n11_4, n11_6, n11_8, n11_9, n11_10]; done))⟩, ⟨by simp [go_sem, r4_5, c4_5, n4_9, n4_10, n4_11, r6_5, c6_5, n6_9, n6_10, n6_11, r8_5, c8_5, n8_9, n8_10, n8_11, r9_5, c9_5, n9_4, n9_6, n9_8, n9_10, n9_11, r10_5, c10_5, n10_4, n10_6, n10_8, n10_9, n10_11, r11_5, c11_5, n11_4, n11_6, n11_8, n11_9, n11_10], (by rw [E6_4.out]; first | exact c6_5 | (simp [go_sem, r4_5, c4_5, n4_9, n4_10, n4_11, r6_5, c6_5, n6_9, n6_10, n6_11, r8_5, c8_5, n8_9, n8_10, n8_11, r9_5, c9_5, n9_4, n9_6, n9_8, n9_10, n9_11, r10_5, c10_5, n10_4, n10_6, n10_8, n10_9, n10_11, r11_5, c11_5, n11_4, n11_6, n11_8, n11_9, n11_10]; done))⟩, ⟨by simp [go_sem, r4_5, c4_5, n4_9, n4_10, n4_11, r6_5, c6_5, n6_9, n6_10, n6_11, r8_5, c8_5, n8_9, n8_10, n8_11, r9_5, c9_5, n9_4, n9_6, n9_8, n9_10, n9_11, r10_5, c10_5, n10_4, n10_6, n10_8, n10_9, n10_11, r11_5, c11_5, n11_4, n11_6, n11_8, n11_9, n11_10], (by rw [E8_4.out]; first | exact c8_5 | (simp [go_sem, r4_5, c4_5, n4_9, n4_10, n4_11, r6_5, c6_5, n6_9, n6_10, n6_11, r8_5, c8_5, n8_9, n8_10, n8_11, r9_5, c9_5, n9_4, n9_6, n9_8, n9_10, n9_11, r10_5, c10_5, n10_4, n10_6, n10_8, n10_9, n10_11, r11_5, c11_5, n11_4, n11_6, n11_8, n11_9, n11_10]; done))⟩, ⟨by simp [go_sem, r4_5, c4_5, n4_9, n4_10, n4_11, r6_5, c6_5, n6_9, n6_10, n6_11, r8_5, c8_5, n8_9, n8_10, n8_11, r9_5, c9_5, n9_4, n9_6, n9_8, n9_10, n9_11, r10_5, c10_5, n10_4, n10_6, n10_8, n10_9, n10_11, r11_5, c11_5, n11_4, n11_6, n11_8, n11_9, n11_10], (by rw [E9_4.out]; first | exact c9_5 | (simp [go_sem, r4_5, c4_5, n4_9, n4_10, n4_11, r6_5, c6_5, n6_9, n6_10, n6_11, r8_5, c8_5, n8_9, n8_10, n8_11, r9_5, c9_5, n9_4, n9_6, n9_8, n9_10, n9_11, r10_5, c10_5, n10_4, n10_6, n10_8, n10_9, n10_11, r11_5, c11_5, n11_4, n11_6, n11_8, n11_9, n11_10]; done))⟩, ⟨by simp [go_sem, r4_5, c4_5, n4_9, n4_10, n4_11, r6_5, c6_5, n6_9, n6_10, n6_11, r8_5, c8_5, n8_9, n8_10, n8_11, r9_5, c9_5, n9_4, n9_6, n9_8, n9_10, n9_11, r10_5, c10_5, n10_4, n10_6, n10_8, n10_9, n10_11, r11_5, c11_5, n11_4, n11_6, n11_8, n11_9, n11_10], (by first | exact (c10_5).trans (adK_row p n f a b true j) | (simp [go_sem, r4_5, c4_5, n4_9, n4_10, n4_11, r6_5, c6_5, n6_9, n6_10, n6_11, r8_5, c8_5, n8_9, n8_10, n8_11, r9_5, c9_5, n9_4, n9_6, n9_8, n9_10, n9_11, r10_5, c10_5, n10_4, n10_6, n10_8, n10_9, n10_11, r11_5, c11_5, n11_4, n11_6, n11_8, n11_9, n11_10]; exact adK_row p n f a b true j))⟩, ⟨by simp [go_sem, r4_5, c4_5, n4_9, n4_10, n4_11, r6_5, c6_5, n6_9, n6_10, n6_11, r8_5, c8_5, n8_9, n8_10, n8_11, r9_5, c9_5, n9_4, n9_6, n9_8, n9_10, n9_11, r10_5, c10_5, n10_4, n10_6, n10_8, n10_9, n10_11, r11_5, c11_5, n11_4, n11_6, n11_8, n11_9, n11_10], (by rw [E11_4.out]; first | exact c11_5 | (simp [go_sem, r4_5, c4_5, n4_9, n4_10, n4_11, r6_5, c6_5, n6_9, n6_10, n6_11, r8_5, c8_5, n8_9, n8_10, n8_11, r9_5, c9_5, n9_4, n9_6, n9_8, n9_10, n9_11, r10_5, c10_5, n10_4, n10_6, n10_8, n10_9, n10_11, r11_5, c11_5, n11_4, n11_6, n11_8, n11_9, n11_10]; done))⟩⟩
     case measure => simp [intOf]; try omega
  ·
   obtain rfl : n = j := by omega
   go_wp2_with fail
   refine bodyPost_ret (result_cell rfl aggVec _ _ (row 8 (adK p n f a b true n 0)) _ rfl ?_ ?_) rfl ⟨rfl, ?_⟩
   · simp [go_sem, r4_4, c4_4, n4_9, n4_10, n4_11, r6_4, c6_4, n6_9, n6_10, n6_11, r8_4, c8_4, n8_9, n8_10, n8_11, r9_4, c9_4, n9_4, n9_6, n9_8, n9_10, n9_11, r10_4, c10_4, n10_4, n10_6, n10_8, n10_9, n10_11, r11_4, c11_4, n11_4, n11_6, n11_8, n11_9, n11_10]
   · simp [go_sem, r4_4, c4_4, n4_9, n4_10, n4_11, r6_4, c6_4, n6_9, n6_10, n6_11, r8_4, c8_4, n8_9, n8_10, n8_11, r9_4, c9_4, n9_4, n9_6, n9_8, n9_10, n9_11, r10_4, c10_4, n10_4, n10_6, n10_8, n10_9, n10_11, r11_4, c11_4, n11_4, n11_6, n11_8, n11_9, n11_10]
   · exact bt

end Go.Proofs.Ytjmmmggnbndolaa
