/- Orders of antipodes. -/
import Derived.Test.YtfmhgfnadgaiaaaGreatR8
import Derived.WalkMore
namespace Go.Proofs.YtfmhgfnadgaiaaaGreat
open Go.RowKit
set_option linter.unusedSimpArgs false
set_option linter.unusedVariables false
attribute [local irreducible] wpQuiet wpQE

/-- the linear map that applies G, and then F -/
def compF (p : Int) (F G : Nat → Int) : Nat → Int := fun t => appF p 8 (fun x y => F (x * 8 + y)) (fun y => G (t / 8 * 8 + y)) (t % 8)
def compK (p : Int) (F G : Nat → Int) (i : Nat) : Nat → Int := fun t => if t / 8 < i then compF p F G t else 0
theorem comp_zero (p : Int) (F G : Nat → Int) : row 64 zf = row 64 (compK p F G 0) := row_congr fun t _ => by unfold compK zf; rw [if_neg (by omega)]
theorem comp_step (p : Int) (F G : Nat → Int) (i : Nat) (hi : i < 8) : lay (row 64 (compK p F G i)) (i * 8) (row 8 (appF p 8 (fun x y => F (x * 8 + y)) fun t => G (i * 8 + t))) = row 64 (compK p F G (i + 1)) := by
  rw [lay_row _ _ _ _ _ (by omega)]
  refine row_congr fun t _ => ?_
  by_cases h : i * 8 ≤ t ∧ t < i * 8 + 8
  · rw [if_pos h]
    unfold compK compF
    rw [if_pos (by omega), show t / 8 = i by omega, show t - i * 8 = t % 8 by omega]
  · rw [if_neg h]
    unfold compK
    by_cases h2 : t / 8 < i
    · rw [if_pos h2, if_pos (by omega)]
    · rw [if_neg h2, if_neg (by omega)]
theorem comp_end (p : Int) (F G : Nat → Int) : row 64 (compK p F G 8) = row 64 (compF p F G) := row_congr fun t ht => by unfold compK; rw [if_pos (by omega)]
/-- by the reference model: of G the first n images, of F the first n -/
def thenF (p : Int) (n : Nat) (F G : Nat → Int) (i : Nat) : Nat → Int := fun t => if t / 8 < i then appF p n (fun x y => F (x * 8 + y)) (fun y => G (t / 8 * 8 + y)) (t % 8) else 0
theorem then_zero (p : Int) (n : Nat) (F G : Nat → Int) : row 64 zf = row 64 (thenF p n F G 0) := row_congr fun t _ => by unfold thenF zf; rw [if_neg (by omega)]
theorem then_step (p : Int) (n : Nat) (F G : Nat → Int) (i : Nat) (hi : i < 8) : lay (row 64 (thenF p n F G i)) (i * 8) (row 8 (appF p n (fun x y => F (x * 8 + y)) fun t => G (i * 8 + t))) = row 64 (thenF p n F G (i + 1)) := by
  rw [lay_row _ _ _ _ _ (by omega)]
  refine row_congr fun t _ => ?_
  by_cases h : i * 8 ≤ t ∧ t < i * 8 + 8
  · rw [if_pos h]
    unfold thenF
    rw [if_pos (by omega), show t / 8 = i by omega, show t - i * 8 = t % 8 by omega]
  · rw [if_neg h]
    unfold thenF
    by_cases h2 : t / 8 < i
    · rw [if_pos h2, if_pos (by omega)]
    · rw [if_neg h2, if_neg (by omega)]

set_option maxRecDepth 100000 in
set_option maxHeartbeats 1000000 in
theorem composeLinear_any (p : Int) (F G : Nat → Int) (w : World) (hp : 0 < p) (hp' : p ≤ 255) (hF : Bytes 64 F) (hG : Bytes 64 G) :
    Calls Tryz.prog 125 #[.int .i64 p, .agg (row 64 F), .agg (row 64 G)] w fun e w' => e = .returned (.agg (row 64 (compF p F G))) ∧ Below w.heap.size w w' := by
 have HF := Lib.hid hF; clear hF
 have HG := Lib.hid hG; clear hG
 go_enter Tryz.func125, Tryz.ntmps125
 go_wp2
 refine atomW fun W1 e1 => ?_
 have hb1 : Below w.heap.size w W1 := by rw [e1]; exact bt
 have q1 := hb1.size
 have R1 : IsRow W1 (w.heap.size) ∧ IsRow W1 (w.heap.size + 2) ∧ IsRow W1 (w.heap.size + 3) := by rw [e1]; simp [go_sem]
 obtain ⟨r4_1, r6_1, r7_1⟩ := R1
 have C1 := (⟨congrArg (blk · (w.heap.size)) e1, congrArg (blk · (w.heap.size + 2)) e1, congrArg (blk · (w.heap.size + 3)) e1⟩ : _ ∧ _ ∧ _); simp [go_sem] at C1
 obtain ⟨c4_1, c6_1, c7_1⟩ := C1
 have z4_1 := isRow_lt r4_1; have z6_1 := isRow_lt r6_1; have z7_1 := isRow_lt r7_1
 clear e1
 go_loopw [11] (fun s11 wr => ∃ i : Nat, i ≤ 8 ∧ s11 = .int .i64 i ∧ Below w.heap.size w wr ∧ (IsRow wr (w.heap.size) ∧ blk wr (w.heap.size) = blk W1 (w.heap.size)) ∧ (IsRow wr (w.heap.size + 2) ∧ blk wr (w.heap.size + 2) = blk W1 (w.heap.size + 2)) ∧ (IsRow wr (w.heap.size + 3) ∧ blk wr (w.heap.size + 3) = row 64 (compK p F G i))) (fun s11 _ => 8 - (intOf s11).toNat)
 case atStart => exact ⟨0, by omega, rfl, hb1, ⟨r4_1, rfl⟩, ⟨r6_1, rfl⟩, ⟨r7_1, c7_1.trans (comp_zero p F G)⟩⟩
 case round =>
  obtain ⟨i, hle2, rfl, hb2, ⟨r4_2, c4_2⟩, ⟨r6_2, c6_2⟩, ⟨r7_2, c7_2⟩⟩ := hrel
  obtain ⟨W2, rfl⟩ : ∃ W2 : World, W2 = wr := ⟨_, rfl⟩
  have q2 := hb2.size
  have E4_2 := Lib.hid c4_1; replace c4_2 := c4_2.trans c4_1
  have z4_2 := isRow_lt r4_2
  have E6_2 := Lib.hid c6_1; replace c6_2 := c6_2.trans c6_1
  have z6_2 := isRow_lt r6_2
  have z7_2 := isRow_lt r7_2
  clear r4_1 c4_1 z4_1 r6_1 c6_1 z6_1 r7_1 c7_1 z7_1 hb1
  by_cases hlt2 : i < 8
  ·
   have i0_2 : (0 : Int) ≤ (i : Int) := by omega
   have i8_2 : (i : Int) < 8 := by omega
   have k8_2 : i < 8 := by omega
   have m8_2 : i * 8 + 8 ≤ 64 := by omega
   have m64_2 : i * 64 + 64 ≤ 512 := by omega
   have l1_2 : 10 + i * 64 + 64 ≤ 522 := by omega
   have HV : Hid (Bytes 8 fun t => G (i * 8 + t)) := Lib.hid (part_bytes HG.out i (by omega))
   go_wp2_with fail
   have nw4_W2_0 : (w.heap.size) ≠ W2.heap.size := by omega
   have nw6_W2_0 : (w.heap.size + 2) ≠ W2.heap.size := by omega
   have nw7_W2_0 : (w.heap.size + 3) ≠ W2.heap.size := by omega
   refine atomC fun W3 e3 => ?_
   have hb3 : Below w.heap.size w W3 := by rw [e3]; exact bt
   have q3 := hb3.size
   have R3 : IsRow W3 (w.heap.size) ∧ IsRow W3 (w.heap.size + 2) ∧ IsRow W3 (w.heap.size + 3) := by rw [e3]; simp [go_sem, r4_2, c4_2, r6_2, c6_2, r7_2, c7_2, nw4_W2_0, nw6_W2_0, nw7_W2_0]
   obtain ⟨r4_3, r6_3, r7_3⟩ := R3
   have C3 := (⟨congrArg (blk · (w.heap.size)) e3, congrArg (blk · (w.heap.size + 2)) e3, congrArg (blk · (w.heap.size + 3)) e3⟩ : _ ∧ _ ∧ _); simp [go_sem, r4_2, c4_2, r6_2, c6_2, r7_2, c7_2, nw4_W2_0, nw6_W2_0, nw7_W2_0] at C3
   obtain ⟨c4_3, c6_3, c7_3⟩ := C3
   have z4_3 := isRow_lt r4_3; have z6_3 := isRow_lt r6_3; have z7_3 := isRow_lt r7_3
   clear e3 nw4_W2_0 nw6_W2_0 nw7_W2_0 r4_2 c4_2 z4_2 r6_2 c6_2 z6_2 r7_2 c7_2 z7_2 hb2
   refine (applyLinear_any p F _ _ hp hp' HF.out HV.out).mono ?_; rintro _ W4 ⟨rfl, hw4⟩
   obtain ⟨r4_4, c4_4, z4_4⟩ := keepZ hw4 z4_3 r4_3 c4_3
   obtain ⟨r6_4, c6_4, z6_4⟩ := keepZ hw4 z6_3 r6_3 c6_3
   obtain ⟨r7_4, c7_4, z7_4⟩ := keepZ hw4 z7_3 r7_3 c7_3
   obtain ⟨hb4, q4⟩ := bN hb3 hw4
   clear hw4 r4_3 c4_3 z4_3 r6_3 c6_3 z6_3 r7_3 c7_3 z7_3 hb3
   go_wp2
   go_roundw
   case rel => exact ⟨i + 1, by omega, by go_num, bt, ⟨by simp [go_sem, r4_4, c4_4, r6_4, c6_4, r7_4, c7_4], (by rw [E4_2.out]; first | exact c4_4 | (simp [go_sem, r4_4, c4_4, r6_4, c6_4, r7_4, c7_4]; done))⟩, ⟨by simp [go_sem, r4_4, c4_4, r6_4, c6_4, r7_4, c7_4], (by rw [E6_2.out]; first | exact c6_4 | (simp [go_sem, r4_4, c4_4, r6_4, c6_4, r7_4, c7_4]; done))⟩, ⟨by simp [go_sem, r4_4, c4_4, r6_4, c6_4, r7_4, c7_4], (by first | (rw [blk_setRow _ _ _ _ r7_4, if_pos rfl]; exact comp_step p F G i (by omega)) | exact (c7_4).trans (comp_step p F G i (by omega)) | (simp [go_sem, r4_4, c4_4, r6_4, c6_4, r7_4, c7_4]; exact comp_step p F G i (by omega)))⟩⟩
   case measure => simp [intOf]; try omega
  ·
   obtain rfl : i = 8 := by omega
   rw [comp_end p F G] at c7_2
   go_wp2_with fail
   refine bodyPost_ret (result_cell rfl aggLin _ _ (row 64 (compF p F G)) _ rfl ?_ ?_) rfl ⟨rfl, ?_⟩
   · simp [go_sem, r4_2, c4_2, r6_2, c6_2, r7_2, c7_2]
   · simp [go_sem, r4_2, c4_2, r6_2, c6_2, r7_2, c7_2]
   · exact bt

/-- S taken k - 1 times, from k = 1 on -/
def hdF (p : Int) (n : Nat) (S : Nat → Int) : Nat → Nat → Int
  | 0 => idK n
  | 1 => idK n
  | k + 2 => compF p S (hdF p n S (k + 1))
theorem hd_one (p : Int) (n : Nat) (S : Nat → Int) : row 64 (idK n) = row 64 (hdF p n S 1) := rfl
theorem hd_succ (p : Int) (n : Nat) (S : Nat → Int) {k : Nat} (h : 1 ≤ k) : hdF p n S (k + 1) = compF p S (hdF p n S k) := by
  match k, h with
  | k + 1, _ => rfl
/-- S taken k times, by the reference model -/
def skF (p : Int) (n : Nat) (S : Nat → Int) : Nat → Nat → Int
  | 0 => S
  | 1 => S
  | k + 2 => thenF p n S (skF p n S (k + 1)) n
theorem sk_one (p : Int) (n : Nat) (S : Nat → Int) : row 64 S = row 64 (skF p n S 1) := rfl
theorem sk_succ (p : Int) (n : Nat) (S : Nat → Int) {k : Nat} (h : 1 ≤ k) : skF p n S (k + 1) = thenF p n S (skF p n S k) n := by
  match k, h with
  | k + 1, _ => rfl
theorem comp_bytes {p : Int} (hp : 0 < p) (hp' : p ≤ 255) (F G : Nat → Int) : Bytes 64 (compF p F G) := fun t _ => by
  have := mod_range (sumTo (fun j => G (t / 8 * 8 + j) * F (j * 8 + t % 8)) 8) p hp
  exact ⟨this.1, Int.le_trans (Int.le_of_lt this.2) hp'⟩
theorem hd_bytes {p : Int} (hp : 0 < p) (hp' : p ≤ 255) (n : Nat) (S : Nat → Int) : ∀ k, Bytes 64 (hdF p n S k)
  | 0 => id_bytes n
  | 1 => id_bytes n
  | k + 2 => comp_bytes hp hp' _ _
theorem then_bytes {p : Int} (hp : 0 < p) (hp' : p ≤ 255) (n : Nat) (F G : Nat → Int) (i : Nat) : Bytes 64 (thenF p n F G i) := fun t _ => by
  unfold thenF
  split
  · have := app_range p hp n (fun x y => F (x * 8 + y)) (fun y => G (t / 8 * 8 + y)) (t % 8)
    exact ⟨this.1, Int.le_trans (Int.le_of_lt this.2) hp'⟩
  · omega
theorem sk_bytes {p : Int} (hp : 0 < p) (hp' : p ≤ 255) (n : Nat) {S : Nat → Int} (hS : Bytes 64 S) : ∀ k, Bytes 64 (skF p n S k)
  | 0 => hS
  | 1 => hS
  | k + 2 => then_bytes hp hp' _ _ _ _
theorem an_entry {p : Int} {n : Nat} {f : Nat → Int} (h : shapeH p n f = true) (i j : Nat) (hi : i < 8) (hj : j < 8) : anF f (i * 8 + j) < p ∧ ((i < n ∧ j < n) ∨ anF f (i * 8 + j) = 0) := by
  have h1 := all_get (shapeH_parts h).2.2 i hi
  unfold entL at h1
  simp only [Bool.and_eq_true, Bool.or_eq_true, decide_eq_true_eq] at h1
  have h2 := (vecB_iff p n _).1 h1.1 j hj
  have e : rowOf 8 (anF f) i j = anF f (i * 8 + j) := rfl
  rw [e] at h2
  refine ⟨h2.1, ?_⟩
  rcases h1.2 with a | a
  · rcases h2.2 with b | b
    · exact .inl ⟨by omega, by omega⟩
    · exact .inr b
  · have := (segEq_iff 0 8 _ _).1 a j hj
    rw [Nat.zero_add] at this
    exact .inr this
theorem sk_zero {p : Int} {n : Nat} {f : Nat → Int} (hn : n ≤ 8) (h : shapeH p n f = true) : ∀ k i j, i < 8 → j < 8 → (n ≤ i ∨ n ≤ j) → skF p n (anF f) k (i * 8 + j) = 0
  | 0, i, j, hi, hj, ho => by
    have := (an_entry h i j hi hj).2
    show anF f (i * 8 + j) = 0
    omega
  | 1, i, j, hi, hj, ho => by
    have := (an_entry h i j hi hj).2
    show anF f (i * 8 + j) = 0
    omega
  | k + 2, i, j, hi, hj, ho => by
    show thenF p n (anF f) (skF p n (anF f) (k + 1)) n (i * 8 + j) = 0
    unfold thenF
    rw [show (i * 8 + j) / 8 = i by omega, show (i * 8 + j) % 8 = j by omega]
    by_cases hlt : i < n
    · rw [if_pos hlt]
      unfold appF
      rw [sumTo_zero n fun x hx => by
        have := (an_entry h x j (by omega) hj).2
        show _ * anF f (x * 8 + j) = 0
        rw [show anF f (x * 8 + j) = 0 by omega, Int.mul_zero]]
      rfl
    · rw [if_neg hlt]
theorem app_zero {p : Int} {g : Nat → Nat → Int} {v : Nat → Int} {k : Nat} (h : ∀ j, j < 8 → v j = 0) : appF p 8 g v k = 0 := by
  unfold appF
  rw [sumTo_zero 8 fun j hj => by rw [h j hj, Int.zero_mul]]
  rfl
theorem appF_full {p : Int} {n k : Nat} {g : Nat → Nat → Int} {v v' : Nat → Int} (hn : n ≤ 8) (he : ∀ j, j < 8 → v j = v' j) (hv : ∀ i, n ≤ i → i < 8 → v' i = 0) : appF p 8 g v k = appF p n g v' k := by
  unfold appF
  rw [sumTo_congr 8 (h := fun j => v' j * g j k) fun j hj => by rw [he j hj], sumTo_more (n := n) (fun i h1 h2 => by rw [hv i h1 h2, Int.zero_mul]) hn]
theorem hd_sk {p : Int} {n : Nat} {f : Nat → Int} (hn : n ≤ 8) (h : shapeH p n f = true) (hb : Bytes 1104 f) : ∀ k i j, i < 8 → j < 8 → hdF p n (anF f) (k + 2) (i * 8 + j) = skF p n (anF f) (k + 1) (i * 8 + j)
  | 0, i, j, hi, hj => by
    show compF p (anF f) (idK n) (i * 8 + j) = anF f (i * 8 + j)
    unfold compF
    rw [show (i * 8 + j) / 8 = i by omega, show (i * 8 + j) % 8 = j by omega]
    by_cases hlt : i < n
    · unfold appF
      rw [sumTo_one 8 hi fun x hx hne => by
        show idK n (i * 8 + x) * _ = 0
        unfold idK
        rw [if_pos (by omega), show (i * 8 + x) / 8 = i by omega, show (i * 8 + x) % 8 = x by omega, ebas_ne hne, Int.zero_mul]]
      show idK n (i * 8 + i) * anF f (i * 8 + j) % p = _
      unfold idK
      rw [if_pos (by omega), show (i * 8 + i) / 8 = i by omega, show (i * 8 + i) % 8 = i by omega, ebas_eq, Int.one_mul]
      exact Int.emod_eq_of_lt (an_bytes hb _ (by omega)).1 (an_entry h i j hi hj).1
    · rw [app_zero fun x hx => by unfold idK; rw [if_neg (by omega)]]
      have := (an_entry h i j hi hj).2
      omega
  | k + 1, i, j, hi, hj => by
    show compF p (anF f) (hdF p n (anF f) (k + 2)) (i * 8 + j) = thenF p n (anF f) (skF p n (anF f) (k + 1)) n (i * 8 + j)
    unfold compF thenF
    rw [show (i * 8 + j) / 8 = i by omega, show (i * 8 + j) % 8 = j by omega]
    have e := fun x hx => hd_sk hn h hb k i x hi hx
    by_cases hlt : i < n
    · rw [if_pos hlt]
      exact appF_full hn e fun x h1 h2 => sk_zero hn h (k + 1) i x hi h2 (.inr h1)
    · rw [if_neg hlt]
      exact app_zero fun x hx => by rw [e x hx]; exact sk_zero hn h (k + 1) i x hi hx (.inl (by omega))
/-- S taken k times leads e(i) to itself -/
def ordR (p : Int) (n : Nat) (f : Nat → Int) (k i : Nat) : Bool := segEq 0 8 (fun t => hdF p n (anF f) (k + 1) (i * 8 + t)) (ebas i)
def ordQ (p : Int) (n : Nat) (f : Nat → Int) (k : Nat) : Bool := (List.range n).all (ordR p n f k)
theorem ord_spec {p : Int} {n : Nat} {f : Nat → Int} (hn : n ≤ 8) (h : shapeH p n f = true) (hb : Bytes 1104 f) {k : Nat} (hk : 1 ≤ k) : segEq 0 64 (skF p n (anF f) k) (idK n) = ordQ p n f k := by
  obtain ⟨k, rfl⟩ : ∃ m, k = m + 1 := ⟨k - 1, by omega⟩
  refine seg_rows hn (fun i t hi ht => (hd_sk hn h hb k i t (by omega) ht).symm) (fun i t hi ht => ?_) (fun i t h1 h2 ht => ?_)
  · unfold idK
    rw [if_pos (by omega), show (i * 8 + t) / 8 = i by omega, show (i * 8 + t) % 8 = t by omega]
  · rw [sk_zero hn h (k + 1) i t h2 ht (.inl h1)]
    unfold idK
    rw [if_neg (by omega)]
def ordL (p : Int) (n : Nat) (f : Nat → Int) : List Bool := (List.range 60).map fun a => !ordQ p n f (a + 1)
/-- the order, or 0 -/
def ordN (p : Int) (n : Nat) (f : Nat → Int) : Int := axN (ordL p n f) 1
theorem ordL_at (p : Int) (n : Nat) (f : Nat → Int) (a : Nat) (h : a < 60) : (ordL p n f).getD a true = !ordQ p n f (a + 1) := by
  unfold ordL
  simp [h]
theorem ord_at {p : Int} {n : Nat} {f : Nat → Int} {k : Nat} (h1 : 1 ≤ k) (h2 : k ≤ 60) (ha : ∀ a, 1 ≤ a → a < k → ordQ p n f a = false) (h : ordQ p n f k = true) : ordN p n f = (k : Int) := by
  have := axN_at (ordL p n f) 1 (k - 1) (fun a hlt => by rw [ordL_at p n f a (by omega), ha (a + 1) (by omega) (by omega)]; rfl) (by rw [ordL_at p n f (k - 1) (by omega), show k - 1 + 1 = k by omega, h]; rfl)
  unfold ordN
  rw [this]
  omega
theorem ord_none {p : Int} {n : Nat} {f : Nat → Int} (ha : ∀ a, 1 ≤ a → a < 61 → ordQ p n f a = false) : ordN p n f = 0 := axN_none _ 1 fun a hlt => by
  have : a < 60 := by simpa [ordL] using hlt
  rw [ordL_at p n f a this, ha (a + 1) (by omega) (by omega)]; rfl
def ooR (p n : Int) (f : Nat → Int) : Int := match hopfB p n f with | true => ordN p n.toNat f | false => 0
def ooC (p n : Int) (f : Nat → Int) : Int := match hopfB p n f with | true => (if ordN p n.toNat f = 0 then 3 else 0) | false => 1
theorem oo_no {p n : Int} {f : Nat → Int} (h : hopfB p n f = false) : ooR p n f = 0 ∧ ooC p n f = 1 := by unfold ooR ooC; rw [h]; exact ⟨rfl, rfl⟩
theorem oo_at {p : Int} {n k : Nat} {f : Nat → Int} (h : hopfB p n f = true) (hk : ordN p n f = (k : Int)) (h1 : 1 ≤ k) : ooR p n f = k ∧ ooC p n f = 0 := by
  unfold ooR ooC
  rw [h]
  show ordN p n f = _ ∧ (if ordN p n f = 0 then 3 else 0 : Int) = 0
  rw [hk, if_neg (by omega)]
  exact ⟨rfl, rfl⟩
theorem oo_none {p : Int} {n : Nat} {f : Nat → Int} (h : hopfB p n f = true) (hk : ordN p n f = 0) : ooR p n f = 0 ∧ ooC p n f = 3 := by
  unfold ooR ooC
  rw [h]
  show ordN p n f = _ ∧ (if ordN p n f = 0 then 3 else 0 : Int) = 3
  rw [hk, if_pos rfl]
  exact ⟨rfl, rfl⟩
theorem upto_none {q : Nat → Bool} {k : Nat} (ha : ∀ a, 1 ≤ a → a < k → q a = false) (h : q k = false) : ∀ a, 1 ≤ a → a < k + 1 → q a = false := fun a h1 h2 => by
  by_cases e : a = k
  · subst e; exact h
  · exact ha a h1 (by omega)

end Go.Proofs.YtfmhgfnadgaiaaaGreat
