/- The axioms by the reference model: they say the same. -/
import Derived.Test.YtnjjcimpcnennaaR5
namespace Go.Proofs.Ytnjjcimpcnennaa
open Go.RowKit
set_option linter.unusedSimpArgs false
set_option linter.unusedVariables false
attribute [local irreducible] wpQuiet wpQE

theorem ebas_eq (b : Nat) : ebas b b = 1 := by unfold ebas upd; rw [if_pos rfl]
theorem ebas_ne {b j : Nat} (h : j ≠ b) : ebas b j = 0 := by unfold ebas upd zf; rw [if_neg h]
theorem mulF_right {p : Int} {n b t : Nat} {m : Nat → Nat → Nat → Int} {V : Nat → Int} (hb : b < n) : mulF p n m V (ebas b) t = sumTo (fun x => V x * m x b t) n % p := by
  unfold mulF
  congr 1
  refine sumTo_congr n fun x _ => ?_
  rw [sumTo_one n hb (fun j _ hne => by rw [ebas_ne hne, Int.mul_zero, Int.zero_mul]), ebas_eq, Int.mul_one]
theorem mulF_left {p : Int} {n a t : Nat} {m : Nat → Nat → Nat → Int} {E W : Nat → Int} (ha : a < n) (hE : ∀ x, x < n → E x = ebas a x) : mulF p n m E W t = sumTo (fun y => W y * m a y t) n % p := by
  unfold mulF
  congr 1
  rw [sumTo_one n ha (fun x hx hne => sumTo_zero n fun j _ => by rw [hE x hx, ebas_ne hne, Int.zero_mul, Int.zero_mul])]
  exact sumTo_congr n fun j _ => by rw [hE a ha, ebas_eq, Int.one_mul]
theorem left_sum {p : Int} {n t : Nat} {m : Nat → Nat → Nat → Int} {V w v : Nat → Int} (hw : ∀ y, y < n → w y = v y) : mulF p n m V w t % p = sumTo (fun b => v b * mulF p n m V (ebas b) t) n % p := by
  have h1 : sumTo (fun b => v b * mulF p n m V (ebas b) t) n % p = sumTo (fun b => sumTo (fun x => V x * w b * m x b t) n) n % p := by
    refine sum_mod p _ _ n fun b hb => ?_
    rw [mulF_right hb, Int.mul_emod, Int.emod_emod, ← Int.mul_emod, ← sumTo_mul]
    congr 1
    refine sumTo_congr n fun x _ => ?_
    rw [hw b hb, ← Int.mul_assoc, Int.mul_comm (v b)]
  rw [h1, ← sumTo_swap]
  unfold mulF
  rw [Int.emod_emod]
theorem right_sum {p : Int} {n a t : Nat} {m : Nat → Nat → Nat → Int} {E w v : Nat → Int} {S : Nat → Nat → Int} (ha : a < n) (hE : ∀ x, x < n → E x = ebas a x) (hw : ∀ y, y < n → w y % p = sumTo (fun b => v b * S b y) n % p) :
    mulF p n m E w t % p = sumTo (fun b => v b * mulF p n m (ebas a) (S b) t) n % p := by
  have h1 : sumTo (fun b => v b * mulF p n m (ebas a) (S b) t) n % p = sumTo (fun b => sumTo (fun y => v b * S b y * m a y t) n) n % p := by
    refine sum_mod p _ _ n fun b hb => ?_
    rw [mulF_left ha (fun _ _ => rfl), Int.mul_emod, Int.emod_emod, ← Int.mul_emod, ← sumTo_mul]
    congr 1
    exact sumTo_congr n fun y _ => (Int.mul_assoc _ _ _).symm
  rw [h1, ← sumTo_swap, mulF_left ha hE, Int.emod_emod]
  refine sum_mod p _ _ n fun y hy => ?_
  rw [Int.mul_emod, hw y hy, ← Int.mul_emod]
  congr 1
  rw [Int.mul_comm, ← sumTo_mul]
  exact sumTo_congr n fun b _ => Int.mul_comm _ _

/-! ### what is 0 in a shaped table -/
theorem co_entry {p : Int} {n : Nat} {f : Nat → Int} (h : shapeH p n f = true) (i j k : Nat) (hi : i < 8) (hj : j < 8) (hk : k < 8) : mtab (coF f) i j k < p ∧ ((i < n ∧ j < n ∧ k < n) ∨ mtab (coF f) i j k = 0) := by
  have := shape_entry (shapeH_parts h).2.1 i j k hi hj hk
  omega
theorem al_entry {p : Int} {n : Nat} {f : Nat → Int} (h : shapeH p n f = true) (i j k : Nat) (hi : i < 8) (hj : j < 8) (hk : k < 8) : mtab f i j k < p ∧ ((i < n ∧ j < n ∧ k < n) ∨ mtab f i j k = 0) := by
  have := shape_entry (shapeH_parts h).1 i j k hi hj hk
  omega
theorem al_unit {p : Int} {n : Nat} {f : Nat → Int} (h : shapeH p n f = true) (i : Nat) (hi : i < 8) : f i < p ∧ (i < n ∨ f i = 0) := by
  have := shape_unit (shapeH_parts h).1 i hi
  omega
theorem co_unit0 {p : Int} {n : Nat} {f : Nat → Int} (h : shapeH p n f = true) (i : Nat) (hi : i < 8) : coF f i < p ∧ (i < n ∨ coF f i = 0) := by
  have := shape_unit (shapeH_parts h).2.1 i hi
  omega
theorem copS_full {p : Int} {n : Nat} {f v : Nat → Int} (hn : n ≤ 8) (h : shapeH p n f = true) (t : Nat) (ht : t < 64) : copS p (coF f) v n n 0 t = copF p (coF f) v 8 t := by
  unfold copS copK copF
  split
  · rw [if_neg (by omega), sumTo_more (n := n) (fun i h1 h2 => by have := (co_entry h i (t / 8) (t % 8) h2 (by omega) (by omega)).2; rw [show mtab (coF f) i (t / 8) (t % 8) = 0 by omega, Int.mul_zero]) hn]
  · rw [sumTo_zero 8 fun i hi => by have := (co_entry h i (t / 8) (t % 8) hi (by omega) (by omega)).2; rw [show mtab (coF f) i (t / 8) (t % 8) = 0 by omega, Int.mul_zero]]
    rfl
theorem ppS_full {p : Int} {n : Nat} {f m q : Nat → Int} (hn : n ≤ 8) (h : shapeH p n f = true) (t : Nat) (ht : t < 64) : ppS p n f m q n 0 t = ppK p n f m q n 0 t := by
  unfold ppS
  split
  · rfl
  · rename_i hlt
    unfold ppK
    rw [dsum_all, sumTo_zero n fun a ha => sumTo_zero n fun b hb => by
      have := (al_entry h a b (t / 8) (by omega) (by omega) (by omega)).2
      unfold ppT
      rw [show mtab f a b (t / 8) = 0 by omega, Int.zero_mul]]
    rfl
theorem seg_same {m : Nat} {f f' g g' : Nat → Int} (h : ∀ t, t < m → f t = f' t) (h' : ∀ t, t < m → g t = g' t) : segEq 0 m f g = segEq 0 m f' g' := by
  rw [Bool.eq_iff_iff, segEq_iff, segEq_iff]
  constructor <;> intro k i hi <;> have := k i hi <;> rw [Nat.zero_add] at * <;> rw [h i hi, h' i hi] at * <;> exact this
theorem ax3_spec {p : Int} {n : Nat} {f : Nat → Int} (hn : n ≤ 8) (h : shapeH p n f = true) (i j : Nat) : segEq 0 64 (copS p (coF f) (mtab f i j) n n 0) (ppS p n f (comF f i) (comF f j) n 0) = ax3At p n f i j :=
  seg_same (fun t ht => copS_full hn h t ht) (fun t ht => ppS_full hn h t ht)
/-- a table of 8 rows, row by row; rows from n on are the same -/
theorem seg_rows {n : Nat} {X Y : Nat → Int} {x y : Nat → Nat → Int} (hn : n ≤ 8) (hx : ∀ i t, i < n → t < 8 → X (i * 8 + t) = x i t) (hy : ∀ i t, i < n → t < 8 → Y (i * 8 + t) = y i t) (h0 : ∀ i t, n ≤ i → i < 8 → t < 8 → X (i * 8 + t) = Y (i * 8 + t)) :
    segEq 0 64 X Y = (List.range n).all fun i => segEq 0 8 (x i) (y i) := by
  rw [Bool.eq_iff_iff, segEq_iff, List.all_eq_true]
  constructor
  · intro k i hi
    have hi' : i < n := by simpa using hi
    rw [segEq_iff]
    intro t ht
    have := k (i * 8 + t) (by omega)
    rw [Nat.zero_add, hx i t hi' ht, hy i t hi' ht] at this
    rw [Nat.zero_add]; exact this
  · intro k u hu
    rw [Nat.zero_add]
    by_cases hlt : u / 8 < n
    · have h1 := (segEq_iff 0 8 _ _).1 (k (u / 8) (by simpa using hlt)) (u % 8) (by omega)
      rw [Nat.zero_add, ← hx _ _ hlt (by omega), ← hy _ _ hlt (by omega), show u / 8 * 8 + u % 8 = u by omega] at h1
      exact h1
    · have h1 := h0 (u / 8) (u % 8) (by omega) (by omega) (by omega)
      rw [show u / 8 * 8 + u % 8 = u by omega] at h1
      exact h1
def ax4S (p : Int) (n : Nat) (f : Nat → Int) (j : Nat) : Bool := segEq 0 8 (fun t => copS p (coF f) f n n 0 (j * 8 + t)) (addm p 0 8 (f j) zf f)
theorem addm_unit (p c : Int) (f : Nat → Int) (t : Nat) (ht : t < 8) : addm p 0 8 c zf f t = c * f t % p := by unfold addm zf; rw [if_pos (by omega), Int.zero_add, Nat.sub_zero]
theorem ax4_spec {p : Int} {n : Nat} {f : Nat → Int} (hn : n ≤ 8) (h : shapeH p n f = true) : ax4B p f = (List.range n).all (ax4S p n f) := by
  refine seg_rows hn (fun i t hi ht => (copS_full hn h _ (by omega)).symm) (fun i t hi ht => ?_) (fun i t h1 h2 ht => ?_)
  · rw [addm_unit _ _ _ _ ht]
    unfold outF
    rw [if_pos (by omega), show (i * 8 + t) / 8 = i by omega, show (i * 8 + t) % 8 = t by omega]
  · rw [← copS_full hn h _ (by omega)]
    unfold copS outF
    rw [if_neg (by omega), if_pos (by omega), show (i * 8 + t) / 8 = i by omega, show f i = 0 by have := (al_unit h i h2).2; omega, Int.zero_mul]
    rfl
theorem dot_full {n : Nat} {u v : Nat → Int} (hn : n ≤ 8) (hv : ∀ i, n ≤ i → i < 8 → v i = 0) : dotF n v u = dotF 8 u v := by
  unfold dotF
  rw [sumTo_more (g := fun i => u i * v i) (n := n) (fun i h1 h2 => by rw [hv i h1 h2, Int.mul_zero]) hn]
  exact sumTo_congr n fun i _ => Int.mul_comm _ _
theorem ax5_spec {p : Int} {n : Nat} {f : Nat → Int} (hn : n ≤ 8) (h : shapeH p n f = true) (i j : Nat) (hi : i < 8) (hj : j < 8) : dotF n (mtab f i j) (coF f) = dotF 8 (coF f) (mtab f i j) :=
  dot_full hn fun k h1 h2 => by have := (al_entry h i j k hi hj h2).2; omega
theorem ax5u_spec {p : Int} {n : Nat} {f : Nat → Int} (hn : n ≤ 8) (h : shapeH p n f = true) : dotF n f (coF f) = dotF 8 (coF f) f :=
  dot_full hn fun k h1 h2 => by have := (al_unit h k h2).2; omega
/-! ### axioms 6 and 7 -/
def apS (p : Int) (n : Nat) (f S : Nat → Int) (beh : Bool) (i : Nat) : Bool := segEq 0 8 (fdK p n f S beh i n 0) (addm p 0 8 (coF f i) zf f)
def apB (p : Int) (n : Nat) (f S : Nat → Int) (beh : Bool) : Bool := (List.range n).all (apS p n f S beh)
theorem cvK_at (p : Int) (n : Nat) (A C F G : Nat → Int) (i t : Nat) (hi : i < n) (ht : t < 8) : cvK p n n A C F G n 0 (i * 8 + t) = cvR p n A C F G i n t := by
  unfold cvK
  rw [if_pos (by omega), show (i * 8 + t) / 8 = i by omega, show (i * 8 + t) % 8 = t by omega]
theorem cvK_past (p : Int) (n : Nat) (A C F G : Nat → Int) (i t : Nat) (hi : n ≤ i) (ht : t < 8) : cvK p n n A C F G n 0 (i * 8 + t) = 0 := by
  unfold cvK
  rw [if_neg (by omega)]
  split
  · simp [cvR, sumTo]
  · rfl
theorem app_id {p : Int} {n : Nat} {v : Nat → Int} {y : Nat} (hn : n ≤ 8) (hy : y < n) (h0 : 0 ≤ v y) (h1 : v y < p) : appF p 8 (fun x y => idK n (x * 8 + y)) v y = v y := by
  unfold appF
  rw [sumTo_one 8 (show y < 8 by omega) (fun j hj hne => by
    show v j * idK n (j * 8 + y) = 0
    unfold idK
    split
    · rw [show (j * 8 + y) / 8 = j by omega, show (j * 8 + y) % 8 = y by omega, ebas_ne (Ne.symm hne), Int.mul_zero]
    · rw [Int.mul_zero])]
  show v y * idK n (y * 8 + y) % p = v y
  unfold idK
  rw [if_pos (by omega), show (y * 8 + y) / 8 = y by omega, show (y * 8 + y) % 8 = y by omega, ebas_eq, Int.mul_one]
  exact Int.emod_eq_of_lt h0 h1
theorem fd_all (p : Int) (n : Nat) (f S : Nat → Int) (beh : Bool) (i t : Nat) : fdK p n f S beh i n 0 t = sumTo (fun a => sumTo (fun b => mtab (coF f) i a b * ownF p n f S beh a b t) n) n % p := by unfold fdK; rw [dsum_all]
theorem ax6_spec {p : Int} {n : Nat} {f : Nat → Int} (hn : n ≤ 8) (h : shapeH p n f = true) (hF : Bytes 1104 f) : ax6B p n f = apB p n f (anF f) false := by
  refine seg_rows hn (x := fun i => fdK p n f (anF f) false i n 0) (fun i t hi ht => ?_) (fun i t hi ht => ?_) (fun i t h1 h2 ht => ?_)
  · rw [cvK_at _ _ _ _ _ _ _ _ hi ht, fd_all]
    unfold cvR
    refine sum_mod p _ _ n fun a ha => ?_
    exact left_sum (v := mtab (coF f) i a) fun y hy => app_id hn hy (mtab_bytes (co_bytes hF) i a (by omega) (by omega) y (by omega)).1 (co_entry h i a y (by omega) (by omega) (by omega)).1
  · rw [addm_unit _ _ _ _ ht]
    unfold outF
    rw [if_pos (by omega), show (i * 8 + t) / 8 = i by omega, show (i * 8 + t) % 8 = t by omega]
  · rw [cvK_past _ _ _ _ _ _ _ _ h1 ht]
    unfold outF
    rw [if_pos (by omega), show (i * 8 + t) / 8 = i by omega, show coF f i = 0 by have := (co_unit0 h i h2).2; omega, Int.zero_mul]
    rfl
theorem ax7_spec {p : Int} {n : Nat} {f : Nat → Int} (hn : n ≤ 8) (h : shapeH p n f = true) : ax7B p n f = apB p n f (anF f) true := by
  refine seg_rows hn (x := fun i => fdK p n f (anF f) true i n 0) (fun i t hi ht => ?_) (fun i t hi ht => ?_) (fun i t h1 h2 ht => ?_)
  · rw [cvK_at _ _ _ _ _ _ _ _ hi ht, fd_all]
    unfold cvR
    refine sum_mod p _ _ n fun a ha => ?_
    refine right_sum (v := mtab (coF f) i a) (S := fun b y => anF f (b * 8 + y)) ha (fun x hx => ?_) (fun y hy => ?_)
    · unfold idK
      rw [if_pos (by omega), show (a * 8 + x) / 8 = a by omega, show (a * 8 + x) % 8 = x by omega]
    · unfold appF
      rw [Int.emod_emod, sumTo_more (n := n) (fun k h1 h2 => by have := (co_entry h i a k (by omega) (by omega) h2).2; rw [show mtab (coF f) i a k = 0 by omega, Int.zero_mul]) hn]
  · rw [addm_unit _ _ _ _ ht]
    unfold outF
    rw [if_pos (by omega), show (i * 8 + t) / 8 = i by omega, show (i * 8 + t) % 8 = t by omega]
  · rw [cvK_past _ _ _ _ _ _ _ _ h1 ht]
    unfold outF
    rw [if_pos (by omega), show (i * 8 + t) / 8 = i by omega, show coF f i = 0 by have := (co_unit0 h i h2).2; omega, Int.zero_mul]
    rfl

set_option maxRecDepth 100000 in
set_option maxHeartbeats 1000000 in
theorem l03Antipode_false (p : Int) (n : Nat) (f S : Nat → Int) (w : World) (hp : 0 < p) (hp' : p ≤ 255) (hn : n ≤ 8) (hF : Bytes 1104 f) (hS : Bytes 64 S) :
    Calls Try.prog 73 #[.agg (hop p n f), .agg (row 64 S), .bool false] w fun e w' => e = .returned (.bool (apB p n f S false)) ∧ Below w.heap.size w w' := by
  have HF := Lib.hid hF; clear hF
  have HS := Lib.hid hS; clear hS
  have HC : Hid (Bytes 8 (coF f)) := Lib.hid (unit_bytes (co_bytes HF.out))
  have HU : Hid (Bytes 8 f) := Lib.hid (unit_bytes (hop_bytes HF.out))
  have HZ : Hid (Bytes 8 zf) := Lib.hid fun t _ => by unfold zf; omega
  go_enter Try.func73, Try.ntmps73
  go_wp2
  refine atomW fun W1 e1 => ?_
  have hb1 : Below w.heap.size w W1 := by rw [e1]; (repeat (first | exact Below.refl _ _ | refine Below.alloc ?_ (by first | omega | (simp; try omega)) _ | refine below_setRow ?_ (by omega) _ | refine Below.drew ?_))
  have q1 := hb1.size
  have r3_1 : IsRow W1 (w.heap.size) := by rw [e1]; simp [go_sem]
  have c3_1 := congrArg (fun x => blk x (w.heap.size)) e1; simp [go_sem] at c3_1
  have z3_1 := isRow_lt r3_1
  have r4_1 : IsRow W1 (w.heap.size + 1) := by rw [e1]; simp [go_sem]
  have c4_1 := congrArg (fun x => blk x (w.heap.size + 1)) e1; simp [go_sem] at c4_1
  have z4_1 := isRow_lt r4_1
  clear e1
  go_loopw [7] (fun s7 wr => ∃ i : Nat, i ≤ n ∧ s7 = .int .i64 i ∧ Below w.heap.size w wr ∧ (IsRow wr (w.heap.size) ∧ blk wr (w.heap.size) = blk W1 (w.heap.size)) ∧ (IsRow wr (w.heap.size + 1) ∧ blk wr (w.heap.size + 1) = blk W1 (w.heap.size + 1)) ∧ ∀ a, a < i → apS p n f S false a = true) (fun s7 _ => n - (intOf s7).toNat)
  case atStart => exact ⟨0, by omega, rfl, hb1, ⟨r3_1, rfl⟩, ⟨r4_1, rfl⟩, fun a ha => by omega⟩
  case round =>
    obtain ⟨i, hle2, rfl, hb2, ⟨r3_2, c3_2⟩, ⟨r4_2, c4_2⟩, hx2⟩ := hrel
    obtain ⟨W2, rfl⟩ : ∃ W2 : World, W2 = wr := ⟨_, rfl⟩
    have q2 := hb2.size
    have HX2 := Lib.hid hx2; clear hx2
    have E3_2 := Lib.hid c3_1; replace c3_2 := c3_2.trans c3_1
    have z3_2 := isRow_lt r3_2
    have E4_2 := Lib.hid c4_1; replace c4_2 := c4_2.trans c4_1
    have z4_2 := isRow_lt r4_2
    clear r3_1 c3_1 z3_1 r4_1 c4_1 z4_1 hb1
    by_cases hlt2 : i < n
    · skip
      have i0_2 : (0 : Int) ≤ (i : Int) := by omega
      have i8_2 : (i : Int) < 8 := by omega
      have k8_2 : i < 8 := by omega
      have m8_2 : i * 8 + 8 ≤ 64 := by omega
      have m64_2 : i * 64 + 64 ≤ 512 := by omega
      have l1_2 : 10 + i * 64 + 64 ≤ 522 := by omega
      cases h0 : apS p n f S false i
      · skip
        have e7 := hop_cq p n f i (by omega)
        have b1 := (HC.out i (by omega)).1; have b2 := (HC.out i (by omega)).2
        have q1 : IntKind.i64.wrap (coF f i) = coF f i := IntWalk.i64_in _ (by omega)
        have h1 : segEq 0 8 (fdK p n f S false i n 0) (addm p 0 8 (coF f i) zf f) = false := h0
        have H : Hid (apB p n f S false = false) := Lib.hid (all_no (q := apS p n f S false) i n (by omega) h0)
        go_wp2
        refine wp_quiet_all (Below W2.heap.size W2) (by kernel_rfl) (by kernel_rfl) (Below.refl _ _).drew ?_
        iterate 4 (refine q_plain rfl ?_; apply Exists.intro; refine ⟨fun W hW => ?_, ?_⟩; (focus (obtain ⟨x3, y3⟩ := keepB hW z3_2 r3_2 c3_2; obtain ⟨x4, y4⟩ := keepB hW z4_2 r4_2 c4_2; go_simp; first | done | rfl)); simp only [Act.put, List.setIfInBounds_toArray, List.set_cons_zero, List.set_cons_succ])
        (refine q_plain rfl ?_; apply Exists.intro; refine ⟨fun W hW => ?_, ?_⟩; (focus (obtain ⟨x3, y3⟩ := keepB hW z3_2 r3_2 c3_2; obtain ⟨x4, y4⟩ := keepB hW z4_2 r4_2 c4_2; go_simp; (go_at_call 93; exact (l03Folded_false p n f S i _ hp hp' hn (by omega) HF.out HS.out).mono fun e w2 ⟨he, hw2⟩ => ⟨he, hW.trans (hw2.mono hW.size)⟩))); simp only [Act.put, List.setIfInBounds_toArray, List.set_cons_zero, List.set_cons_succ])
        iterate 10 (refine q_plain rfl ?_; apply Exists.intro; refine ⟨fun W hW => ?_, ?_⟩; (focus (obtain ⟨x3, y3⟩ := keepB hW z3_2 r3_2 c3_2; obtain ⟨x4, y4⟩ := keepB hW z4_2 r4_2 c4_2; go_simp; first | done | rfl)); simp only [Act.put, List.setIfInBounds_toArray, List.set_cons_zero, List.set_cons_succ])
        (refine q_plain rfl ?_; apply Exists.intro; refine ⟨fun W hW => ?_, ?_⟩; (focus (obtain ⟨x3, y3⟩ := keepB hW z3_2 r3_2 c3_2; obtain ⟨x4, y4⟩ := keepB hW z4_2 r4_2 c4_2; go_simp; (go_at_call 74; exact (l01Add_any _ _ _ _ _ hp hp' (by omega) (by omega) HZ.out HU.out).mono fun e w2 ⟨he, hw2⟩ => ⟨he, hW.trans (hw2.mono hW.size)⟩))); simp only [Act.put, List.setIfInBounds_toArray, List.set_cons_zero, List.set_cons_succ])
        iterate 1 (refine q_plain rfl ?_; apply Exists.intro; refine ⟨fun W hW => ?_, ?_⟩; (focus (obtain ⟨x3, y3⟩ := keepB hW z3_2 r3_2 c3_2; obtain ⟨x4, y4⟩ := keepB hW z4_2 r4_2 c4_2; go_simp; first | done | rfl)); simp only [Act.put, List.setIfInBounds_toArray, List.set_cons_zero, List.set_cons_succ])
        refine wpQuiet_nil ?_
        intro W3 hw3
        obtain ⟨r3_3, c3_3⟩ := keepB hw3 z3_2 r3_2 c3_2
        have z3_3 := isRow_lt r3_3
        obtain ⟨r4_3, c4_3⟩ := keepB hw3 z4_2 r4_2 c4_2
        have z4_3 := isRow_lt r4_3
        have hb3 := hb2.trans (hw3.mono hb2.size)
        have q3 := hb3.size
        clear hw3 r3_2 c3_2 z3_2 r4_2 c4_2 z4_2 hb2
        go_wp2_with fail
        go_ret
        exact ⟨ret_bool (by rw [H.out] <;> rfl), (by (repeat (first | exact hb3 | exact Below.refl _ _ | refine Below.alloc ?_ (by first | omega | (simp; try omega)) _ | refine below_setRow ?_ (by omega) _ | refine Below.drew ?_)))⟩
      · skip
        have e7 := hop_cq p n f i (by omega)
        have b1 := (HC.out i (by omega)).1; have b2 := (HC.out i (by omega)).2
        have q1 : IntKind.i64.wrap (coF f i) = coF f i := IntWalk.i64_in _ (by omega)
        have h1 : segEq 0 8 (fdK p n f S false i n 0) (addm p 0 8 (coF f i) zf f) = true := h0
        have H := Lib.hid (upto_more (q := apS p n f S false) HX2.out h0)
        go_wp2
        refine wp_quiet_all (Below W2.heap.size W2) (by kernel_rfl) (by kernel_rfl) (Below.refl _ _).drew ?_
        iterate 4 (refine q_plain rfl ?_; apply Exists.intro; refine ⟨fun W hW => ?_, ?_⟩; (focus (obtain ⟨x3, y3⟩ := keepB hW z3_2 r3_2 c3_2; obtain ⟨x4, y4⟩ := keepB hW z4_2 r4_2 c4_2; go_simp; first | done | rfl)); simp only [Act.put, List.setIfInBounds_toArray, List.set_cons_zero, List.set_cons_succ])
        (refine q_plain rfl ?_; apply Exists.intro; refine ⟨fun W hW => ?_, ?_⟩; (focus (obtain ⟨x3, y3⟩ := keepB hW z3_2 r3_2 c3_2; obtain ⟨x4, y4⟩ := keepB hW z4_2 r4_2 c4_2; go_simp; (go_at_call 93; exact (l03Folded_false p n f S i _ hp hp' hn (by omega) HF.out HS.out).mono fun e w2 ⟨he, hw2⟩ => ⟨he, hW.trans (hw2.mono hW.size)⟩))); simp only [Act.put, List.setIfInBounds_toArray, List.set_cons_zero, List.set_cons_succ])
        iterate 10 (refine q_plain rfl ?_; apply Exists.intro; refine ⟨fun W hW => ?_, ?_⟩; (focus (obtain ⟨x3, y3⟩ := keepB hW z3_2 r3_2 c3_2; obtain ⟨x4, y4⟩ := keepB hW z4_2 r4_2 c4_2; go_simp; first | done | rfl)); simp only [Act.put, List.setIfInBounds_toArray, List.set_cons_zero, List.set_cons_succ])
        (refine q_plain rfl ?_; apply Exists.intro; refine ⟨fun W hW => ?_, ?_⟩; (focus (obtain ⟨x3, y3⟩ := keepB hW z3_2 r3_2 c3_2; obtain ⟨x4, y4⟩ := keepB hW z4_2 r4_2 c4_2; go_simp; (go_at_call 74; exact (l01Add_any _ _ _ _ _ hp hp' (by omega) (by omega) HZ.out HU.out).mono fun e w2 ⟨he, hw2⟩ => ⟨he, hW.trans (hw2.mono hW.size)⟩))); simp only [Act.put, List.setIfInBounds_toArray, List.set_cons_zero, List.set_cons_succ])
        iterate 1 (refine q_plain rfl ?_; apply Exists.intro; refine ⟨fun W hW => ?_, ?_⟩; (focus (obtain ⟨x3, y3⟩ := keepB hW z3_2 r3_2 c3_2; obtain ⟨x4, y4⟩ := keepB hW z4_2 r4_2 c4_2; go_simp; first | done | rfl)); simp only [Act.put, List.setIfInBounds_toArray, List.set_cons_zero, List.set_cons_succ])
        refine wpQuiet_nil ?_
        intro W4 hw4
        obtain ⟨r3_4, c3_4⟩ := keepB hw4 z3_2 r3_2 c3_2
        have z3_4 := isRow_lt r3_4
        obtain ⟨r4_4, c4_4⟩ := keepB hw4 z4_2 r4_2 c4_2
        have z4_4 := isRow_lt r4_4
        have hb4 := hb2.trans (hw4.mono hb2.size)
        have q4 := hb4.size
        clear hw4 r3_2 c3_2 z3_2 r4_2 c4_2 z4_2 hb2
        go_wp2
        go_roundw
        case rel => exact ⟨i + 1, by omega, by go_num, (by (repeat (first | exact hb4 | exact Below.refl _ _ | refine Below.alloc ?_ (by first | omega | (simp; try omega)) _ | refine below_setRow ?_ (by omega) _ | refine Below.drew ?_))), ⟨by simp [go_sem, r3_4, c3_4, r4_4, c4_4], (by rw [E3_2.out]; first | exact c3_4 | (simp [go_sem, r3_4, c3_4, r4_4, c4_4]; done))⟩, ⟨by simp [go_sem, r3_4, c3_4, r4_4, c4_4], (by rw [E4_2.out]; first | exact c4_4 | (simp [go_sem, r3_4, c3_4, r4_4, c4_4]; done))⟩, H.out⟩
        case measure => simp [intOf]; try omega
    · skip
      obtain rfl : n = i := by omega
      have H : Hid (apB p n f S false = true) := Lib.hid (all_yes (q := apS p n f S false) n fun a ha => HX2.out a ha)
      go_wp2_with fail
      go_ret
      exact ⟨ret_bool (by rw [H.out] <;> rfl), (by (repeat (first | exact hb2 | exact Below.refl _ _ | refine Below.alloc ?_ (by first | omega | (simp; try omega)) _ | refine below_setRow ?_ (by omega) _ | refine Below.drew ?_)))⟩

set_option maxRecDepth 100000 in
set_option maxHeartbeats 1000000 in
theorem l03Antipode_true (p : Int) (n : Nat) (f S : Nat → Int) (w : World) (hp : 0 < p) (hp' : p ≤ 255) (hn : n ≤ 8) (hF : Bytes 1104 f) (hS : Bytes 64 S) :
    Calls Try.prog 73 #[.agg (hop p n f), .agg (row 64 S), .bool true] w fun e w' => e = .returned (.bool (apB p n f S true)) ∧ Below w.heap.size w w' := by
  have HF := Lib.hid hF; clear hF
  have HS := Lib.hid hS; clear hS
  have HC : Hid (Bytes 8 (coF f)) := Lib.hid (unit_bytes (co_bytes HF.out))
  have HU : Hid (Bytes 8 f) := Lib.hid (unit_bytes (hop_bytes HF.out))
  have HZ : Hid (Bytes 8 zf) := Lib.hid fun t _ => by unfold zf; omega
  go_enter Try.func73, Try.ntmps73
  go_wp2
  refine atomW fun W1 e1 => ?_
  have hb1 : Below w.heap.size w W1 := by rw [e1]; (repeat (first | exact Below.refl _ _ | refine Below.alloc ?_ (by first | omega | (simp; try omega)) _ | refine below_setRow ?_ (by omega) _ | refine Below.drew ?_))
  have q1 := hb1.size
  have r3_1 : IsRow W1 (w.heap.size) := by rw [e1]; simp [go_sem]
  have c3_1 := congrArg (fun x => blk x (w.heap.size)) e1; simp [go_sem] at c3_1
  have z3_1 := isRow_lt r3_1
  have r4_1 : IsRow W1 (w.heap.size + 1) := by rw [e1]; simp [go_sem]
  have c4_1 := congrArg (fun x => blk x (w.heap.size + 1)) e1; simp [go_sem] at c4_1
  have z4_1 := isRow_lt r4_1
  clear e1
  go_loopw [7] (fun s7 wr => ∃ i : Nat, i ≤ n ∧ s7 = .int .i64 i ∧ Below w.heap.size w wr ∧ (IsRow wr (w.heap.size) ∧ blk wr (w.heap.size) = blk W1 (w.heap.size)) ∧ (IsRow wr (w.heap.size + 1) ∧ blk wr (w.heap.size + 1) = blk W1 (w.heap.size + 1)) ∧ ∀ a, a < i → apS p n f S true a = true) (fun s7 _ => n - (intOf s7).toNat)
  case atStart => exact ⟨0, by omega, rfl, hb1, ⟨r3_1, rfl⟩, ⟨r4_1, rfl⟩, fun a ha => by omega⟩
  case round =>
    obtain ⟨i, hle2, rfl, hb2, ⟨r3_2, c3_2⟩, ⟨r4_2, c4_2⟩, hx2⟩ := hrel
    obtain ⟨W2, rfl⟩ : ∃ W2 : World, W2 = wr := ⟨_, rfl⟩
    have q2 := hb2.size
    have HX2 := Lib.hid hx2; clear hx2
    have E3_2 := Lib.hid c3_1; replace c3_2 := c3_2.trans c3_1
    have z3_2 := isRow_lt r3_2
    have E4_2 := Lib.hid c4_1; replace c4_2 := c4_2.trans c4_1
    have z4_2 := isRow_lt r4_2
    clear r3_1 c3_1 z3_1 r4_1 c4_1 z4_1 hb1
    by_cases hlt2 : i < n
    · skip
      have i0_2 : (0 : Int) ≤ (i : Int) := by omega
      have i8_2 : (i : Int) < 8 := by omega
      have k8_2 : i < 8 := by omega
      have m8_2 : i * 8 + 8 ≤ 64 := by omega
      have m64_2 : i * 64 + 64 ≤ 512 := by omega
      have l1_2 : 10 + i * 64 + 64 ≤ 522 := by omega
      cases h0 : apS p n f S true i
      · skip
        have e7 := hop_cq p n f i (by omega)
        have b1 := (HC.out i (by omega)).1; have b2 := (HC.out i (by omega)).2
        have q1 : IntKind.i64.wrap (coF f i) = coF f i := IntWalk.i64_in _ (by omega)
        have h1 : segEq 0 8 (fdK p n f S true i n 0) (addm p 0 8 (coF f i) zf f) = false := h0
        have H : Hid (apB p n f S true = false) := Lib.hid (all_no (q := apS p n f S true) i n (by omega) h0)
        go_wp2
        refine wp_quiet_all (Below W2.heap.size W2) (by kernel_rfl) (by kernel_rfl) (Below.refl _ _).drew ?_
        iterate 4 (refine q_plain rfl ?_; apply Exists.intro; refine ⟨fun W hW => ?_, ?_⟩; (focus (obtain ⟨x3, y3⟩ := keepB hW z3_2 r3_2 c3_2; obtain ⟨x4, y4⟩ := keepB hW z4_2 r4_2 c4_2; go_simp; first | done | rfl)); simp only [Act.put, List.setIfInBounds_toArray, List.set_cons_zero, List.set_cons_succ])
        (refine q_plain rfl ?_; apply Exists.intro; refine ⟨fun W hW => ?_, ?_⟩; (focus (obtain ⟨x3, y3⟩ := keepB hW z3_2 r3_2 c3_2; obtain ⟨x4, y4⟩ := keepB hW z4_2 r4_2 c4_2; go_simp; (go_at_call 93; exact (l03Folded_true p n f S i _ hp hp' hn (by omega) HF.out HS.out).mono fun e w2 ⟨he, hw2⟩ => ⟨he, hW.trans (hw2.mono hW.size)⟩))); simp only [Act.put, List.setIfInBounds_toArray, List.set_cons_zero, List.set_cons_succ])
        iterate 10 (refine q_plain rfl ?_; apply Exists.intro; refine ⟨fun W hW => ?_, ?_⟩; (focus (obtain ⟨x3, y3⟩ := keepB hW z3_2 r3_2 c3_2; obtain ⟨x4, y4⟩ := keepB hW z4_2 r4_2 c4_2; go_simp; first | done | rfl)); simp only [Act.put, List.setIfInBounds_toArray, List.set_cons_zero, List.set_cons_succ])
        (refine q_plain rfl ?_; apply Exists.intro; refine ⟨fun W hW => ?_, ?_⟩; (focus (obtain ⟨x3, y3⟩ := keepB hW z3_2 r3_2 c3_2; obtain ⟨x4, y4⟩ := keepB hW z4_2 r4_2 c4_2; go_simp; (go_at_call 74; exact (l01Add_any _ _ _ _ _ hp hp' (by omega) (by omega) HZ.out HU.out).mono fun e w2 ⟨he, hw2⟩ => ⟨he, hW.trans (hw2.mono hW.size)⟩))); simp only [Act.put, List.setIfInBounds_toArray, List.set_cons_zero, List.set_cons_succ])
        iterate 1 (refine q_plain rfl ?_; apply Exists.intro; refine ⟨fun W hW => ?_, ?_⟩; (focus (obtain ⟨x3, y3⟩ := keepB hW z3_2 r3_2 c3_2; obtain ⟨x4, y4⟩ := keepB hW z4_2 r4_2 c4_2; go_simp; first | done | rfl)); simp only [Act.put, List.setIfInBounds_toArray, List.set_cons_zero, List.set_cons_succ])
        refine wpQuiet_nil ?_
        intro W3 hw3
        obtain ⟨r3_3, c3_3⟩ := keepB hw3 z3_2 r3_2 c3_2
        have z3_3 := isRow_lt r3_3
        obtain ⟨r4_3, c4_3⟩ := keepB hw3 z4_2 r4_2 c4_2
        have z4_3 := isRow_lt r4_3
        have hb3 := hb2.trans (hw3.mono hb2.size)
        have q3 := hb3.size
        clear hw3 r3_2 c3_2 z3_2 r4_2 c4_2 z4_2 hb2
        go_wp2_with fail
        go_ret
        exact ⟨ret_bool (by rw [H.out] <;> rfl), (by (repeat (first | exact hb3 | exact Below.refl _ _ | refine Below.alloc ?_ (by first | omega | (simp; try omega)) _ | refine below_setRow ?_ (by omega) _ | refine Below.drew ?_)))⟩
      · skip
        have e7 := hop_cq p n f i (by omega)
        have b1 := (HC.out i (by omega)).1; have b2 := (HC.out i (by omega)).2
        have q1 : IntKind.i64.wrap (coF f i) = coF f i := IntWalk.i64_in _ (by omega)
        have h1 : segEq 0 8 (fdK p n f S true i n 0) (addm p 0 8 (coF f i) zf f) = true := h0
        have H := Lib.hid (upto_more (q := apS p n f S true) HX2.out h0)
        go_wp2
        refine wp_quiet_all (Below W2.heap.size W2) (by kernel_rfl) (by kernel_rfl) (Below.refl _ _).drew ?_
        iterate 4 (refine q_plain rfl ?_; apply Exists.intro; refine ⟨fun W hW => ?_, ?_⟩; (focus (obtain ⟨x3, y3⟩ := keepB hW z3_2 r3_2 c3_2; obtain ⟨x4, y4⟩ := keepB hW z4_2 r4_2 c4_2; go_simp; first | done | rfl)); simp only [Act.put, List.setIfInBounds_toArray, List.set_cons_zero, List.set_cons_succ])
        (refine q_plain rfl ?_; apply Exists.intro; refine ⟨fun W hW => ?_, ?_⟩; (focus (obtain ⟨x3, y3⟩ := keepB hW z3_2 r3_2 c3_2; obtain ⟨x4, y4⟩ := keepB hW z4_2 r4_2 c4_2; go_simp; (go_at_call 93; exact (l03Folded_true p n f S i _ hp hp' hn (by omega) HF.out HS.out).mono fun e w2 ⟨he, hw2⟩ => ⟨he, hW.trans (hw2.mono hW.size)⟩))); simp only [Act.put, List.setIfInBounds_toArray, List.set_cons_zero, List.set_cons_succ])
        iterate 10 (refine q_plain rfl ?_; apply Exists.intro; refine ⟨fun W hW => ?_, ?_⟩; (focus (obtain ⟨x3, y3⟩ := keepB hW z3_2 r3_2 c3_2; obtain ⟨x4, y4⟩ := keepB hW z4_2 r4_2 c4_2; go_simp; first | done | rfl)); simp only [Act.put, List.setIfInBounds_toArray, List.set_cons_zero, List.set_cons_succ])
        (refine q_plain rfl ?_; apply Exists.intro; refine ⟨fun W hW => ?_, ?_⟩; (focus (obtain ⟨x3, y3⟩ := keepB hW z3_2 r3_2 c3_2; obtain ⟨x4, y4⟩ := keepB hW z4_2 r4_2 c4_2; go_simp; (go_at_call 74; exact (l01Add_any _ _ _ _ _ hp hp' (by omega) (by omega) HZ.out HU.out).mono fun e w2 ⟨he, hw2⟩ => ⟨he, hW.trans (hw2.mono hW.size)⟩))); simp only [Act.put, List.setIfInBounds_toArray, List.set_cons_zero, List.set_cons_succ])
        iterate 1 (refine q_plain rfl ?_; apply Exists.intro; refine ⟨fun W hW => ?_, ?_⟩; (focus (obtain ⟨x3, y3⟩ := keepB hW z3_2 r3_2 c3_2; obtain ⟨x4, y4⟩ := keepB hW z4_2 r4_2 c4_2; go_simp; first | done | rfl)); simp only [Act.put, List.setIfInBounds_toArray, List.set_cons_zero, List.set_cons_succ])
        refine wpQuiet_nil ?_
        intro W4 hw4
        obtain ⟨r3_4, c3_4⟩ := keepB hw4 z3_2 r3_2 c3_2
        have z3_4 := isRow_lt r3_4
        obtain ⟨r4_4, c4_4⟩ := keepB hw4 z4_2 r4_2 c4_2
        have z4_4 := isRow_lt r4_4
        have hb4 := hb2.trans (hw4.mono hb2.size)
        have q4 := hb4.size
        clear hw4 r3_2 c3_2 z3_2 r4_2 c4_2 z4_2 hb2
        go_wp2
        go_roundw
        case rel => exact ⟨i + 1, by omega, by go_num, (by (repeat (first | exact hb4 | exact Below.refl _ _ | refine Below.alloc ?_ (by first | omega | (simp; try omega)) _ | refine below_setRow ?_ (by omega) _ | refine Below.drew ?_))), ⟨by simp [go_sem, r3_4, c3_4, r4_4, c4_4], (by rw [E3_2.out]; first | exact c3_4 | (simp [go_sem, r3_4, c3_4, r4_4, c4_4]; done))⟩, ⟨by simp [go_sem, r3_4, c3_4, r4_4, c4_4], (by rw [E4_2.out]; first | exact c4_4 | (simp [go_sem, r3_4, c3_4, r4_4, c4_4]; done))⟩, H.out⟩
        case measure => simp [intOf]; try omega
    · skip
      obtain rfl : n = i := by omega
      have H : Hid (apB p n f S true = true) := Lib.hid (all_yes (q := apS p n f S true) n fun a ha => HX2.out a ha)
      go_wp2_with fail
      go_ret
      exact ⟨ret_bool (by rw [H.out] <;> rfl), (by (repeat (first | exact hb2 | exact Below.refl _ _ | refine Below.alloc ?_ (by first | omega | (simp; try omega)) _ | refine below_setRow ?_ (by omega) _ | refine Below.drew ?_)))⟩

end Go.Proofs.Ytnjjcimpcnennaa
