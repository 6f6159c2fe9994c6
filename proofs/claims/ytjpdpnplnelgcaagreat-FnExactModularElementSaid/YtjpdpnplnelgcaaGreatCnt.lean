/- Algebras with a Counit as values and as cells; spaces of vectors; what makes them. -/
import Derived.Test.YtjpdpnplnelgcaaGreatRA
namespace Go.Proofs.YtjpdpnplnelgcaaGreat
open Go.RowKit
set_option linter.unusedSimpArgs false
set_option linter.unusedVariables false

/-- the cells of an algebra with a Counit: g has the unit at 0..7, the table of products at 8..519, the Counit at 520..527 -/
def cnt (p n : Int) (g : Nat → Int) : Array Value := #[.int .i64 p, .int .i64 n] ++ row 528 g
@[go_sem] theorem cnt_size (p n : Int) (f : Nat → Int) : (cnt p n f).size = 530 := by simp [cnt, row_size]
@[go_sem] theorem cnt_prime (p n : Int) (f : Nat → Int) : (cnt p n f)[0]? = some (.int .i64 p) := by unfold cnt; rw [Array.getElem?_append]; simp
@[go_sem] theorem cnt_len (p n : Int) (f : Nat → Int) : (cnt p n f)[1]? = some (.int .i64 n) := by unfold cnt; rw [Array.getElem?_append]; simp
@[go_sem] theorem cnt_prime' (p n : Int) (f : Nat → Int) (h : 0 < (cnt p n f).size) : (cnt p n f)[0] = .int .i64 p := by
  have := cnt_prime p n f
  rw [Array.getElem?_eq_getElem h] at this
  simpa using this
@[go_sem] theorem cnt_len' (p n : Int) (f : Nat → Int) (h : 1 < (cnt p n f).size) : (cnt p n f)[1] = .int .i64 n := by
  have := cnt_len p n f
  rw [Array.getElem?_eq_getElem h] at this
  simpa using this
theorem cnt_get (p n : Int) (f : Nat → Int) (o : Nat) (h : 2 ≤ o) (h' : o < 530) : (cnt p n f)[o]? = some (.int .u8 (f (o - 2))) := by
  unfold cnt
  rw [Array.getElem?_append]
  simp only [List.size_toArray, List.length_cons, List.length_nil]
  rw [if_neg (by omega), row_get? _ _ _ (by omega)]
theorem cnt_none (p n : Int) (f : Nat → Int) (o : Nat) (h : 530 ≤ o) : (cnt p n f)[o]? = none := by
  rw [Array.getElem?_eq_none]; rw [cnt_size]; exact h
theorem cnt_congr {p n : Int} {f g : Nat → Int} (h : ∀ i, i < 528 → f i = g i) : cnt p n f = cnt p n g := by
  unfold cnt; rw [row_congr h]
theorem cnt_ext {p n : Int} {f : Nat → Int} {c : Array Value} (h0 : c[0]? = some (.int .i64 p)) (h1 : c[1]? = some (.int .i64 n)) (h2 : ∀ i, i < 528 → c[2 + i]? = some (.int .u8 (f i))) (h3 : ∀ i, 530 ≤ i → c[i]? = none) : c = cnt p n f := by
  apply Array.ext_getElem?
  intro i
  match i with
  | 0 => rw [h0, cnt_prime]
  | 1 => rw [h1, cnt_len]
  | i + 2 =>
    by_cases hi : i < 528
    · rw [show i + 2 = 2 + i by omega, h2 i hi, cnt_get p n f (2 + i) (by omega) (by omega), Nat.add_sub_cancel_left]
    · rw [h3 (i + 2) (by omega), cnt_none p n f (i + 2) (by omega)]
theorem cnt_cells (p n : Int) (f : Nat → Int) : (cnt p n f).all (·.oneCell') = true := by
  unfold cnt
  rw [Array.all_append, row_cells]
  simp [Value.oneCell']
@[go_sem] theorem cnt_all (p n : Int) (f : Nat → Int) : (cnt p n f).extract 0 530 = cnt p n f := by
  rw [show (530 : Nat) = (cnt p n f).size from (cnt_size p n f).symm]; simp
theorem cnt_part (p n : Int) (f : Nat → Int) (a m : Nat) (h : 2 ≤ a) (h' : a + m ≤ 530) : (cnt p n f).extract a (a + m) = row m fun t => f (a - 2 + t) := by
  apply Array.ext_getElem?
  intro i
  rw [Array.getElem?_extract, cnt_size]
  by_cases hi : i < m
  · rw [if_pos (by omega), row_get? _ _ i hi, cnt_get p n f (a + i) (by omega) (by omega)]
    rw [show a + i - 2 = a - 2 + i by omega]
  · rw [if_neg (by omega), row_get_none _ _ i (by omega)]
@[go_sem] theorem cnt_unit (p n : Int) (f : Nat → Int) : (cnt p n f).extract 2 10 = row 8 f := by
  rw [show (10 : Nat) = 2 + 8 from rfl, cnt_part p n f 2 8 (by omega) (by omega)]
  exact row_congr fun i _ => by rw [Nat.sub_self, Nat.zero_add]
@[go_sem] theorem cnt_unit' (p n : Int) (f : Nat → Int) : (cnt p n f).extract 2 (2 + 8) = row 8 f := cnt_unit p n f
@[go_sem] theorem cnt_mul (p n : Int) (f : Nat → Int) : (cnt p n f).extract 10 522 = row 512 (tab f) := by
  rw [show (522 : Nat) = 10 + 512 from rfl, cnt_part p n f 10 512 (by omega) (by omega)]
  exact row_congr fun i _ => rfl
@[go_sem] theorem cnt_mul' (p n : Int) (f : Nat → Int) : (cnt p n f).extract 10 (10 + 512) = row 512 (tab f) := cnt_mul p n f
@[go_sem] theorem cnt_counit (p n : Int) (f : Nat → Int) : (cnt p n f).extract 522 530 = row 8 (coF f) := by
  rw [show (530 : Nat) = 522 + 8 from rfl, cnt_part p n f 522 8 (by omega) (by omega)]
  exact row_congr fun i _ => rfl
@[go_sem] theorem cnt_counit' (p n : Int) (f : Nat → Int) : (cnt p n f).extract 522 (522 + 8) = row 8 (coF f) := cnt_counit p n f
@[go_sem] theorem cnt_alg (p n : Int) (g : Nat → Int) : (cnt p n g).extract 0 522 = alg p n g := by
  apply Array.ext_getElem?
  intro i
  rw [Array.getElem?_extract, cnt_size]
  match i with
  | 0 => rw [if_pos (by omega)]; exact (cnt_prime p n g).trans (alg_prime p n g).symm
  | 1 => rw [if_pos (by omega)]; exact (cnt_len p n g).trans (alg_len p n g).symm
  | i + 2 =>
    by_cases hi : i < 520
    · rw [if_pos (by omega), Nat.zero_add, cnt_get p n g (i + 2) (by omega) (by omega)]
      unfold alg
      rw [Array.getElem?_append]
      simp only [List.size_toArray, List.length_cons, List.length_nil]
      rw [if_neg (by omega), row_get? _ _ _ (by omega)]
    · rw [if_neg (by omega), Array.getElem?_eq_none]; rw [alg_size]; omega
theorem cnt_ce (p n : Int) (f : Nat → Int) (i : Nat) (hi : i < 8) (h : 522 + i < (cnt p n f).size) : (cnt p n f)[522 + i] = .int .u8 (coF f i) := by
  have := cnt_get p n f (522 + i) (by omega) (by omega)
  rw [show 522 + i - 2 = 520 + i by omega] at this
  exact el_of this h
theorem cnt_cq (p n : Int) (f : Nat → Int) (i : Nat) (hi : i < 8) : (cnt p n f)[522 + i]? = some (.int .u8 (coF f i)) := by rw [cnt_get p n f _ (by omega) (by omega), show 522 + i - 2 = 520 + i by omega]; rfl
theorem lay_cnt (p n : Int) (f g : Nat → Int) (a m : Nat) (h : a + m ≤ 528) : lay (cnt p n f) (2 + a) (row m g) = cnt p n fun i => if a ≤ i ∧ i < a + m then g (i - a) else f i := by
  apply cnt_ext
  · rw [lay_get _ _ _ _ (by rw [cnt_size, row_size]; omega), if_neg (by omega), cnt_prime]
  · rw [lay_get _ _ _ _ (by rw [cnt_size, row_size]; omega), if_neg (by omega), cnt_len]
  · intro i hi
    rw [lay_get _ _ _ _ (by rw [cnt_size, row_size]; omega), row_size]
    by_cases h1 : a ≤ i ∧ i < a + m
    · rw [if_pos (by omega), if_pos h1, row_get? _ _ _ (by omega), show 2 + i - (2 + a) = i - a by omega]
    · rw [if_neg (by omega), if_neg h1, cnt_get p n f (2 + i) (by omega) (by omega), Nat.add_sub_cancel_left]
  · intro i hi
    rw [lay_get _ _ _ _ (by rw [cnt_size, row_size]; omega), row_size, if_neg (by omega), cnt_none p n f i hi]
@[go_sem] theorem lay_cnt_all (p n q m : Int) (f g : Nat → Int) : lay (cnt p n f) 0 (cnt q m g) = cnt q m g := by
  apply Array.ext_getElem?
  intro i
  rw [lay_get _ _ _ _ (by rw [cnt_size, cnt_size]; omega), cnt_size]
  split
  · rfl
  · rw [cnt_none _ _ _ _ (by omega), cnt_none _ _ _ _ (by omega)]
@[go_sem] theorem cnt_set0 (p n q : Int) (f : Nat → Int) : (cnt p n f).setIfInBounds 0 (.int .i64 q) = cnt q n f := by
  apply cnt_ext
  · rw [Array.getElem?_setIfInBounds]; simp [cnt_size]
  · rw [Array.getElem?_setIfInBounds]; simp [cnt_len]
  · intro i hi; rw [Array.getElem?_setIfInBounds, if_neg (by omega), cnt_get p n f (2 + i) (by omega) (by omega), Nat.add_sub_cancel_left]
  · intro i hi; rw [Array.getElem?_setIfInBounds, if_neg (by omega), cnt_none p n f i hi]
@[go_sem] theorem cnt_set1 (p n q : Int) (f : Nat → Int) : (cnt p n f).setIfInBounds 1 (.int .i64 q) = cnt p q f := by
  apply cnt_ext
  · rw [Array.getElem?_setIfInBounds]; simp [cnt_prime]
  · rw [Array.getElem?_setIfInBounds]; simp [cnt_size]
  · intro i hi; rw [Array.getElem?_setIfInBounds, if_neg (by omega), cnt_get p n f (2 + i) (by omega) (by omega), Nat.add_sub_cancel_left]
  · intro i hi; rw [Array.getElem?_setIfInBounds, if_neg (by omega), cnt_none p n f i hi]

/-! ### the operations at the type -/
theorem aggCnt : AggT Tryz.prog 106 530 := ⟨by kernel_rfl, by kernel_rfl⟩
@[go_sem ↓] theorem xloadCnt (ρ : Operand → Value) (dst : Option Tmp) (a : Operand) (ty : TypeId) (pos : String) (after : Array Edge) (guard : Option (Nat × Bool)) (w : World) :
    (execOp ρ ⟨dst, .load 106 a, ty, pos, after, guard⟩).run Tryz.prog w = loadN Tryz.prog 106 (ρ a) w := rfl
@[go_sem] theorem loadCnt (w : World) (b off : Nat) (h : Has w b (off + 530)) :
    loadN Tryz.prog 106 (.pointer (some ⟨b, off, none⟩)) w = .ok (.value (.agg ((blk w b).extract off (off + 530)))) w := loadN_at aggCnt w b off h
@[go_sem ↓] theorem xstoreCnt (ρ : Operand → Value) (dst : Option Tmp) (a x : Operand) (ty : TypeId) (pos : String) (after : Array Edge) (guard : Option (Nat × Bool)) (w : World) :
    (execOp ρ ⟨dst, .store 106 a x, ty, pos, after, guard⟩).run Tryz.prog w = storeN Tryz.prog 106 (ρ a) (ρ x) w := rfl
@[go_sem] theorem storeCnt (w : World) (b off : Nat) (p n : Int) (f : Nat → Int) (h : Has w b (off + 530)) :
    storeN Tryz.prog 106 (.pointer (some ⟨b, off, none⟩)) (.agg (cnt p n f)) w = .ok .skip (w.setRow b (lay (blk w b) off (cnt p n f))) := storeN_at aggCnt w b off _ h (cnt_size _ _ _) (cnt_cells _ _ _)
@[go_sem ↓] theorem xallocCnt (ρ : Operand → Value) (dst : Option Tmp) (ty : TypeId) (pos : String) (after : Array Edge) (guard : Option (Nat × Bool)) (w : World) :
    (execOp ρ ⟨dst, .alloc 106, ty, pos, after, guard⟩).run Tryz.prog w = allocN Tryz.prog 106 w := rfl
theorem cnt_zeros : cnt 0 0 zf = ([Value.int .i64 0, Value.int .i64 0] ++ List.replicate 528 (Value.int .u8 0)).toArray := by
  unfold cnt; rw [row_zeros]; exact zeros_gen _ _ _ 528
@[go_sem] theorem allocCnt (w : World) : allocN Tryz.prog 106 w = .ok (.value (.pointer (some ⟨w.heap.size, 0, none⟩))) (w.alloc (.cells (cnt 0 0 zf) 106)) := allocN_eq _ (by rw [cnt_zeros]; kernel_rfl) w

/-- an algebra, and a Counit behind it -/
def joinC (f e : Nat → Int) : Nat → Int := fun i => if i < 520 then f i else e (i - 520)
theorem lay_cnt_alg (p n q m : Int) (f g : Nat → Int) : lay (cnt p n f) 0 (alg q m g) = cnt q m (fun i => if i < 520 then g i else f i) := by
  apply cnt_ext
  · rw [lay_get _ _ _ _ (by rw [cnt_size, alg_size]; omega), if_pos (by rw [alg_size]; omega)]; exact alg_prime q m g
  · rw [lay_get _ _ _ _ (by rw [cnt_size, alg_size]; omega), if_pos (by rw [alg_size]; omega)]; exact alg_len q m g
  · intro i hi
    rw [lay_get _ _ _ _ (by rw [cnt_size, alg_size]; omega), alg_size]
    by_cases h1 : i < 520
    · rw [if_pos (by omega), if_pos h1]
      unfold alg
      rw [Array.getElem?_append]
      simp only [List.size_toArray, List.length_cons, List.length_nil]
      rw [if_neg (by omega), row_get? _ _ _ (by omega), show 2 + i - 0 - 2 = i by omega]
    · rw [if_neg (by omega), if_neg h1, cnt_get p n f (2 + i) (by omega) (by omega), Nat.add_sub_cancel_left]
  · intro i hi
    rw [lay_get _ _ _ _ (by rw [cnt_size, alg_size]; omega), alg_size, if_neg (by omega), cnt_none p n f i hi]
set_option maxRecDepth 100000 in
@[go_sem ↓] theorem xbuildCnt (ρ : Operand → Value) (dst : Option Tmp) (a b : Operand) (ty : TypeId) (pos : String) (after : Array Edge) (guard : Option (Nat × Bool)) (w : World) :
    (execOp ρ ⟨dst, .build 106 #[(0, a), (1, b)], ty, pos, after, guard⟩).run Tryz.prog w = buildS Tryz.prog 106 #[(0, ρ a), (1, ρ b)] w := by kernel_rfl
set_option maxRecDepth 100000 in
@[go_sem] theorem buildCnt (p n : Int) (f e : Nat → Int) (w : World) : buildS Tryz.prog 106 #[(0, .agg (alg p n f)), (1, .agg (row 8 e))] w = .ok (.value (.agg (cnt p n (joinC f e)))) w := by
  refine build_struct (fields := fieldsOf Tryz.prog 106) (places := #[(0, 522), (522, 8)]) (zc := cnt 0 0 zf) (by kernel_rfl) (by rw [cnt_zeros]; kernel_rfl) (fun w => by kernel_rfl) ?_ w
  show Instr.fill _ _ [_, _] = _
  rw [fill_row (off := 0) (m := 522) rfl (alg_size _ _ _) (by rw [cnt_size]; omega), lay_cnt_alg, fill_row (off := 522) (m := 8) rfl (row_size _ _) (by rw [cnt_size]; omega), show (522 : Nat) = 2 + 520 from rfl, lay_cnt _ _ _ _ 520 8 (by omega)]
  show some _ = some _
  refine congrArg some (cnt_congr fun i hi => ?_)
  unfold joinC zf
  by_cases h : i < 520
  · rw [if_neg (by omega), if_pos h, if_pos h]
  · rw [if_pos (by omega), if_neg h]
theorem joinC_self (p n : Int) (f : Nat → Int) : cnt p n (joinC f (coF f)) = cnt p n f := cnt_congr fun i hi => by
  unfold joinC coF
  by_cases h : i < 520
  · rw [if_pos h]
  · rw [if_neg h, show 520 + (i - 520) = i by omega]
theorem cnt_bytes {g : Nat → Int} (h : Bytes 528 g) : Bytes 520 g := fun t ht => h t (by omega)
theorem cnt_cob {g : Nat → Int} (h : Bytes 528 g) : Bytes 8 (coF g) := fun t ht => h (520 + t) (by omega)
end Go.Proofs.YtjpdpnplnelgcaaGreat
