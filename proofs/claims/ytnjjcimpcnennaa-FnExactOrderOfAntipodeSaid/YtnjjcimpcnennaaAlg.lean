/- Algebras as values and as cells: the prime, the size, and 520 bytes. -/
import Derived.Test.YtnjjcimpcnennaaArrT
import Derived.Test.YtnjjcimpcnennaaMath
namespace Go.Proofs.Ytnjjcimpcnennaa
open Go.RowKit
set_option linter.unusedSimpArgs false
set_option linter.unusedVariables false

/-- the cells of an algebra: f has the unit at 0..7 and the table behind -/
def alg (p n : Int) (f : Nat → Int) : Array Value := #[.int .i64 p, .int .i64 n] ++ row 520 f
@[go_sem] theorem alg_size (p n : Int) (f : Nat → Int) : (alg p n f).size = 522 := by simp [alg, row_size]
@[go_sem] theorem alg_prime (p n : Int) (f : Nat → Int) : (alg p n f)[0]? = some (.int .i64 p) := by unfold alg; rw [Array.getElem?_append]; simp
@[go_sem] theorem alg_len (p n : Int) (f : Nat → Int) : (alg p n f)[1]? = some (.int .i64 n) := by unfold alg; rw [Array.getElem?_append]; simp
@[go_sem] theorem alg_prime' (p n : Int) (f : Nat → Int) (h : 0 < (alg p n f).size) : (alg p n f)[0] = .int .i64 p := by
  have := alg_prime p n f
  rw [Array.getElem?_eq_getElem h] at this
  simpa using this
@[go_sem] theorem alg_len' (p n : Int) (f : Nat → Int) (h : 1 < (alg p n f).size) : (alg p n f)[1] = .int .i64 n := by
  have := alg_len p n f
  rw [Array.getElem?_eq_getElem h] at this
  simpa using this
theorem alg_get (p n : Int) (f : Nat → Int) (o : Nat) (h : 2 ≤ o) (h' : o < 522) : (alg p n f)[o]? = some (.int .u8 (f (o - 2))) := by
  unfold alg
  rw [Array.getElem?_append]
  simp only [List.size_toArray, List.length_cons, List.length_nil]
  rw [if_neg (by omega), row_get? _ _ _ (by omega)]
theorem alg_none (p n : Int) (f : Nat → Int) (o : Nat) (h : 522 ≤ o) : (alg p n f)[o]? = none := by
  rw [Array.getElem?_eq_none]; rw [alg_size]; exact h
theorem alg_congr {p n : Int} {f g : Nat → Int} (h : ∀ i, i < 520 → f i = g i) : alg p n f = alg p n g := by
  unfold alg; rw [row_congr h]
theorem alg_ext {p n : Int} {f : Nat → Int} {c : Array Value} (h0 : c[0]? = some (.int .i64 p)) (h1 : c[1]? = some (.int .i64 n)) (h2 : ∀ i, i < 520 → c[2 + i]? = some (.int .u8 (f i))) (h3 : ∀ i, 522 ≤ i → c[i]? = none) : c = alg p n f := by
  apply Array.ext_getElem?
  intro i
  match i with
  | 0 => rw [h0, alg_prime]
  | 1 => rw [h1, alg_len]
  | i + 2 =>
    by_cases hi : i < 520
    · rw [show i + 2 = 2 + i by omega, h2 i hi, alg_get p n f (2 + i) (by omega) (by omega), Nat.add_sub_cancel_left]
    · rw [h3 (i + 2) (by omega), alg_none p n f (i + 2) (by omega)]
theorem alg_cells (p n : Int) (f : Nat → Int) : (alg p n f).all (·.oneCell') = true := by
  unfold alg
  rw [Array.all_append, row_cells]
  simp [Value.oneCell']
@[go_sem] theorem alg_all (p n : Int) (f : Nat → Int) : (alg p n f).extract 0 522 = alg p n f := by
  rw [show (522 : Nat) = (alg p n f).size from (alg_size p n f).symm]; simp
theorem alg_part (p n : Int) (f : Nat → Int) (a m : Nat) (h : 2 ≤ a) (h' : a + m ≤ 522) : (alg p n f).extract a (a + m) = row m fun t => f (a - 2 + t) := by
  apply Array.ext_getElem?
  intro i
  rw [Array.getElem?_extract, alg_size]
  by_cases hi : i < m
  · rw [if_pos (by omega), row_get? _ _ i hi, alg_get p n f (a + i) (by omega) (by omega)]
    rw [show a + i - 2 = a - 2 + i by omega]
  · rw [if_neg (by omega), row_get_none _ _ i (by omega)]
@[go_sem] theorem alg_unit (p n : Int) (f : Nat → Int) : (alg p n f).extract 2 10 = row 8 f := by
  rw [show (10 : Nat) = 2 + 8 from rfl, alg_part p n f 2 8 (by omega) (by omega)]
  exact row_congr fun i _ => by rw [Nat.sub_self, Nat.zero_add]
@[go_sem] theorem alg_unit' (p n : Int) (f : Nat → Int) : (alg p n f).extract 2 (2 + 8) = row 8 f := alg_unit p n f
/-- the table behind the unit -/
def tab (f : Nat → Int) : Nat → Int := fun t => f (8 + t)
@[go_sem] theorem alg_mul (p n : Int) (f : Nat → Int) : (alg p n f).extract 10 522 = row 512 (tab f) := by
  rw [show (522 : Nat) = 10 + 512 from rfl, alg_part p n f 10 512 (by omega) (by omega)]
  exact row_congr fun i _ => rfl
@[go_sem] theorem alg_mul' (p n : Int) (f : Nat → Int) : (alg p n f).extract 10 (10 + 512) = row 512 (tab f) := alg_mul p n f
@[go_sem] theorem alg_row (p n : Int) (f : Nat → Int) (a m : Nat) (h : 10 + a + m ≤ 522) : (alg p n f).extract (10 + a) (10 + a + m) = row m fun t => tab f (a + t) := by
  rw [alg_part p n f (10 + a) m (by omega) h]
  exact row_congr fun i _ => by unfold tab; congr 1; omega
theorem alg_entry (p n : Int) (f : Nat → Int) (a c m : Nat) (h : 10 + a + c + m ≤ 522) : (alg p n f).extract (10 + a + c) (10 + a + c + m) = row m fun t => tab f (a + c + t) := by
  rw [alg_part p n f (10 + a + c) m (by omega) h]
  exact row_congr fun i _ => by unfold tab; congr 1; omega
@[go_sem] theorem alg_set0 (p n q : Int) (f : Nat → Int) : (alg p n f).setIfInBounds 0 (.int .i64 q) = alg q n f := by
  apply alg_ext
  · rw [Array.getElem?_setIfInBounds]; simp [alg_size]
  · rw [Array.getElem?_setIfInBounds]; simp [alg_len]
  · intro i hi; rw [Array.getElem?_setIfInBounds, if_neg (by omega), alg_get p n f (2 + i) (by omega) (by omega), Nat.add_sub_cancel_left]
  · intro i hi; rw [Array.getElem?_setIfInBounds, if_neg (by omega), alg_none p n f i hi]
@[go_sem] theorem alg_set1 (p n q : Int) (f : Nat → Int) : (alg p n f).setIfInBounds 1 (.int .i64 q) = alg p q f := by
  apply alg_ext
  · rw [Array.getElem?_setIfInBounds]; simp [alg_prime]
  · rw [Array.getElem?_setIfInBounds]; simp [alg_size]
  · intro i hi; rw [Array.getElem?_setIfInBounds, if_neg (by omega), alg_get p n f (2 + i) (by omega) (by omega), Nat.add_sub_cancel_left]
  · intro i hi; rw [Array.getElem?_setIfInBounds, if_neg (by omega), alg_none p n f i hi]
theorem lay_get (c cs : Array Value) (off i : Nat) (h : off + cs.size ≤ c.size) : (lay c off cs)[i]? = if off ≤ i ∧ i < off + cs.size then cs[i - off]? else c[i]? := by
  unfold lay
  rw [List.getElem?_toArray, List.getElem?_append, List.getElem?_append]
  simp only [List.length_append, List.length_take, Array.length_toList, List.getElem?_take, List.getElem?_drop, Array.getElem?_toList]
  by_cases h1 : i < off
  · rw [if_pos (by omega), if_pos (by omega), if_pos h1, if_neg (by omega)]
  · by_cases h2 : i < off + cs.size
    · rw [if_pos (by omega), if_neg (by omega), if_pos (by omega), show i - min off c.size = i - off by omega]
    · rw [if_neg (by omega), if_neg (by omega), show off + cs.size + (i - (min off c.size + cs.size)) = i by omega]
theorem lay_alg (p n : Int) (f g : Nat → Int) (a m : Nat) (h : a + m ≤ 520) : lay (alg p n f) (2 + a) (row m g) = alg p n fun i => if a ≤ i ∧ i < a + m then g (i - a) else f i := by
  apply alg_ext
  · rw [lay_get _ _ _ _ (by rw [alg_size, row_size]; omega), if_neg (by omega), alg_prime]
  · rw [lay_get _ _ _ _ (by rw [alg_size, row_size]; omega), if_neg (by omega), alg_len]
  · intro i hi
    rw [lay_get _ _ _ _ (by rw [alg_size, row_size]; omega), row_size]
    by_cases h1 : a ≤ i ∧ i < a + m
    · rw [if_pos (by omega), if_pos h1, row_get? _ _ _ (by omega), show 2 + i - (2 + a) = i - a by omega]
    · rw [if_neg (by omega), if_neg h1, alg_get p n f (2 + i) (by omega) (by omega), Nat.add_sub_cancel_left]
  · intro i hi
    rw [lay_get _ _ _ _ (by rw [alg_size, row_size]; omega), row_size, if_neg (by omega), alg_none p n f i hi]
@[go_sem] theorem lay_alg_all (p n q m : Int) (f g : Nat → Int) : lay (alg p n f) 0 (alg q m g) = alg q m g := by
  apply Array.ext_getElem?
  intro i
  rw [lay_get _ _ _ _ (by rw [alg_size, alg_size]; omega), alg_size]
  split
  · rfl
  · rw [alg_none _ _ _ _ (by omega), alg_none _ _ _ _ (by omega)]

/-! ### the operations at the type -/
theorem aggAlg : AggT Try.prog 40 522 := ⟨by kernel_rfl, by kernel_rfl⟩
@[go_sem ↓] theorem xloadAlg (ρ : Operand → Value) (dst : Option Tmp) (a : Operand) (ty : TypeId) (pos : String) (after : Array Edge) (guard : Option (Nat × Bool)) (w : World) :
    (execOp ρ ⟨dst, .load 40 a, ty, pos, after, guard⟩).run Try.prog w = loadN Try.prog 40 (ρ a) w := rfl
@[go_sem] theorem loadAlg (w : World) (b off : Nat) (h : Has w b (off + 522)) :
    loadN Try.prog 40 (.pointer (some ⟨b, off, none⟩)) w = .ok (.value (.agg ((blk w b).extract off (off + 522)))) w := loadN_at aggAlg w b off h
@[go_sem ↓] theorem xstoreAlg (ρ : Operand → Value) (dst : Option Tmp) (a x : Operand) (ty : TypeId) (pos : String) (after : Array Edge) (guard : Option (Nat × Bool)) (w : World) :
    (execOp ρ ⟨dst, .store 40 a x, ty, pos, after, guard⟩).run Try.prog w = storeN Try.prog 40 (ρ a) (ρ x) w := rfl
@[go_sem] theorem storeAlg (w : World) (b off : Nat) (p n : Int) (f : Nat → Int) (h : Has w b (off + 522)) :
    storeN Try.prog 40 (.pointer (some ⟨b, off, none⟩)) (.agg (alg p n f)) w = .ok .skip (w.setRow b (lay (blk w b) off (alg p n f))) := storeN_at aggAlg w b off _ h (alg_size _ _ _) (alg_cells _ _ _)
@[go_sem ↓] theorem xallocAlg (ρ : Operand → Value) (dst : Option Tmp) (ty : TypeId) (pos : String) (after : Array Edge) (guard : Option (Nat × Bool)) (w : World) :
    (execOp ρ ⟨dst, .alloc 40, ty, pos, after, guard⟩).run Try.prog w = allocN Try.prog 40 w := rfl
@[go_sem] theorem allocAlg (w : World) : allocN Try.prog 40 w = .ok (.value (.pointer (some ⟨w.heap.size, 0, none⟩))) (w.alloc (.cells (alg 0 0 zf) 40)) := allocN_eq _ (by kernel_rfl) w
@[go_sem ↓] theorem buildAlg (ρ : Operand → Value) (dst : Option Tmp) (ty : TypeId) (pos : String) (after : Array Edge) (guard : Option (Nat × Bool)) (w : World) :
    (execOp ρ ⟨dst, .build 40 #[], ty, pos, after, guard⟩).run Try.prog w = .ok (.value (.agg (alg 0 0 zf))) w := by kernel_rfl
end Go.Proofs.Ytnjjcimpcnennaa
