/- The laws of YtnjjcimpcnennaaArr at this program's types. -/
import Derived.Test.YtnjjcimpcnennaaArr
namespace Go.Proofs.Ytnjjcimpcnennaa
open Go.RowKit
set_option linter.unusedSimpArgs false
set_option linter.unusedVariables false

/-- numbers of blocks are held apart -/
@[go_sem] theorem nat_self1 (a b : Nat) : (a = a + b) ↔ b = 0 := by omega
@[go_sem] theorem nat_self2 (a b c : Nat) : (a = a + b + c) ↔ (b = 0 ∧ c = 0) := by omega
@[go_sem] theorem nat_self3 (a b c d : Nat) : (a = a + b + c + d) ↔ (b = 0 ∧ c = 0 ∧ d = 0) := by omega
@[go_sem] theorem nat_self4 (a b c d e : Nat) : (a = a + b + c + d + e) ↔ (b = 0 ∧ c = 0 ∧ d = 0 ∧ e = 0) := by omega
@[go_sem] theorem nat_self5 (a b c d e f : Nat) : (a = a + b + c + d + e + f) ↔ (b = 0 ∧ c = 0 ∧ d = 0 ∧ e = 0 ∧ f = 0) := by omega
/-- zeros -/
def zf : Nat → Int := fun _ => 0

attribute [go_sem] row_get? row_set row_size setRow_setRow
@[go_sem] theorem row_getElem (n : Nat) (f : Nat → Int) (i : Nat) (h : i < (row n f).size) : (row n f)[i] = .int .u8 (f i) := by
  simp [row]

theorem blk_at (w : World) (c : Array Value) (t : TypeId) (b : Nat) (h : b = w.heap.size) : blk (w.alloc (.cells c t)) b = c := by subst h; exact blk_new w c t
theorem heap_alloc_past (w : World) (o : Obj) (b : Nat) (h : b ≠ w.heap.size) : (w.alloc o).heap[b]? = w.heap[b]? := by
  show (w.heap.push o)[b]? = _
  rw [Array.getElem?_push, if_neg h]
@[go_sem] theorem blk_alloc (w : World) (c : Array Value) (t : TypeId) (b : Nat) : blk (w.alloc (.cells c t)) b = if b = w.heap.size then c else blk w b := by
  split
  · rename_i h; exact blk_at w c t b h
  · rename_i h; unfold blk; rw [heap_alloc_past w _ b h]
@[go_sem] theorem blk_drew (w : World) (b : Nat) : blk w.drew b = blk w b := rfl
/-- block b is a row of cells, none of which is frozen -/
def IsRow (w : World) (b : Nat) : Prop := ∃ c t, w.heap[b]? = some (.cells c t (0, 0))
@[go_sem] theorem has_iff (w : World) (b n : Nat) : Has w b n ↔ IsRow w b ∧ n ≤ (blk w b).size := by
  constructor
  · intro h
    obtain ⟨t, h1, h2⟩ := has_blk h
    exact ⟨⟨_, t, h1⟩, h2⟩
  · rintro ⟨⟨c, t, h1⟩, h2⟩
    refine ⟨c, t, h1, ?_⟩
    unfold blk at h2
    rw [h1] at h2
    exact h2
theorem isRow_lt {w : World} {b : Nat} (h : IsRow w b) : b < w.heap.size := by
  obtain ⟨c, t, h⟩ := h
  rw [Array.getElem?_eq_some_iff] at h; exact h.1
theorem isRow_heap {w : World} {b : Nat} (h : IsRow w b) : ∃ t, w.heap[b]? = some (.cells (blk w b) t (0, 0)) := by
  obtain ⟨c, t, h⟩ := h
  refine ⟨t, ?_⟩
  unfold blk; rw [h]
@[go_sem] theorem isRow_alloc (w : World) (c : Array Value) (t : TypeId) (b : Nat) : IsRow (w.alloc (.cells c t)) b ↔ (b = w.heap.size ∨ IsRow w b) := by
  by_cases h : b = w.heap.size
  · subst h
    simp only [true_or, iff_true]
    exact ⟨c, t, heap_alloc_last _ _⟩
  · simp only [h, false_or]
    unfold IsRow; rw [heap_alloc_past w _ b h]
@[go_sem] theorem isRow_drew (w : World) (b : Nat) : IsRow w.drew b ↔ IsRow w b := Iff.rfl
@[go_sem] theorem isRow_setRow (w : World) (g b : Nat) (c : Array Value) : IsRow (w.setRow g c) b ↔ IsRow w b := by
  by_cases h : b = g
  · subst h
    unfold IsRow World.setRow
    simp only [Array.getElem?_modify, ↓reduceIte]
    cases hq : w.heap[b]? with
    | none => simp
    | some o => cases o <;> simp
  · unfold IsRow; rw [setRow_other w g b c h]
@[go_sem] theorem blk_setRow (w : World) (g b : Nat) (c : Array Value) (h : IsRow w g) : blk (w.setRow g c) b = if b = g then c else blk w b := by
  split
  · rename_i e; subst e
    obtain ⟨c0, t, h1⟩ := h
    unfold blk; rw [setRow_heap w b c0 c t _ h1]
  · rename_i e; unfold blk; rw [setRow_other w g b c e]
@[go_sem] theorem cell_blk (w : World) (b i : Nat) : w.cell? ⟨b, i, none⟩ = (blk w b)[i]? := by
  unfold World.cell? blk
  cases w.heap[b]? with
  | none => simp
  | some o => cases o <;> simp
@[go_sem] theorem frozen_row (w : World) (b i : Nat) (h : IsRow w b) : w.frozen? ⟨b, i, none⟩ = false := by
  obtain ⟨c, t, h⟩ := h
  simp [World.frozen?, h]
@[go_sem] theorem setCell_row (w : World) (b i : Nat) (v : Value) (h : IsRow w b) : w.setCell ⟨b, i, none⟩ v = w.setRow b ((blk w b).setIfInBounds i v) := by
  obtain ⟨t, h1⟩ := isRow_heap h
  exact setCell_eq_setRow w b i _ t (0, 0) v h1
theorem setRow_past (w : World) (o : Obj) (c' : Array Value) (b : Nat) (h : b ≠ w.heap.size) : (w.alloc o).setRow b c' = (w.setRow b c').alloc o := by
  unfold World.setRow World.alloc
  simp only [World.mk.injEq, and_self, and_true]
  apply Array.ext_getElem?
  intro i
  simp only [Array.getElem?_modify, Array.getElem?_push, Array.size_modify]
  by_cases hi : i = w.heap.size
  · subst hi
    simp [h]
  · simp [hi]
@[go_sem] theorem setRow_alloc (w : World) (c c' : Array Value) (t : TypeId) (b : Nat) : (w.alloc (.cells c t)).setRow b c' = if b = w.heap.size then w.alloc (.cells c' t) else (w.setRow b c').alloc (.cells c t) := by
  split
  · rename_i h; subst h; exact World.setRow_alloc_new w c c' t
  · rename_i h; exact setRow_past w _ c' b h
/-- a block below B is kept -/
theorem keepB {B b : Nat} {c : Array Value} {w w' : World} (hb : Below B w w') (hlt : b < B) (h : IsRow w b) (hc : blk w b = c) : IsRow w' b ∧ blk w' b = c := by
  have e := hb.block b hlt
  constructor
  · unfold IsRow; rw [e]; exact h
  · unfold blk at hc ⊢; rw [e]; exact hc
@[go_sem] theorem extract_all (n : Nat) (f : Nat → Int) : (row n f).extract 0 n = row n f := by
  rw [row_extract n f 0 n (Nat.le_refl _)]
  simp
@[go_sem] theorem row_part (n m a : Nat) (f : Nat → Int) (h : a + m ≤ n) : (row n f).extract a (a + m) = row m fun i => f (a + i) := by
  rw [row_extract n f a (a + m) h, Nat.add_sub_cancel_left]
theorem lay_row (n m off : Nat) (g f : Nat → Int) (h : off + m ≤ n) : lay (row n g) off (row m f) = row n fun i => if off ≤ i ∧ i < off + m then f (i - off) else g i := by
  apply Array.ext_getElem?
  intro i
  unfold lay
  rw [List.getElem?_toArray, List.getElem?_append, List.getElem?_append]
  simp only [List.length_append, List.length_take, Array.length_toList, row_size, List.getElem?_take, List.getElem?_drop, Array.getElem?_toList]
  by_cases h1 : i < off
  · rw [if_pos (by omega), if_pos (by omega), if_pos h1, row_get? n g i (by omega), row_get? n _ i (by omega), if_neg (by omega)]
  · by_cases h2 : i < off + m
    · rw [if_pos (by omega), if_neg (by omega), row_get? n _ i (by omega), if_pos (by omega), show i - min off n = i - off by omega, row_get? m f (i - off) (by omega)]
    · rw [if_neg (by omega)]
      by_cases h3 : i < n
      · rw [row_get? n _ i h3, if_neg (by omega), show off + m + (i - (min off n + m)) = i by omega, row_get? n g i h3]
      · rw [row_get_none n _ i (by omega), row_get_none n _ _ (by omega)]
@[go_sem] theorem lay_all (n : Nat) (g f : Nat → Int) : lay (row n g) 0 (row n f) = row n f := by
  rw [lay_row n n 0 g f (by omega)]
  exact row_congr fun i hi => by simp [hi]


/-! ### Vec -/
theorem aggVec : AggT Try.prog 28 8 := ⟨by kernel_rfl, by kernel_rfl⟩
@[go_sem ↓] theorem xloadVec (ρ : Operand → Value) (dst : Option Tmp) (a : Operand) (ty : TypeId) (pos : String) (after : Array Edge) (guard : Option (Nat × Bool)) (w : World) :
    (execOp ρ ⟨dst, .load 28 a, ty, pos, after, guard⟩).run Try.prog w = loadN Try.prog 28 (ρ a) w := rfl
@[go_sem] theorem loadVec (w : World) (b off : Nat) (h : Has w b (off + 8)) :
    loadN Try.prog 28 (.pointer (some ⟨b, off, none⟩)) w = .ok (.value (.agg ((blk w b).extract off (off + 8)))) w := loadN_at aggVec w b off h
@[go_sem ↓] theorem xstoreVec (ρ : Operand → Value) (dst : Option Tmp) (a x : Operand) (ty : TypeId) (pos : String) (after : Array Edge) (guard : Option (Nat × Bool)) (w : World) :
    (execOp ρ ⟨dst, .store 28 a x, ty, pos, after, guard⟩).run Try.prog w = storeN Try.prog 28 (ρ a) (ρ x) w := rfl
@[go_sem ↓] theorem xallocVec (ρ : Operand → Value) (dst : Option Tmp) (ty : TypeId) (pos : String) (after : Array Edge) (guard : Option (Nat × Bool)) (w : World) :
    (execOp ρ ⟨dst, .alloc 28, ty, pos, after, guard⟩).run Try.prog w = allocN Try.prog 28 w := rfl
@[go_sem] theorem storeVec (w : World) (b off : Nat) (f : Nat → Int) (h : Has w b (off + 8)) :
    storeN Try.prog 28 (.pointer (some ⟨b, off, none⟩)) (.agg (row 8 f)) w = .ok .skip (w.setRow b (lay (blk w b) off (row 8 f))) := storeN_at aggVec w b off _ h (row_size _ _) (row_cells _ _)
@[go_sem ↓] theorem buildVec (ρ : Operand → Value) (dst : Option Tmp) (ty : TypeId) (pos : String) (after : Array Edge) (guard : Option (Nat × Bool)) (w : World) :
    (execOp ρ ⟨dst, .build 28 #[], ty, pos, after, guard⟩).run Try.prog w = .ok (.value (.agg (row 8 zf))) w := by kernel_rfl
@[go_sem] theorem allocVec (w : World) : allocN Try.prog 28 w = .ok (.value (.pointer (some ⟨w.heap.size, 0, none⟩))) (w.alloc (.cells (row 8 zf) 28)) := allocN_eq _ (by kernel_rfl) w
@[go_sem ↓] theorem xindexVec (ρ : Operand → Value) (dst : Option Tmp) (a x : Operand) (ty : TypeId) (pos : String) (after : Array Edge) (guard : Option (Nat × Bool)) (w : World) :
    (execOp ρ ⟨dst, .index 28 a x, ty, pos, after, guard⟩).run Try.prog w = indexN Try.prog 28 (ρ a) (ρ x) w := rfl
theorem u8flat : (isAgg 5).run Try.prog default = .ok false default := by kernel_rfl
@[go_sem] theorem indexVec (f : Nat → Int) (k : IntKind) (i : Int) (h0 : 0 ≤ i) (h1 : i < 8) (w : World) :
    indexN Try.prog 28 (.agg (row 8 f)) (.int k i) w = .ok (.value (.int .u8 (f i.toNat))) w := indexN_one (n := 8) (e := 5) (by kernel_rfl) u8flat (by kernel_rfl) _ k i _ h0 h1 (row_get? _ _ _ (by omega)) w
theorem eqTVec (d : Nat) : EqT Try.prog (d + 2) 28 (8 * 1) := eqT_array (e := 5) (by kernel_rfl) aggVec (.inr (by kernel_rfl)) (eqT_int (k := .u8) (by kernel_rfl))
@[go_sem] theorem eqVec (f g : Nat → Int) (w : World) : (Op.equalIn 10000 28 (.agg (row 8 f)) (.agg (row 8 g))).run Try.prog w = .ok (segEq 0 8 f g) w :=
  eq_array (d := 9999) (e := 5) (n := 8) (m := 1) (by kernel_rfl) (.inr (by kernel_rfl)) (eqT_int (d := 9998) (k := .u8) (by kernel_rfl)) 8 f g (Nat.le_refl _) w
@[go_sem] theorem guardVec : Try.prog.eqGuardType Try.prog.depth 28 = false := by kernel_rfl

/-! ### Lin -/
theorem aggLin : AggT Try.prog 30 64 := ⟨by kernel_rfl, by kernel_rfl⟩
@[go_sem ↓] theorem xloadLin (ρ : Operand → Value) (dst : Option Tmp) (a : Operand) (ty : TypeId) (pos : String) (after : Array Edge) (guard : Option (Nat × Bool)) (w : World) :
    (execOp ρ ⟨dst, .load 30 a, ty, pos, after, guard⟩).run Try.prog w = loadN Try.prog 30 (ρ a) w := rfl
@[go_sem] theorem loadLin (w : World) (b off : Nat) (h : Has w b (off + 64)) :
    loadN Try.prog 30 (.pointer (some ⟨b, off, none⟩)) w = .ok (.value (.agg ((blk w b).extract off (off + 64)))) w := loadN_at aggLin w b off h
@[go_sem ↓] theorem xstoreLin (ρ : Operand → Value) (dst : Option Tmp) (a x : Operand) (ty : TypeId) (pos : String) (after : Array Edge) (guard : Option (Nat × Bool)) (w : World) :
    (execOp ρ ⟨dst, .store 30 a x, ty, pos, after, guard⟩).run Try.prog w = storeN Try.prog 30 (ρ a) (ρ x) w := rfl
@[go_sem ↓] theorem xallocLin (ρ : Operand → Value) (dst : Option Tmp) (ty : TypeId) (pos : String) (after : Array Edge) (guard : Option (Nat × Bool)) (w : World) :
    (execOp ρ ⟨dst, .alloc 30, ty, pos, after, guard⟩).run Try.prog w = allocN Try.prog 30 w := rfl
@[go_sem] theorem storeLin (w : World) (b off : Nat) (f : Nat → Int) (h : Has w b (off + 64)) :
    storeN Try.prog 30 (.pointer (some ⟨b, off, none⟩)) (.agg (row 64 f)) w = .ok .skip (w.setRow b (lay (blk w b) off (row 64 f))) := storeN_at aggLin w b off _ h (row_size _ _) (row_cells _ _)
@[go_sem ↓] theorem buildLin (ρ : Operand → Value) (dst : Option Tmp) (ty : TypeId) (pos : String) (after : Array Edge) (guard : Option (Nat × Bool)) (w : World) :
    (execOp ρ ⟨dst, .build 30 #[], ty, pos, after, guard⟩).run Try.prog w = .ok (.value (.agg (row 64 zf))) w := by kernel_rfl
@[go_sem] theorem allocLin (w : World) : allocN Try.prog 30 w = .ok (.value (.pointer (some ⟨w.heap.size, 0, none⟩))) (w.alloc (.cells (row 64 zf) 30)) := allocN_eq _ (by kernel_rfl) w
@[go_sem ↓] theorem xindexLin (ρ : Operand → Value) (dst : Option Tmp) (a x : Operand) (ty : TypeId) (pos : String) (after : Array Edge) (guard : Option (Nat × Bool)) (w : World) :
    (execOp ρ ⟨dst, .index 30 a x, ty, pos, after, guard⟩).run Try.prog w = indexN Try.prog 30 (ρ a) (ρ x) w := rfl
@[go_sem] theorem indexLin (cs : Array Value) (k : IntKind) (i : Int) (h0 : 0 ≤ i) (h1 : i < 8) (w : World) :
    indexN Try.prog 30 (.agg cs) (.int k i) w = .ok (.value (.agg (cs.extract (i.toNat * 8) (i.toNat * 8 + 8)))) w := indexN_agg (n := 8) (by kernel_rfl) aggVec cs k i h0 h1 w
theorem eqTLin (d : Nat) : EqT Try.prog (d + 3) 30 (8 * 8) := eqT_array (e := 28) (by kernel_rfl) aggLin (.inl aggVec) (eqTVec d)
@[go_sem] theorem eqLin (f g : Nat → Int) (w : World) : (Op.equalIn 10000 30 (.agg (row 64 f)) (.agg (row 64 g))).run Try.prog w = .ok (segEq 0 64 f g) w :=
  eq_array (d := 9999) (e := 28) (n := 8) (m := 8) (by kernel_rfl) (.inl aggVec) (eqTVec 9997) 64 f g (Nat.le_refl _) w
@[go_sem] theorem guardLin : Try.prog.eqGuardType Try.prog.depth 30 = false := by kernel_rfl

/-! ### Tab -/
theorem aggTab : AggT Try.prog 32 512 := ⟨by kernel_rfl, by kernel_rfl⟩
@[go_sem ↓] theorem xloadTab (ρ : Operand → Value) (dst : Option Tmp) (a : Operand) (ty : TypeId) (pos : String) (after : Array Edge) (guard : Option (Nat × Bool)) (w : World) :
    (execOp ρ ⟨dst, .load 32 a, ty, pos, after, guard⟩).run Try.prog w = loadN Try.prog 32 (ρ a) w := rfl
@[go_sem] theorem loadTab (w : World) (b off : Nat) (h : Has w b (off + 512)) :
    loadN Try.prog 32 (.pointer (some ⟨b, off, none⟩)) w = .ok (.value (.agg ((blk w b).extract off (off + 512)))) w := loadN_at aggTab w b off h
@[go_sem ↓] theorem xstoreTab (ρ : Operand → Value) (dst : Option Tmp) (a x : Operand) (ty : TypeId) (pos : String) (after : Array Edge) (guard : Option (Nat × Bool)) (w : World) :
    (execOp ρ ⟨dst, .store 32 a x, ty, pos, after, guard⟩).run Try.prog w = storeN Try.prog 32 (ρ a) (ρ x) w := rfl
@[go_sem ↓] theorem xallocTab (ρ : Operand → Value) (dst : Option Tmp) (ty : TypeId) (pos : String) (after : Array Edge) (guard : Option (Nat × Bool)) (w : World) :
    (execOp ρ ⟨dst, .alloc 32, ty, pos, after, guard⟩).run Try.prog w = allocN Try.prog 32 w := rfl
@[go_sem] theorem storeTab (w : World) (b off : Nat) (f : Nat → Int) (h : Has w b (off + 512)) :
    storeN Try.prog 32 (.pointer (some ⟨b, off, none⟩)) (.agg (row 512 f)) w = .ok .skip (w.setRow b (lay (blk w b) off (row 512 f))) := storeN_at aggTab w b off _ h (row_size _ _) (row_cells _ _)
@[go_sem ↓] theorem buildTab (ρ : Operand → Value) (dst : Option Tmp) (ty : TypeId) (pos : String) (after : Array Edge) (guard : Option (Nat × Bool)) (w : World) :
    (execOp ρ ⟨dst, .build 32 #[], ty, pos, after, guard⟩).run Try.prog w = .ok (.value (.agg (row 512 zf))) w := by kernel_rfl
@[go_sem] theorem allocTab (w : World) : allocN Try.prog 32 w = .ok (.value (.pointer (some ⟨w.heap.size, 0, none⟩))) (w.alloc (.cells (row 512 zf) 32)) := allocN_eq _ (by kernel_rfl) w
@[go_sem ↓] theorem xindexTab (ρ : Operand → Value) (dst : Option Tmp) (a x : Operand) (ty : TypeId) (pos : String) (after : Array Edge) (guard : Option (Nat × Bool)) (w : World) :
    (execOp ρ ⟨dst, .index 32 a x, ty, pos, after, guard⟩).run Try.prog w = indexN Try.prog 32 (ρ a) (ρ x) w := rfl
@[go_sem] theorem indexTab (cs : Array Value) (k : IntKind) (i : Int) (h0 : 0 ≤ i) (h1 : i < 8) (w : World) :
    indexN Try.prog 32 (.agg cs) (.int k i) w = .ok (.value (.agg (cs.extract (i.toNat * 64) (i.toNat * 64 + 64)))) w := indexN_agg (n := 8) (by kernel_rfl) aggLin cs k i h0 h1 w
theorem eqTTab (d : Nat) : EqT Try.prog (d + 4) 32 (8 * 64) := eqT_array (e := 30) (by kernel_rfl) aggTab (.inl aggLin) (eqTLin d)
@[go_sem] theorem eqTab (f g : Nat → Int) (w : World) : (Op.equalIn 10000 32 (.agg (row 512 f)) (.agg (row 512 g))).run Try.prog w = .ok (segEq 0 512 f g) w :=
  eq_array (d := 9999) (e := 30) (n := 8) (m := 64) (by kernel_rfl) (.inl aggLin) (eqTLin 9996) 512 f g (Nat.le_refl _) w
@[go_sem] theorem guardTab : Try.prog.eqGuardType Try.prog.depth 32 = false := by kernel_rfl

/-! ### V8 -/
theorem aggV8 : AggT Try.prog 22 8 := ⟨by kernel_rfl, by kernel_rfl⟩
@[go_sem ↓] theorem xloadV8 (ρ : Operand → Value) (dst : Option Tmp) (a : Operand) (ty : TypeId) (pos : String) (after : Array Edge) (guard : Option (Nat × Bool)) (w : World) :
    (execOp ρ ⟨dst, .load 22 a, ty, pos, after, guard⟩).run Try.prog w = loadN Try.prog 22 (ρ a) w := rfl
@[go_sem] theorem loadV8 (w : World) (b off : Nat) (h : Has w b (off + 8)) :
    loadN Try.prog 22 (.pointer (some ⟨b, off, none⟩)) w = .ok (.value (.agg ((blk w b).extract off (off + 8)))) w := loadN_at aggV8 w b off h
@[go_sem ↓] theorem xstoreV8 (ρ : Operand → Value) (dst : Option Tmp) (a x : Operand) (ty : TypeId) (pos : String) (after : Array Edge) (guard : Option (Nat × Bool)) (w : World) :
    (execOp ρ ⟨dst, .store 22 a x, ty, pos, after, guard⟩).run Try.prog w = storeN Try.prog 22 (ρ a) (ρ x) w := rfl
@[go_sem ↓] theorem xallocV8 (ρ : Operand → Value) (dst : Option Tmp) (ty : TypeId) (pos : String) (after : Array Edge) (guard : Option (Nat × Bool)) (w : World) :
    (execOp ρ ⟨dst, .alloc 22, ty, pos, after, guard⟩).run Try.prog w = allocN Try.prog 22 w := rfl
@[go_sem] theorem storeV8 (w : World) (b off : Nat) (f : Nat → Int) (h : Has w b (off + 8)) :
    storeN Try.prog 22 (.pointer (some ⟨b, off, none⟩)) (.agg (row 8 f)) w = .ok .skip (w.setRow b (lay (blk w b) off (row 8 f))) := storeN_at aggV8 w b off _ h (row_size _ _) (row_cells _ _)
@[go_sem] theorem allocV8 (w : World) : allocN Try.prog 22 w = .ok (.value (.pointer (some ⟨w.heap.size, 0, none⟩))) (w.alloc (.cells (row 8 zf) 22)) := allocN_eq _ (by kernel_rfl) w

/-! ### L8 -/
theorem aggL8 : AggT Try.prog 23 64 := ⟨by kernel_rfl, by kernel_rfl⟩
@[go_sem ↓] theorem xloadL8 (ρ : Operand → Value) (dst : Option Tmp) (a : Operand) (ty : TypeId) (pos : String) (after : Array Edge) (guard : Option (Nat × Bool)) (w : World) :
    (execOp ρ ⟨dst, .load 23 a, ty, pos, after, guard⟩).run Try.prog w = loadN Try.prog 23 (ρ a) w := rfl
@[go_sem] theorem loadL8 (w : World) (b off : Nat) (h : Has w b (off + 64)) :
    loadN Try.prog 23 (.pointer (some ⟨b, off, none⟩)) w = .ok (.value (.agg ((blk w b).extract off (off + 64)))) w := loadN_at aggL8 w b off h
@[go_sem ↓] theorem xstoreL8 (ρ : Operand → Value) (dst : Option Tmp) (a x : Operand) (ty : TypeId) (pos : String) (after : Array Edge) (guard : Option (Nat × Bool)) (w : World) :
    (execOp ρ ⟨dst, .store 23 a x, ty, pos, after, guard⟩).run Try.prog w = storeN Try.prog 23 (ρ a) (ρ x) w := rfl
@[go_sem ↓] theorem xallocL8 (ρ : Operand → Value) (dst : Option Tmp) (ty : TypeId) (pos : String) (after : Array Edge) (guard : Option (Nat × Bool)) (w : World) :
    (execOp ρ ⟨dst, .alloc 23, ty, pos, after, guard⟩).run Try.prog w = allocN Try.prog 23 w := rfl
@[go_sem] theorem storeL8 (w : World) (b off : Nat) (f : Nat → Int) (h : Has w b (off + 64)) :
    storeN Try.prog 23 (.pointer (some ⟨b, off, none⟩)) (.agg (row 64 f)) w = .ok .skip (w.setRow b (lay (blk w b) off (row 64 f))) := storeN_at aggL8 w b off _ h (row_size _ _) (row_cells _ _)
@[go_sem] theorem allocL8 (w : World) : allocN Try.prog 23 w = .ok (.value (.pointer (some ⟨w.heap.size, 0, none⟩))) (w.alloc (.cells (row 64 zf) 23)) := allocN_eq _ (by kernel_rfl) w

/-! ### T8 -/
theorem aggT8 : AggT Try.prog 24 512 := ⟨by kernel_rfl, by kernel_rfl⟩
@[go_sem ↓] theorem xloadT8 (ρ : Operand → Value) (dst : Option Tmp) (a : Operand) (ty : TypeId) (pos : String) (after : Array Edge) (guard : Option (Nat × Bool)) (w : World) :
    (execOp ρ ⟨dst, .load 24 a, ty, pos, after, guard⟩).run Try.prog w = loadN Try.prog 24 (ρ a) w := rfl
@[go_sem] theorem loadT8 (w : World) (b off : Nat) (h : Has w b (off + 512)) :
    loadN Try.prog 24 (.pointer (some ⟨b, off, none⟩)) w = .ok (.value (.agg ((blk w b).extract off (off + 512)))) w := loadN_at aggT8 w b off h
@[go_sem ↓] theorem xstoreT8 (ρ : Operand → Value) (dst : Option Tmp) (a x : Operand) (ty : TypeId) (pos : String) (after : Array Edge) (guard : Option (Nat × Bool)) (w : World) :
    (execOp ρ ⟨dst, .store 24 a x, ty, pos, after, guard⟩).run Try.prog w = storeN Try.prog 24 (ρ a) (ρ x) w := rfl
@[go_sem ↓] theorem xallocT8 (ρ : Operand → Value) (dst : Option Tmp) (ty : TypeId) (pos : String) (after : Array Edge) (guard : Option (Nat × Bool)) (w : World) :
    (execOp ρ ⟨dst, .alloc 24, ty, pos, after, guard⟩).run Try.prog w = allocN Try.prog 24 w := rfl
@[go_sem] theorem storeT8 (w : World) (b off : Nat) (f : Nat → Int) (h : Has w b (off + 512)) :
    storeN Try.prog 24 (.pointer (some ⟨b, off, none⟩)) (.agg (row 512 f)) w = .ok .skip (w.setRow b (lay (blk w b) off (row 512 f))) := storeN_at aggT8 w b off _ h (row_size _ _) (row_cells _ _)
@[go_sem] theorem allocT8 (w : World) : allocN Try.prog 24 w = .ok (.value (.pointer (some ⟨w.heap.size, 0, none⟩))) (w.alloc (.cells (row 512 zf) 24)) := allocN_eq _ (by kernel_rfl) w
end Go.Proofs.Ytnjjcimpcnennaa
