/- Rows of bytes as values and as cells; laws on them over any program. The laws of YtjmmmggnbndolaaGreatArr at this program's types. Sums and products modulo p: plain mathematics, nothing of the program. Algebras as values and as cells: the prime, the size, and 520 bytes. -/
import Derived.Test.YtjmmmggnbndolaaGreatRows
import Derived.WalkKit
import Derived.WalkSpells
import Derived.WalkLawsBesides
import Derived.Lib.Hide
import Derived.Deep.WholeRow
namespace Go.Proofs.YtjmmmggnbndolaaGreat
section
open Go.RowKit

/-- n bytes as values -/
def row (n : Nat) (f : Nat → Int) : Array Value := Array.ofFn (n := n) fun i => Value.int .u8 (f i)

theorem row_size (n : Nat) (f : Nat → Int) : (row n f).size = n := by simp [row]
theorem row_get? (n : Nat) (f : Nat → Int) (i : Nat) (h : i < n) : (row n f)[i]? = some (.int .u8 (f i)) := by
  simp [row, h]
theorem row_get_none (n : Nat) (f : Nat → Int) (i : Nat) (h : n ≤ i) : (row n f)[i]? = none := by
  simp [row]; omega
theorem row_congr {n : Nat} {f g : Nat → Int} (h : ∀ i, i < n → f i = g i) : row n f = row n g := by
  apply Array.ext_getElem?
  intro i
  by_cases hi : i < n
  · rw [row_get? n f i hi, row_get? n g i hi, h i hi]
  · rw [row_get_none n f i (by omega), row_get_none n g i (by omega)]
theorem row_inj {n : Nat} {f g : Nat → Int} (h : row n f = row n g) (i : Nat) (hi : i < n) : f i = g i := by
  have := row_get? n f i hi
  rw [h, row_get? n g i hi] at this
  simpa using this.symm
theorem row_extract (n : Nat) (f : Nat → Int) (a b : Nat) (h : b ≤ n) : (row n f).extract a b = row (b - a) fun i => f (a + i) := by
  apply Array.ext_getElem?
  intro i
  rw [Array.getElem?_extract]
  by_cases hi : i < b - a
  · rw [row_get? _ _ i hi, if_pos (by rw [row_size]; omega), row_get? n f (a + i) (by omega)]
  · rw [row_get_none _ _ i (by omega), if_neg (by rw [row_size]; omega)]
/-- f with y at i -/
def upd (f : Nat → Int) (i : Nat) (y : Int) : Nat → Int := fun j => if j = i then y else f j
theorem row_set (n : Nat) (f : Nat → Int) (i : Nat) (y : Int) : (row n f).setIfInBounds i (.int .u8 y) = row n (upd f i y) := by
  apply Array.ext_getElem?
  intro j
  rw [Array.getElem?_setIfInBounds]
  by_cases e : i = j
  · subst e
    by_cases hj : i < n
    · rw [row_get? n (upd f i y) i hj, if_pos rfl, if_pos (by rw [row_size]; exact hj)]; simp [upd]
    · rw [row_get_none n (upd f i y) i (by omega), if_pos rfl, if_neg (by rw [row_size]; exact hj)]
  · by_cases hj : j < n
    · rw [if_neg e, row_get? n f j hj, row_get? n _ j hj]; simp [upd, Ne.symm e]
    · rw [if_neg e, row_get_none n f j (by omega), row_get_none n _ j (by omega)]
theorem row_cells (n : Nat) (f : Nat → Int) : (row n f).all (·.oneCell') = true := by
  rw [Array.all_eq_true]
  intro i hi
  simp [row, Value.oneCell']

/-! ### blocks of a world -/
/-- the cells of block b (none: empty) -/
def blk (w : World) (b : Nat) : Array Value := match w.heap[b]? with | some (.cells c _ _) => c | _ => #[]
/-- block b is a row of at least n cells, none of which is frozen -/
def Has (w : World) (b n : Nat) : Prop := ∃ c t, w.heap[b]? = some (.cells c t (0, 0)) ∧ n ≤ c.size

theorem blk_new (w : World) (c : Array Value) (t : TypeId) : blk (w.alloc (.cells c t)) w.heap.size = c := by
  unfold blk; rw [heap_alloc_last]
theorem blk_old (w : World) (o : Obj) (b : Nat) (h : b < w.heap.size) : blk (w.alloc o) b = blk w b := by
  unfold blk; rw [Below.heap_alloc w o b h]
theorem has_new (w : World) (c : Array Value) (t : TypeId) (n : Nat) (h : n ≤ c.size) : Has (w.alloc (.cells c t)) w.heap.size n :=
  ⟨c, t, heap_alloc_last _ _, h⟩
theorem has_old (w : World) (o : Obj) (b n : Nat) (h : Has w b n) : Has (w.alloc o) b n := by
  obtain ⟨c, t, hb, hn⟩ := h
  exact ⟨c, t, by rw [Below.heap_alloc w o b (by rw [Array.getElem?_eq_some_iff] at hb; exact hb.1)]; exact hb, hn⟩
theorem has_lt {w : World} {b n : Nat} (h : Has w b n) : b < w.heap.size := by
  obtain ⟨c, t, hb, _⟩ := h
  rw [Array.getElem?_eq_some_iff] at hb; exact hb.1
theorem has_blk {w : World} {b n : Nat} (h : Has w b n) : ∃ t, w.heap[b]? = some (.cells (blk w b) t (0, 0)) ∧ n ≤ (blk w b).size := by
  obtain ⟨c, t, hb, hn⟩ := h
  refine ⟨t, ?_, ?_⟩ <;> (unfold blk; rw [hb]) <;> exact hn

/-- type T is an array or a struct of m cells -/
def AggT (P : Program) (T m : Nat) : Prop := (isAgg T).run P default = .ok true default ∧ (P.info? T).map (·.size) = some m

section
variable {P : Program}
theorem run_isAgg_any {T m : Nat} (h : AggT P T m) (w : World) : (isAgg T).run P w = .ok true w := by
  have h1 := h.1
  unfold isAgg at h1 ⊢
  cases hu : P.underlying T with
  | none => simp [underlying, hu] at h1
  | some d =>
    rw [Sem.run_bind, run_underlying hu, Result.andThen] at h1 ⊢
    cases d <;> simp at h1 ⊢
theorem run_sizeOf_any {T m : Nat} (h : AggT P T m) (w : World) : (sizeOf T).run P w = .ok m w := by
  have h2 := h.2
  cases hq : P.info? T with
  | none => simp [hq] at h2
  | some i => simp [hq] at h2; simp [sizeOf, typeInfo, hq, h2]
theorem run_loadCells_blk (w : World) (b off m : Nat) (h : Has w b (off + m)) :
    (loadCells ⟨b, off, none⟩ m).run P w = .ok ((blk w b).extract off (off + m)) w := by
  obtain ⟨t, hb, hn⟩ := has_blk h
  have := run_loadCells_list (P := P) w ⟨b, off, none⟩ ((blk w b).extract off (off + m)).toList (fun j v hv => by
    rw [Addr.add_lit, cell_of_row _ _ _ _ _ _ hb]
    have hv' : ((blk w b).extract off (off + m))[j]? = some v := by rw [Array.getElem?_toList] at hv; exact hv
    rw [Array.getElem?_extract] at hv'
    split at hv'
    · exact hv'
    · cases hv')
  have hl : ((blk w b).extract off (off + m)).toList.length = m := by
    rw [Array.length_toList, Array.size_extract]; omega
  rw [hl, Array.toArray_toList] at this
  exact this
theorem run_loadVar_blk {T m : Nat} (hT : AggT P T m) (w : World) (b off : Nat) (h : Has w b (off + m)) :
    (loadVar T ⟨b, off, none⟩).run P w = .ok (.agg ((blk w b).extract off (off + m))) w := by
  unfold loadVar
  rw [Sem.run_bind, run_isAgg_any hT, Result.andThen]
  simp only [↓reduceIte]
  rw [Sem.run_bind, run_sizeOf_any hT, Result.andThen, Sem.run_bind, run_loadCells_blk w b off m h, Result.andThen]
  rfl
end

/-! ### the operations on whole arrays as the walk meets them -/
/-- 'load' of a whole array or struct -/
def loadN (P : Program) (T : TypeId) (v : Value) (w : World) : Result Next := (do pure (Next.value (← Instr.loadAt T v)) : Sem Next).run P w
theorem exec_load {P : Program} (T : TypeId) (ρ : Operand → Value) (dst : Option Tmp) (a : Operand) (ty : TypeId) (pos : String) (after : Array Edge) (guard : Option (Nat × Bool)) (w : World) :
    (execOp ρ ⟨dst, .load T a, ty, pos, after, guard⟩).run P w = loadN P T (ρ a) w := rfl
theorem loadN_at {P : Program} {T m : Nat} (hT : AggT P T m) (w : World) (b off : Nat) (h : Has w b (off + m)) :
    loadN P T (.pointer (some ⟨b, off, none⟩)) w = .ok (.value (.agg ((blk w b).extract off (off + m)))) w := by
  unfold loadN Instr.loadAt Instr.sureAddr
  rw [Sem.run_bind, Sem.run_bind, Sem.run_pure, Result.andThen, run_loadVar_blk hT w b off h, Result.andThen, Sem.run_pure]

/-- 'store' of a whole array or struct -/
def storeN (P : Program) (T : TypeId) (v x : Value) (w : World) : Result Next := (do Instr.storeAt T v x; pure Next.skip : Sem Next).run P w
theorem exec_store {P : Program} (T : TypeId) (ρ : Operand → Value) (dst : Option Tmp) (a x : Operand) (ty : TypeId) (pos : String) (after : Array Edge) (guard : Option (Nat × Bool)) (w : World) :
    (execOp ρ ⟨dst, .store T a x, ty, pos, after, guard⟩).run P w = storeN P T (ρ a) (ρ x) w := rfl
/-- the cells cs laid over cur from off on -/
def lay (cur : Array Value) (off : Nat) (cs : Array Value) : Array Value := (cur.toList.take off ++ cs.toList ++ cur.toList.drop (off + cs.size)).toArray
theorem storeN_at {P : Program} {T m : Nat} (hT : AggT P T m) (w : World) (b off : Nat) (cs : Array Value) (h : Has w b (off + m)) (hc : cs.size = m) (h1 : cs.all (·.oneCell') = true) :
    storeN P T (.pointer (some ⟨b, off, none⟩)) (.agg cs) w = .ok .skip (w.setRow b (lay (blk w b) off cs)) := by
  obtain ⟨t, hb, hn⟩ := has_blk h
  have hst := run_storeCells_at (P := P) b off t cs.toList 0 (blk w b) w hb (by simp; omega) (fun v hv => (Array.all_eq_true_iff_forall_mem.1 h1) v (by simpa using hv))
  unfold storeN Instr.storeAt Instr.sureAddr storeVar
  have hcs : (Value.agg cs).cells = cs := rfl
  rw [Sem.run_bind, Sem.run_bind, Sem.run_pure, Result.andThen, Sem.run_bind, run_sizeOf_any hT, Result.andThen, hcs, if_neg (by simp [hc])]
  simp only [Nat.add_zero] at hst ⊢
  rw [hst, Result.andThen, Sem.run_pure]
  simp [lay]

/-- a new array or struct of zeros -/
def allocN (P : Program) (T : TypeId) (w : World) : Result Next := (do pure (Next.value (← Instr.alloc T true (.tuple #[]))) : Sem Next).run P w
theorem exec_alloc {P : Program} (T : TypeId) (ρ : Operand → Value) (dst : Option Tmp) (ty : TypeId) (pos : String) (after : Array Edge) (guard : Option (Nat × Bool)) (w : World) :
    (execOp ρ ⟨dst, .alloc T, ty, pos, after, guard⟩).run P w = allocN P T w := rfl
theorem allocN_eq {P : Program} {T : Nat} (c : Array Value) (hz : (P.info? T).map (·.zero) = some (some (.agg c))) (w : World) :
    allocN P T w = .ok (.value (.pointer (some ⟨w.heap.size, 0, none⟩))) (w.alloc (.cells c T)) := by
  cases hq : P.info? T with
  | none => simp [hq] at hz
  | some i =>
    simp [hq] at hz
    simp [allocN, Instr.alloc, zeroValue, typeInfo, hq, hz, newVar, newRow, Value.cells]

/-- 'index' of an array value -/
def indexN (P : Program) (T : TypeId) (v i : Value) (w : World) : Result Next := (do pure (Next.value (← Instr.index T v i)) : Sem Next).run P w
theorem exec_index {P : Program} (T : TypeId) (ρ : Operand → Value) (dst : Option Tmp) (a x : Operand) (ty : TypeId) (pos : String) (after : Array Edge) (guard : Option (Nat × Bool)) (w : World) :
    (execOp ρ ⟨dst, .index T a x, ty, pos, after, guard⟩).run P w = indexN P T (ρ a) (ρ x) w := rfl
theorem indexN_agg {P : Program} {T n e m : Nat} (hT : P.underlying T = some (.array n e)) (he : AggT P e m) (cs : Array Value) (k : IntKind) (i : Int) (h0 : 0 ≤ i) (h1 : i < n) (w : World) :
    indexN P T (.agg cs) (.int k i) w = .ok (.value (.agg (cs.extract (i.toNat * m) (i.toNat * m + m)))) w := by
  simp [indexN, Instr.index, asIntOf, run_underlying hT, h0, h1, run_sizeOf_any he, part, run_isAgg_any he]
theorem indexN_one {P : Program} {T n e : Nat} (hT : P.underlying T = some (.array n e)) (ha : (isAgg e).run P default = .ok false default) (hs : (P.info? e).map (·.size) = some 1) (cs : Array Value) (k : IntKind) (i : Int) (x : Value) (h0 : 0 ≤ i) (h1 : i < n)
    (hx : cs[i.toNat]? = some x) (w : World) : indexN P T (.agg cs) (.int k i) w = .ok (.value x) w := by
  have ha' : (isAgg e).run P w = .ok false w := by
    unfold isAgg at ha ⊢
    cases hu : P.underlying e with
    | none => simp [underlying, hu] at ha
    | some d =>
      rw [Sem.run_bind, run_underlying hu, Result.andThen] at ha ⊢
      cases d <;> simp at ha ⊢
  have hs' : (sizeOf e).run P w = .ok 1 w := by
    cases hq : P.info? e with
    | none => simp [hq] at hs
    | some i => simp [hq] at hs; simp [sizeOf, typeInfo, hq, hs]
  simp [indexN, Instr.index, asIntOf, run_underlying hT, h0, h1, hs', part, ha', hx]

/-! ### equality of rows -/
/-- f and g agree on m entries from off on -/
def segEq (off m : Nat) (f g : Nat → Int) : Bool := (List.range m).all fun i => f (off + i) == g (off + i)
theorem segEq_iff (off m : Nat) (f g : Nat → Int) : segEq off m f g = true ↔ ∀ i, i < m → f (off + i) = g (off + i) := by
  simp [segEq]
theorem segEq_part (off n m : Nat) (f g : Nat → Int) : ((List.range n).all fun i => segEq (off + i * m) m f g) = segEq off (n * m) f g := by
  rw [Bool.eq_iff_iff, segEq_iff]
  simp only [List.all_eq_true, List.mem_range, segEq_iff]
  constructor
  · intro h i hi
    have hm : 0 < m := by
      rcases Nat.eq_zero_or_pos m with h0 | h0
      · subst h0; simp at hi
      · exact h0
    have h1 : i / m < n := by rw [Nat.div_lt_iff_lt_mul hm]; exact hi
    have h2 := h (i / m) h1 (i % m) (Nat.mod_lt _ hm)
    have e : i / m * m + i % m = i := by rw [Nat.mul_comm]; exact Nat.div_add_mod i m
    rw [show off + i / m * m + i % m = off + i by omega] at h2
    exact h2
  · intro h i hi j hj
    have : i * m + j < n * m := by
      have : (i + 1) * m ≤ n * m := Nat.mul_le_mul_right m hi
      rw [Nat.add_mul] at this
      omega
    have := h (i * m + j) this
    rw [show off + i * m + j = off + (i * m + j) by omega]
    exact this
/-- the parts of type T of two rows are held against each other byte by byte -/
def EqT (P : Program) (d T m : Nat) : Prop := ∀ (N : Nat) (f g : Nat → Int) (off : Nat) (w : World), off + m ≤ N →
  ((part T (row N f) off).run P w).andThen (fun a w => ((part T (row N g) off).run P w).andThen fun b w => (Op.equalIn d T a b).run P w) = .ok (segEq off m f g) w
theorem eqT_int {P : Program} {d T : Nat} {k : IntKind} (hu : P.underlying T = some (.int k)) : EqT P (d + 1) T 1 := by
  intro N f g off w h
  have ha : (isAgg T).run P w = .ok false w := by
    unfold isAgg; rw [Sem.run_bind, run_underlying hu, Result.andThen]; rfl
  simp [part, ha, row_get? N f off (by omega), row_get? N g off (by omega), run_equalIn_int w d T .u8 k (f off) (g off) hu, segEq]
theorem eq_array {P : Program} {d e m n T : Nat} (hu : P.underlying T = some (.array n e)) (hs : AggT P e m ∨ (P.info? e).map (·.size) = some m) (he : EqT P d e m) (N : Nat) (f g : Nat → Int) (h : n * m ≤ N) (w : World) :
    (Op.equalIn (d + 1) T (.agg (row N f)) (.agg (row N g))).run P w = .ok (segEq 0 (n * m) f g) w := by
  have hs' : (sizeOf e).run P w = .ok m w := by
    have hs2 : (P.info? e).map (·.size) = some m := hs.elim (fun x => x.2) id
    cases hq : P.info? e with
    | none => simp [hq] at hs2
    | some i => simp [hq] at hs2; simp [sizeOf, typeInfo, hq, hs2]
  simp only [Op.equalIn, Sem.run_bind, run_underlying hu, Result.andThen_ok, hs']
  have gen : ∀ (l : List Nat), (∀ i ∈ l, i < n) →
      (forIn l ((none, ()) : Option Bool × Unit) fun i (_ : Option Bool × Unit) => (do
          let a ← part e (row N f) (i * m)
          let b ← part e (row N g) (i * m)
          let c ← Op.equalIn d e a b
          if (!c) = true then pure (ForInStep.done (some false, ())) else pure (ForInStep.yield (none, ())) : Sem (ForInStep (Option Bool × Unit)))).run P w =
        .ok (if l.all (fun i => segEq (0 + i * m) m f g) then none else some false, ()) w := by
    intro l hl
    induction l with
    | nil => simp
    | cons i l ih =>
      have hi : i * m + m ≤ N := by
        have h1 : (i + 1) * m ≤ n * m := Nat.mul_le_mul_right m (hl i (by simp))
        rw [Nat.add_mul] at h1
        omega
      have h1 := he N f g (i * m) w hi
      have h2 := ih (fun j hj => hl j (by simp [hj]))
      have hz : 0 + i * m = i * m := Nat.zero_add _
      simp only [List.forIn_cons, Sem.run_bind] at h1 ⊢
      cases hq : (part e (row N f) (i * m)).run P w with
      | halt x w1 => rw [hq] at h1; cases h1
      | ok a w1 =>
        rw [hq] at h1
        simp only [Result.andThen_ok] at h1 ⊢
        cases hq2 : (part e (row N g) (i * m)).run P w1 with
        | halt x w2 => rw [hq2] at h1; cases h1
        | ok b w2 =>
          rw [hq2] at h1
          simp only [Result.andThen_ok] at h1 ⊢
          rw [h1]
          simp only [Result.andThen_ok, List.all_cons, hz]
          cases hc : segEq (i * m) m f g
          · simp
          · simpa using h2
  have h3 := gen (List.range' 0 n) (fun i hi => by simpa using hi)
  rw [Std.Legacy.Range.forIn_eq_forIn_range']
  have hsz : (Std.Legacy.Range.size [:n]) = n := by simp [Std.Legacy.Range.size]
  simp only [hsz]
  rw [h3]
  simp only [Result.andThen_ok]
  rw [← segEq_part 0 n m f g, List.range_eq_range']
  cases (List.range' 0 n).all (fun i => segEq (0 + i * m) m f g) <;> simp
theorem eqT_array {P : Program} {d e m n T : Nat} (hu : P.underlying T = some (.array n e)) (hT : AggT P T (n * m)) (hs : AggT P e m ∨ (P.info? e).map (·.size) = some m) (he : EqT P d e m) : EqT P (d + 1) T (n * m) := by
  intro N f g off w h
  simp only [part, Sem.run_bind, run_isAgg_any hT, run_sizeOf_any hT, Result.andThen_ok, ↓reduceIte, Sem.run_pure]
  rw [row_extract N f off (off + n * m) h, row_extract N g off (off + n * m) h, eq_array hu hs he _ _ _ (by omega) w]
  simp [segEq]

/-! ### results that lie in memory -/
theorem result_cell {fn : Func} {p : Tmp} {T m : Nat} {P : Program} (h : fn.results = #[.cell p T]) (hT : AggT P T m) (tmps : Array Value) (b : Nat) (cs : Array Value) (w : World) (hp : tmps.getD p undef = .pointer (some ⟨b, 0, none⟩)) (hB : Has w b (0 + m)) (hc : (blk w b).extract 0 (0 + m) = cs) :
    (results fn tmps).run P w = .ok (.agg cs) w := by
  have h1 := run_loadVar_blk hT w b 0 hB
  rw [hc] at h1
  simp only [Array.getD_eq_getD_getElem?] at hp
  simp [results, h, hp, asAddr, h1]
theorem result_cell_tmp {fn : Func} {p u : Tmp} {T m : Nat} {P : Program} (h : fn.results = #[.cell p T, .tmp u]) (hT : AggT P T m) (tmps : Array Value) (b : Nat) (cs : Array Value) (v : Value) (w : World) (hp : tmps.getD p undef = .pointer (some ⟨b, 0, none⟩)) (hv : tmps.getD u undef = v) (hB : Has w b (0 + m)) (hc : (blk w b).extract 0 (0 + m) = cs) :
    (results fn tmps).run P w = .ok (.tuple #[.agg cs, v]) w := by
  have h1 := run_loadVar_blk hT w b 0 hB
  rw [hc] at h1
  rw [results_cell_tmp h, hp]
  simp [asAddr, h1, ← hv]
end
section
open Go.RowKit
set_option linter.unusedSimpArgs false
set_option linter.unusedVariables false

/-- numbers of blocks are held apart -/
@[go_sem] theorem nat_self1 (a b : Nat) : (a = a + b) ↔ b = 0 := by omega
@[go_sem] theorem nat_self2 (a b c : Nat) : (a = a + b + c) ↔ (b = 0 ∧ c = 0) := by omega
@[go_sem] theorem nat_self3 (a b c d : Nat) : (a = a + b + c + d) ↔ (b = 0 ∧ c = 0 ∧ d = 0) := by omega
@[go_sem] theorem nat_self4 (a b c d e : Nat) : (a = a + b + c + d + e) ↔ (b = 0 ∧ c = 0 ∧ d = 0 ∧ e = 0) := by omega
@[go_sem] theorem nat_self5 (a b c d e f : Nat) : (a = a + b + c + d + e + f) ↔ (b = 0 ∧ c = 0 ∧ d = 0 ∧ e = 0 ∧ f = 0) := by omega
/-- zeros -/
def zf : Nat → Int := fun _ => 0

attribute [go_sem] row_get? row_set row_size setRow_setRow
@[go_sem] theorem row_getElem (n : Nat) (f : Nat → Int) (i : Nat) (h : i < (row n f).size) : (row n f)[i] = .int .u8 (f i) := by
  simp [row]

theorem blk_at (w : World) (c : Array Value) (t : TypeId) (b : Nat) (h : b = w.heap.size) : blk (w.alloc (.cells c t)) b = c := by subst h; exact blk_new w c t
theorem heap_alloc_past (w : World) (o : Obj) (b : Nat) (h : b ≠ w.heap.size) : (w.alloc o).heap[b]? = w.heap[b]? := by
  show (w.heap.push o)[b]? = _
  rw [Array.getElem?_push, if_neg h]
@[go_sem] theorem blk_alloc (w : World) (c : Array Value) (t : TypeId) (b : Nat) : blk (w.alloc (.cells c t)) b = if b = w.heap.size then c else blk w b := by
  split
  · rename_i h; exact blk_at w c t b h
  · rename_i h; unfold blk; rw [heap_alloc_past w _ b h]
@[go_sem] theorem blk_drew (w : World) (b : Nat) : blk w.drew b = blk w b := rfl
/-- block b is a row of cells, none of which is frozen -/
def IsRow (w : World) (b : Nat) : Prop := ∃ c t, w.heap[b]? = some (.cells c t (0, 0))
@[go_sem] theorem has_iff (w : World) (b n : Nat) : Has w b n ↔ IsRow w b ∧ n ≤ (blk w b).size := by
  constructor
  · intro h
    obtain ⟨t, h1, h2⟩ := has_blk h
    exact ⟨⟨_, t, h1⟩, h2⟩
  · rintro ⟨⟨c, t, h1⟩, h2⟩
    refine ⟨c, t, h1, ?_⟩
    unfold blk at h2
    rw [h1] at h2
    exact h2
theorem isRow_lt {w : World} {b : Nat} (h : IsRow w b) : b < w.heap.size := by
  obtain ⟨c, t, h⟩ := h
  rw [Array.getElem?_eq_some_iff] at h; exact h.1
theorem isRow_heap {w : World} {b : Nat} (h : IsRow w b) : ∃ t, w.heap[b]? = some (.cells (blk w b) t (0, 0)) := by
  obtain ⟨c, t, h⟩ := h
  refine ⟨t, ?_⟩
  unfold blk; rw [h]
@[go_sem] theorem isRow_alloc (w : World) (c : Array Value) (t : TypeId) (b : Nat) : IsRow (w.alloc (.cells c t)) b ↔ (b = w.heap.size ∨ IsRow w b) := by
  by_cases h : b = w.heap.size
  · subst h
    simp only [true_or, iff_true]
    exact ⟨c, t, heap_alloc_last _ _⟩
  · simp only [h, false_or]
    unfold IsRow; rw [heap_alloc_past w _ b h]
@[go_sem] theorem isRow_drew (w : World) (b : Nat) : IsRow w.drew b ↔ IsRow w b := Iff.rfl
@[go_sem] theorem isRow_setRow (w : World) (g b : Nat) (c : Array Value) : IsRow (w.setRow g c) b ↔ IsRow w b := by
  by_cases h : b = g
  · subst h
    unfold IsRow World.setRow
    simp only [Array.getElem?_modify, ↓reduceIte]
    cases hq : w.heap[b]? with
    | none => simp
    | some o => cases o <;> simp
  · unfold IsRow; rw [setRow_other w g b c h]
@[go_sem] theorem blk_setRow (w : World) (g b : Nat) (c : Array Value) (h : IsRow w g) : blk (w.setRow g c) b = if b = g then c else blk w b := by
  split
  · rename_i e; subst e
    obtain ⟨c0, t, h1⟩ := h
    unfold blk; rw [setRow_heap w b c0 c t _ h1]
  · rename_i e; unfold blk; rw [setRow_other w g b c e]
@[go_sem] theorem cell_blk (w : World) (b i : Nat) : w.cell? ⟨b, i, none⟩ = (blk w b)[i]? := by
  unfold World.cell? blk
  cases w.heap[b]? with
  | none => simp
  | some o => cases o <;> simp
@[go_sem] theorem frozen_row (w : World) (b i : Nat) (h : IsRow w b) : w.frozen? ⟨b, i, none⟩ = false := by
  obtain ⟨c, t, h⟩ := h
  simp [World.frozen?, h]
@[go_sem] theorem setCell_row (w : World) (b i : Nat) (v : Value) (h : IsRow w b) : w.setCell ⟨b, i, none⟩ v = w.setRow b ((blk w b).setIfInBounds i v) := by
  obtain ⟨t, h1⟩ := isRow_heap h
  exact setCell_eq_setRow w b i _ t (0, 0) v h1
theorem setRow_past (w : World) (o : Obj) (c' : Array Value) (b : Nat) (h : b ≠ w.heap.size) : (w.alloc o).setRow b c' = (w.setRow b c').alloc o := by
  unfold World.setRow World.alloc
  simp only [World.mk.injEq, and_self, and_true]
  apply Array.ext_getElem?
  intro i
  simp only [Array.getElem?_modify, Array.getElem?_push, Array.size_modify]
  by_cases hi : i = w.heap.size
  · subst hi
    simp [h]
  · simp [hi]
@[go_sem] theorem setRow_alloc (w : World) (c c' : Array Value) (t : TypeId) (b : Nat) : (w.alloc (.cells c t)).setRow b c' = if b = w.heap.size then w.alloc (.cells c' t) else (w.setRow b c').alloc (.cells c t) := by
  split
  · rename_i h; subst h; exact World.setRow_alloc_new w c c' t
  · rename_i h; exact setRow_past w _ c' b h
/-- a block below B is kept -/
theorem keepB {B b : Nat} {c : Array Value} {w w' : World} (hb : Below B w w') (hlt : b < B) (h : IsRow w b) (hc : blk w b = c) : IsRow w' b ∧ blk w' b = c := by
  have e := hb.block b hlt
  constructor
  · unfold IsRow; rw [e]; exact h
  · unfold blk at hc ⊢; rw [e]; exact hc
@[go_sem] theorem extract_all (n : Nat) (f : Nat → Int) : (row n f).extract 0 n = row n f := by
  rw [row_extract n f 0 n (Nat.le_refl _)]
  simp
@[go_sem] theorem row_part (n m a : Nat) (f : Nat → Int) (h : a + m ≤ n) : (row n f).extract a (a + m) = row m fun i => f (a + i) := by
  rw [row_extract n f a (a + m) h, Nat.add_sub_cancel_left]
theorem lay_row (n m off : Nat) (g f : Nat → Int) (h : off + m ≤ n) : lay (row n g) off (row m f) = row n fun i => if off ≤ i ∧ i < off + m then f (i - off) else g i := by
  apply Array.ext_getElem?
  intro i
  unfold lay
  rw [List.getElem?_toArray, List.getElem?_append, List.getElem?_append]
  simp only [List.length_append, List.length_take, Array.length_toList, row_size, List.getElem?_take, List.getElem?_drop, Array.getElem?_toList]
  by_cases h1 : i < off
  · rw [if_pos (by omega), if_pos (by omega), if_pos h1, row_get? n g i (by omega), row_get? n _ i (by omega), if_neg (by omega)]
  · by_cases h2 : i < off + m
    · rw [if_pos (by omega), if_neg (by omega), row_get? n _ i (by omega), if_pos (by omega), show i - min off n = i - off by omega, row_get? m f (i - off) (by omega)]
    · rw [if_neg (by omega)]
      by_cases h3 : i < n
      · rw [row_get? n _ i h3, if_neg (by omega), show off + m + (i - (min off n + m)) = i by omega, row_get? n g i h3]
      · rw [row_get_none n _ i (by omega), row_get_none n _ _ (by omega)]
@[go_sem] theorem lay_all (n : Nat) (g f : Nat → Int) : lay (row n g) 0 (row n f) = row n f := by
  rw [lay_row n n 0 g f (by omega)]
  exact row_congr fun i hi => by simp [hi]


/-! ### Vec -/
theorem row_zeros (n : Nat) : row n zf = (List.replicate n (Value.int .u8 0)).toArray := by
  apply Array.ext_getElem?
  intro i
  by_cases h : i < n
  · rw [row_get? n zf i h]; simp [h, zf]
  · rw [row_get_none n zf i (by omega)]; simp; omega
theorem zeros_gen (a b x : Value) (n : Nat) : #[a, b] ++ (List.replicate n x).toArray = ([a, b] ++ List.replicate n x).toArray := by simp
theorem aggVec : AggT Tryz.prog 32 8 := ⟨by kernel_rfl, by kernel_rfl⟩
@[go_sem ↓] theorem xloadVec (ρ : Operand → Value) (dst : Option Tmp) (a : Operand) (ty : TypeId) (pos : String) (after : Array Edge) (guard : Option (Nat × Bool)) (w : World) :
    (execOp ρ ⟨dst, .load 32 a, ty, pos, after, guard⟩).run Tryz.prog w = loadN Tryz.prog 32 (ρ a) w := rfl
@[go_sem] theorem loadVec (w : World) (b off : Nat) (h : Has w b (off + 8)) :
    loadN Tryz.prog 32 (.pointer (some ⟨b, off, none⟩)) w = .ok (.value (.agg ((blk w b).extract off (off + 8)))) w := loadN_at aggVec w b off h
@[go_sem ↓] theorem xstoreVec (ρ : Operand → Value) (dst : Option Tmp) (a x : Operand) (ty : TypeId) (pos : String) (after : Array Edge) (guard : Option (Nat × Bool)) (w : World) :
    (execOp ρ ⟨dst, .store 32 a x, ty, pos, after, guard⟩).run Tryz.prog w = storeN Tryz.prog 32 (ρ a) (ρ x) w := rfl
@[go_sem ↓] theorem xallocVec (ρ : Operand → Value) (dst : Option Tmp) (ty : TypeId) (pos : String) (after : Array Edge) (guard : Option (Nat × Bool)) (w : World) :
    (execOp ρ ⟨dst, .alloc 32, ty, pos, after, guard⟩).run Tryz.prog w = allocN Tryz.prog 32 w := rfl
@[go_sem] theorem storeVec (w : World) (b off : Nat) (f : Nat → Int) (h : Has w b (off + 8)) :
    storeN Tryz.prog 32 (.pointer (some ⟨b, off, none⟩)) (.agg (row 8 f)) w = .ok .skip (w.setRow b (lay (blk w b) off (row 8 f))) := storeN_at aggVec w b off _ h (row_size _ _) (row_cells _ _)
@[go_sem ↓] theorem buildVec (ρ : Operand → Value) (dst : Option Tmp) (ty : TypeId) (pos : String) (after : Array Edge) (guard : Option (Nat × Bool)) (w : World) :
    (execOp ρ ⟨dst, .build 32 #[], ty, pos, after, guard⟩).run Tryz.prog w = .ok (.value (.agg (row 8 zf))) w := by rw [row_zeros]; kernel_rfl
@[go_sem] theorem allocVec (w : World) : allocN Tryz.prog 32 w = .ok (.value (.pointer (some ⟨w.heap.size, 0, none⟩))) (w.alloc (.cells (row 8 zf) 32)) := allocN_eq _ (by rw [row_zeros]; kernel_rfl) w
@[go_sem ↓] theorem xindexVec (ρ : Operand → Value) (dst : Option Tmp) (a x : Operand) (ty : TypeId) (pos : String) (after : Array Edge) (guard : Option (Nat × Bool)) (w : World) :
    (execOp ρ ⟨dst, .index 32 a x, ty, pos, after, guard⟩).run Tryz.prog w = indexN Tryz.prog 32 (ρ a) (ρ x) w := rfl
theorem u8flat : (isAgg 5).run Tryz.prog default = .ok false default := by kernel_rfl
@[go_sem] theorem indexVec (f : Nat → Int) (k : IntKind) (i : Int) (h0 : 0 ≤ i) (h1 : i < 8) (w : World) :
    indexN Tryz.prog 32 (.agg (row 8 f)) (.int k i) w = .ok (.value (.int .u8 (f i.toNat))) w := indexN_one (n := 8) (e := 5) (by kernel_rfl) u8flat (by kernel_rfl) _ k i _ h0 h1 (row_get? _ _ _ (by omega)) w
theorem eqTVec (d : Nat) : EqT Tryz.prog (d + 2) 32 (8 * 1) := eqT_array (e := 5) (by kernel_rfl) aggVec (.inr (by kernel_rfl)) (eqT_int (k := .u8) (by kernel_rfl))
@[go_sem] theorem eqVec (f g : Nat → Int) (w : World) : (Op.equalIn 10000 32 (.agg (row 8 f)) (.agg (row 8 g))).run Tryz.prog w = .ok (segEq 0 8 f g) w :=
  eq_array (d := 9999) (e := 5) (n := 8) (m := 1) (by kernel_rfl) (.inr (by kernel_rfl)) (eqT_int (d := 9998) (k := .u8) (by kernel_rfl)) 8 f g (Nat.le_refl _) w
@[go_sem] theorem guardVec : Tryz.prog.eqGuardType Tryz.prog.depth 32 = false := by kernel_rfl

/-! ### Lin -/
theorem aggLin : AggT Tryz.prog 34 64 := ⟨by kernel_rfl, by kernel_rfl⟩
@[go_sem ↓] theorem xloadLin (ρ : Operand → Value) (dst : Option Tmp) (a : Operand) (ty : TypeId) (pos : String) (after : Array Edge) (guard : Option (Nat × Bool)) (w : World) :
    (execOp ρ ⟨dst, .load 34 a, ty, pos, after, guard⟩).run Tryz.prog w = loadN Tryz.prog 34 (ρ a) w := rfl
@[go_sem] theorem loadLin (w : World) (b off : Nat) (h : Has w b (off + 64)) :
    loadN Tryz.prog 34 (.pointer (some ⟨b, off, none⟩)) w = .ok (.value (.agg ((blk w b).extract off (off + 64)))) w := loadN_at aggLin w b off h
@[go_sem ↓] theorem xstoreLin (ρ : Operand → Value) (dst : Option Tmp) (a x : Operand) (ty : TypeId) (pos : String) (after : Array Edge) (guard : Option (Nat × Bool)) (w : World) :
    (execOp ρ ⟨dst, .store 34 a x, ty, pos, after, guard⟩).run Tryz.prog w = storeN Tryz.prog 34 (ρ a) (ρ x) w := rfl
@[go_sem ↓] theorem xallocLin (ρ : Operand → Value) (dst : Option Tmp) (ty : TypeId) (pos : String) (after : Array Edge) (guard : Option (Nat × Bool)) (w : World) :
    (execOp ρ ⟨dst, .alloc 34, ty, pos, after, guard⟩).run Tryz.prog w = allocN Tryz.prog 34 w := rfl
@[go_sem] theorem storeLin (w : World) (b off : Nat) (f : Nat → Int) (h : Has w b (off + 64)) :
    storeN Tryz.prog 34 (.pointer (some ⟨b, off, none⟩)) (.agg (row 64 f)) w = .ok .skip (w.setRow b (lay (blk w b) off (row 64 f))) := storeN_at aggLin w b off _ h (row_size _ _) (row_cells _ _)
@[go_sem ↓] theorem buildLin (ρ : Operand → Value) (dst : Option Tmp) (ty : TypeId) (pos : String) (after : Array Edge) (guard : Option (Nat × Bool)) (w : World) :
    (execOp ρ ⟨dst, .build 34 #[], ty, pos, after, guard⟩).run Tryz.prog w = .ok (.value (.agg (row 64 zf))) w := by rw [row_zeros]; kernel_rfl
@[go_sem] theorem allocLin (w : World) : allocN Tryz.prog 34 w = .ok (.value (.pointer (some ⟨w.heap.size, 0, none⟩))) (w.alloc (.cells (row 64 zf) 34)) := allocN_eq _ (by rw [row_zeros]; kernel_rfl) w
@[go_sem ↓] theorem xindexLin (ρ : Operand → Value) (dst : Option Tmp) (a x : Operand) (ty : TypeId) (pos : String) (after : Array Edge) (guard : Option (Nat × Bool)) (w : World) :
    (execOp ρ ⟨dst, .index 34 a x, ty, pos, after, guard⟩).run Tryz.prog w = indexN Tryz.prog 34 (ρ a) (ρ x) w := rfl
@[go_sem] theorem indexLin (cs : Array Value) (k : IntKind) (i : Int) (h0 : 0 ≤ i) (h1 : i < 8) (w : World) :
    indexN Tryz.prog 34 (.agg cs) (.int k i) w = .ok (.value (.agg (cs.extract (i.toNat * 8) (i.toNat * 8 + 8)))) w := indexN_agg (n := 8) (by kernel_rfl) aggVec cs k i h0 h1 w
theorem eqTLin (d : Nat) : EqT Tryz.prog (d + 3) 34 (8 * 8) := eqT_array (e := 32) (by kernel_rfl) aggLin (.inl aggVec) (eqTVec d)
@[go_sem] theorem eqLin (f g : Nat → Int) (w : World) : (Op.equalIn 10000 34 (.agg (row 64 f)) (.agg (row 64 g))).run Tryz.prog w = .ok (segEq 0 64 f g) w :=
  eq_array (d := 9999) (e := 32) (n := 8) (m := 8) (by kernel_rfl) (.inl aggVec) (eqTVec 9997) 64 f g (Nat.le_refl _) w
@[go_sem] theorem guardLin : Tryz.prog.eqGuardType Tryz.prog.depth 34 = false := by kernel_rfl

/-! ### Tab -/
theorem aggTab : AggT Tryz.prog 36 512 := ⟨by kernel_rfl, by kernel_rfl⟩
@[go_sem ↓] theorem xloadTab (ρ : Operand → Value) (dst : Option Tmp) (a : Operand) (ty : TypeId) (pos : String) (after : Array Edge) (guard : Option (Nat × Bool)) (w : World) :
    (execOp ρ ⟨dst, .load 36 a, ty, pos, after, guard⟩).run Tryz.prog w = loadN Tryz.prog 36 (ρ a) w := rfl
@[go_sem] theorem loadTab (w : World) (b off : Nat) (h : Has w b (off + 512)) :
    loadN Tryz.prog 36 (.pointer (some ⟨b, off, none⟩)) w = .ok (.value (.agg ((blk w b).extract off (off + 512)))) w := loadN_at aggTab w b off h
@[go_sem ↓] theorem xstoreTab (ρ : Operand → Value) (dst : Option Tmp) (a x : Operand) (ty : TypeId) (pos : String) (after : Array Edge) (guard : Option (Nat × Bool)) (w : World) :
    (execOp ρ ⟨dst, .store 36 a x, ty, pos, after, guard⟩).run Tryz.prog w = storeN Tryz.prog 36 (ρ a) (ρ x) w := rfl
@[go_sem ↓] theorem xallocTab (ρ : Operand → Value) (dst : Option Tmp) (ty : TypeId) (pos : String) (after : Array Edge) (guard : Option (Nat × Bool)) (w : World) :
    (execOp ρ ⟨dst, .alloc 36, ty, pos, after, guard⟩).run Tryz.prog w = allocN Tryz.prog 36 w := rfl
@[go_sem] theorem storeTab (w : World) (b off : Nat) (f : Nat → Int) (h : Has w b (off + 512)) :
    storeN Tryz.prog 36 (.pointer (some ⟨b, off, none⟩)) (.agg (row 512 f)) w = .ok .skip (w.setRow b (lay (blk w b) off (row 512 f))) := storeN_at aggTab w b off _ h (row_size _ _) (row_cells _ _)
@[go_sem ↓] theorem buildTab (ρ : Operand → Value) (dst : Option Tmp) (ty : TypeId) (pos : String) (after : Array Edge) (guard : Option (Nat × Bool)) (w : World) :
    (execOp ρ ⟨dst, .build 36 #[], ty, pos, after, guard⟩).run Tryz.prog w = .ok (.value (.agg (row 512 zf))) w := by rw [row_zeros]; kernel_rfl
@[go_sem] theorem allocTab (w : World) : allocN Tryz.prog 36 w = .ok (.value (.pointer (some ⟨w.heap.size, 0, none⟩))) (w.alloc (.cells (row 512 zf) 36)) := allocN_eq _ (by rw [row_zeros]; kernel_rfl) w
@[go_sem ↓] theorem xindexTab (ρ : Operand → Value) (dst : Option Tmp) (a x : Operand) (ty : TypeId) (pos : String) (after : Array Edge) (guard : Option (Nat × Bool)) (w : World) :
    (execOp ρ ⟨dst, .index 36 a x, ty, pos, after, guard⟩).run Tryz.prog w = indexN Tryz.prog 36 (ρ a) (ρ x) w := rfl
@[go_sem] theorem indexTab (cs : Array Value) (k : IntKind) (i : Int) (h0 : 0 ≤ i) (h1 : i < 8) (w : World) :
    indexN Tryz.prog 36 (.agg cs) (.int k i) w = .ok (.value (.agg (cs.extract (i.toNat * 64) (i.toNat * 64 + 64)))) w := indexN_agg (n := 8) (by kernel_rfl) aggLin cs k i h0 h1 w
theorem eqTTab (d : Nat) : EqT Tryz.prog (d + 4) 36 (8 * 64) := eqT_array (e := 34) (by kernel_rfl) aggTab (.inl aggLin) (eqTLin d)
@[go_sem] theorem eqTab (f g : Nat → Int) (w : World) : (Op.equalIn 10000 36 (.agg (row 512 f)) (.agg (row 512 g))).run Tryz.prog w = .ok (segEq 0 512 f g) w :=
  eq_array (d := 9999) (e := 34) (n := 8) (m := 64) (by kernel_rfl) (.inl aggLin) (eqTLin 9996) 512 f g (Nat.le_refl _) w
@[go_sem] theorem guardTab : Tryz.prog.eqGuardType Tryz.prog.depth 36 = false := by kernel_rfl

/-! ### V8 -/
theorem aggV8 : AggT Tryz.prog 22 8 := ⟨by kernel_rfl, by kernel_rfl⟩
@[go_sem ↓] theorem xloadV8 (ρ : Operand → Value) (dst : Option Tmp) (a : Operand) (ty : TypeId) (pos : String) (after : Array Edge) (guard : Option (Nat × Bool)) (w : World) :
    (execOp ρ ⟨dst, .load 22 a, ty, pos, after, guard⟩).run Tryz.prog w = loadN Tryz.prog 22 (ρ a) w := rfl
@[go_sem] theorem loadV8 (w : World) (b off : Nat) (h : Has w b (off + 8)) :
    loadN Tryz.prog 22 (.pointer (some ⟨b, off, none⟩)) w = .ok (.value (.agg ((blk w b).extract off (off + 8)))) w := loadN_at aggV8 w b off h
@[go_sem ↓] theorem xstoreV8 (ρ : Operand → Value) (dst : Option Tmp) (a x : Operand) (ty : TypeId) (pos : String) (after : Array Edge) (guard : Option (Nat × Bool)) (w : World) :
    (execOp ρ ⟨dst, .store 22 a x, ty, pos, after, guard⟩).run Tryz.prog w = storeN Tryz.prog 22 (ρ a) (ρ x) w := rfl
@[go_sem ↓] theorem xallocV8 (ρ : Operand → Value) (dst : Option Tmp) (ty : TypeId) (pos : String) (after : Array Edge) (guard : Option (Nat × Bool)) (w : World) :
    (execOp ρ ⟨dst, .alloc 22, ty, pos, after, guard⟩).run Tryz.prog w = allocN Tryz.prog 22 w := rfl
@[go_sem] theorem storeV8 (w : World) (b off : Nat) (f : Nat → Int) (h : Has w b (off + 8)) :
    storeN Tryz.prog 22 (.pointer (some ⟨b, off, none⟩)) (.agg (row 8 f)) w = .ok .skip (w.setRow b (lay (blk w b) off (row 8 f))) := storeN_at aggV8 w b off _ h (row_size _ _) (row_cells _ _)
@[go_sem] theorem allocV8 (w : World) : allocN Tryz.prog 22 w = .ok (.value (.pointer (some ⟨w.heap.size, 0, none⟩))) (w.alloc (.cells (row 8 zf) 22)) := allocN_eq _ (by rw [row_zeros]; kernel_rfl) w

/-! ### L8 -/
theorem aggL8 : AggT Tryz.prog 23 64 := ⟨by kernel_rfl, by kernel_rfl⟩
@[go_sem ↓] theorem xloadL8 (ρ : Operand → Value) (dst : Option Tmp) (a : Operand) (ty : TypeId) (pos : String) (after : Array Edge) (guard : Option (Nat × Bool)) (w : World) :
    (execOp ρ ⟨dst, .load 23 a, ty, pos, after, guard⟩).run Tryz.prog w = loadN Tryz.prog 23 (ρ a) w := rfl
@[go_sem] theorem loadL8 (w : World) (b off : Nat) (h : Has w b (off + 64)) :
    loadN Tryz.prog 23 (.pointer (some ⟨b, off, none⟩)) w = .ok (.value (.agg ((blk w b).extract off (off + 64)))) w := loadN_at aggL8 w b off h
@[go_sem ↓] theorem xstoreL8 (ρ : Operand → Value) (dst : Option Tmp) (a x : Operand) (ty : TypeId) (pos : String) (after : Array Edge) (guard : Option (Nat × Bool)) (w : World) :
    (execOp ρ ⟨dst, .store 23 a x, ty, pos, after, guard⟩).run Tryz.prog w = storeN Tryz.prog 23 (ρ a) (ρ x) w := rfl
@[go_sem ↓] theorem xallocL8 (ρ : Operand → Value) (dst : Option Tmp) (ty : TypeId) (pos : String) (after : Array Edge) (guard : Option (Nat × Bool)) (w : World) :
    (execOp ρ ⟨dst, .alloc 23, ty, pos, after, guard⟩).run Tryz.prog w = allocN Tryz.prog 23 w := rfl
@[go_sem] theorem storeL8 (w : World) (b off : Nat) (f : Nat → Int) (h : Has w b (off + 64)) :
    storeN Tryz.prog 23 (.pointer (some ⟨b, off, none⟩)) (.agg (row 64 f)) w = .ok .skip (w.setRow b (lay (blk w b) off (row 64 f))) := storeN_at aggL8 w b off _ h (row_size _ _) (row_cells _ _)
@[go_sem] theorem allocL8 (w : World) : allocN Tryz.prog 23 w = .ok (.value (.pointer (some ⟨w.heap.size, 0, none⟩))) (w.alloc (.cells (row 64 zf) 23)) := allocN_eq _ (by rw [row_zeros]; kernel_rfl) w

/-! ### T8 -/
theorem aggT8 : AggT Tryz.prog 24 512 := ⟨by kernel_rfl, by kernel_rfl⟩
@[go_sem ↓] theorem xloadT8 (ρ : Operand → Value) (dst : Option Tmp) (a : Operand) (ty : TypeId) (pos : String) (after : Array Edge) (guard : Option (Nat × Bool)) (w : World) :
    (execOp ρ ⟨dst, .load 24 a, ty, pos, after, guard⟩).run Tryz.prog w = loadN Tryz.prog 24 (ρ a) w := rfl
@[go_sem] theorem loadT8 (w : World) (b off : Nat) (h : Has w b (off + 512)) :
    loadN Tryz.prog 24 (.pointer (some ⟨b, off, none⟩)) w = .ok (.value (.agg ((blk w b).extract off (off + 512)))) w := loadN_at aggT8 w b off h
@[go_sem ↓] theorem xstoreT8 (ρ : Operand → Value) (dst : Option Tmp) (a x : Operand) (ty : TypeId) (pos : String) (after : Array Edge) (guard : Option (Nat × Bool)) (w : World) :
    (execOp ρ ⟨dst, .store 24 a x, ty, pos, after, guard⟩).run Tryz.prog w = storeN Tryz.prog 24 (ρ a) (ρ x) w := rfl
@[go_sem ↓] theorem xallocT8 (ρ : Operand → Value) (dst : Option Tmp) (ty : TypeId) (pos : String) (after : Array Edge) (guard : Option (Nat × Bool)) (w : World) :
    (execOp ρ ⟨dst, .alloc 24, ty, pos, after, guard⟩).run Tryz.prog w = allocN Tryz.prog 24 w := rfl
@[go_sem] theorem storeT8 (w : World) (b off : Nat) (f : Nat → Int) (h : Has w b (off + 512)) :
    storeN Tryz.prog 24 (.pointer (some ⟨b, off, none⟩)) (.agg (row 512 f)) w = .ok .skip (w.setRow b (lay (blk w b) off (row 512 f))) := storeN_at aggT8 w b off _ h (row_size _ _) (row_cells _ _)
@[go_sem] theorem allocT8 (w : World) : allocN Tryz.prog 24 w = .ok (.value (.pointer (some ⟨w.heap.size, 0, none⟩))) (w.alloc (.cells (row 512 zf) 24)) := allocN_eq _ (by rw [row_zeros]; kernel_rfl) w
end
section
/-- g 0 + .. + g (n - 1) -/
def sumTo (g : Nat → Int) : Nat → Int
  | 0 => 0
  | n + 1 => sumTo g n + g n
theorem sumTo_congr {g h : Nat → Int} : ∀ (n : Nat), (∀ i, i < n → g i = h i) → sumTo g n = sumTo h n
  | 0, _ => rfl
  | n + 1, e => by rw [sumTo, sumTo, sumTo_congr n (fun i hi => e i (by omega)), e n (by omega)]
theorem sumTo_mul (c : Int) (g : Nat → Int) : ∀ n, sumTo (fun i => c * g i) n = c * sumTo g n
  | 0 => by simp [sumTo]
  | n + 1 => by rw [sumTo, sumTo, sumTo_mul c g n, Int.mul_add]

/-- the product of vectors by a table m, entry k -/
def mulF (p : Int) (n : Nat) (m : Nat → Nat → Nat → Int) (v w : Nat → Int) (k : Nat) : Int := sumTo (fun i => sumTo (fun j => v i * w j * m i j k) n) n % p
/-- the sums of the first i rows, and j products of row i -/
def accF (p : Int) (n : Nat) (m : Nat → Nat → Nat → Int) (v w : Nat → Int) (i j k : Nat) : Int :=
  (sumTo (fun i => sumTo (fun j => v i * w j * m i j k) n) i + sumTo (fun j => v i * w j * m i j k) j) % p

theorem mod_range (x p : Int) (hp : 0 < p) : 0 ≤ x % p ∧ x % p < p := ⟨Int.emod_nonneg _ (by omega), Int.emod_lt_of_pos _ hp⟩
theorem acc_range (p : Int) (hp : 0 < p) (n : Nat) (m : Nat → Nat → Nat → Int) (v w : Nat → Int) (i j k : Nat) : 0 ≤ accF p n m v w i j k ∧ accF p n m v w i j k < p := mod_range _ _ hp
theorem acc_zero (p : Int) (n : Nat) (m : Nat → Nat → Nat → Int) (v w : Nat → Int) (k : Nat) : accF p n m v w 0 0 k = 0 := by simp [accF, sumTo]
theorem acc_step (p : Int) (n : Nat) (m : Nat → Nat → Nat → Int) (v w : Nat → Int) (i j k : Nat) :
    (accF p n m v w i j k + (v i * w j) % p * m i j k) % p = accF p n m v w i (j + 1) k := by
  unfold accF
  rw [Int.emod_add_emod, ← Int.add_emod_emod, Int.mul_emod, Int.emod_emod, ← Int.mul_emod, Int.add_emod_emod, sumTo, Int.add_assoc]
theorem acc_row (p : Int) (n : Nat) (m : Nat → Nat → Nat → Int) (v w : Nat → Int) (i k : Nat) : accF p n m v w i n k = accF p n m v w (i + 1) 0 k := by
  unfold accF
  simp [sumTo]
theorem acc_skip (p : Int) (n : Nat) (m : Nat → Nat → Nat → Int) (v w : Nat → Int) (i k : Nat) (h : v i = 0) : accF p n m v w i 0 k = accF p n m v w (i + 1) 0 k := by
  have hz : ∀ N, sumTo (fun j => v i * w j * m i j k) N = 0 := fun N => by
    induction N with
    | zero => rfl
    | succ N ih => rw [sumTo, ih, h, Int.zero_mul, Int.zero_mul, Int.add_zero]
  have e : sumTo (fun i => sumTo (fun j => v i * w j * m i j k) n) (i + 1) = sumTo (fun i => sumTo (fun j => v i * w j * m i j k) n) i := by rw [sumTo, hz n, Int.add_zero]
  unfold accF
  rw [e]
  rfl
theorem acc_all (p : Int) (n : Nat) (m : Nat → Nat → Nat → Int) (v w : Nat → Int) (k : Nat) : accF p n m v w n 0 k = mulF p n m v w k := by
  unfold accF mulF
  simp [sumTo]

/-- what a linear map leads w to, entry k: the sum of w j f j k -/
def appF (p : Int) (n : Nat) (f : Nat → Nat → Int) (w : Nat → Int) (k : Nat) : Int := sumTo (fun j => w j * f j k) n % p
theorem app_step (p : Int) (j : Nat) (f : Nat → Nat → Int) (w : Nat → Int) (k : Nat) : (appF p j f w k + w j * f j k) % p = appF p (j + 1) f w k := by
  unfold appF
  rw [Int.emod_add_emod, sumTo]
theorem app_skip (p : Int) (j : Nat) (f : Nat → Nat → Int) (w : Nat → Int) (k : Nat) (h : w j = 0) : appF p j f w k = appF p (j + 1) f w k := by
  unfold appF
  simp [sumTo, h]
theorem app_range (p : Int) (hp : 0 < p) (n : Nat) (f : Nat → Nat → Int) (w : Nat → Int) (k : Nat) : 0 ≤ appF p n f w k ∧ appF p n f w k < p := mod_range _ _ hp
/-- the first i rows of the product, each the image of w under a row's map -/
def timesF (p : Int) (n : Nat) (m : Nat → Nat → Nat → Int) (v w : Nat → Int) (i k : Nat) : Int := sumTo (fun i => v i * appF p n (m i) w k) i % p
theorem times_step (p : Int) (n : Nat) (m : Nat → Nat → Nat → Int) (v w : Nat → Int) (i k : Nat) : (timesF p n m v w i k + v i * appF p n (m i) w k) % p = timesF p n m v w (i + 1) k := by
  unfold timesF
  rw [Int.emod_add_emod, sumTo]
theorem times_skip (p : Int) (n : Nat) (m : Nat → Nat → Nat → Int) (v w : Nat → Int) (i k : Nat) (h : v i = 0) : timesF p n m v w i k = timesF p n m v w (i + 1) k := by
  unfold timesF
  simp [sumTo, h]
theorem times_range (p : Int) (hp : 0 < p) (n : Nat) (m : Nat → Nat → Nat → Int) (v w : Nat → Int) (i k : Nat) : 0 ≤ timesF p n m v w i k ∧ timesF p n m v w i k < p := mod_range _ _ hp
theorem sum_mod (p : Int) (g h : Nat → Int) : ∀ n, (∀ i, i < n → g i % p = h i % p) → sumTo g n % p = sumTo h n % p
  | 0, _ => rfl
  | n + 1, e => by
    rw [sumTo, sumTo, Int.add_emod, sum_mod p g h n (fun i hi => e i (by omega)), e n (by omega), ← Int.add_emod]
theorem times_all (p : Int) (n : Nat) (m : Nat → Nat → Nat → Int) (v w : Nat → Int) (k : Nat) : timesF p n m v w n k = mulF p n m v w k := by
  unfold timesF mulF
  refine sum_mod p _ _ n fun i _ => ?_
  unfold appF
  rw [Int.mul_emod, Int.emod_emod, ← Int.mul_emod, ← sumTo_mul]
  congr 1
  exact sumTo_congr n fun j _ => by rw [Int.mul_assoc]

/-- Go's remainder, made positive -/
theorem tmod_mod (x p : Int) (hp : 0 < p) : (x.tmod p + p).tmod p = x % p := by
  have h1 : -p < x.tmod p := by
    have := Int.lt_tmod_of_pos x hp
    omega
  rw [Int.tmod_eq_emod_of_nonneg (by omega), Int.add_emod_right, Int.tmod_eq_emod]
  split
  · simp
  · rw [Int.sub_emod]
    have : ((p.natAbs : Nat) : Int) % p = 0 := by rw [Int.natAbs_of_nonneg (by omega)]; exact Int.emod_self
    rw [this]; simp
theorem tmod_emod_pos (x p : Int) (hp : 0 < p) : x.tmod p % p = x % p := by
  have h1 : -p < x.tmod p := Int.lt_tmod_of_pos x hp
  have h2 := tmod_mod x p hp
  rw [Int.tmod_eq_emod_of_nonneg (by omega), Int.add_emod_right] at h2
  exact h2
theorem prod_le (x y a b : Int) (hx : 0 ≤ x) (hy : 0 ≤ y) (hxa : x ≤ a) (hyb : y ≤ b) : 0 ≤ x * y ∧ x * y ≤ a * b :=
  ⟨Int.mul_nonneg hx hy, Int.mul_le_mul hxa hyb hy (by omega)⟩
theorem add_mod_small (x p : Int) (h0 : 0 ≤ x) (h1 : x < p) : x % p = x := Int.emod_eq_of_lt h0 h1
end
section
open Go.RowKit
set_option linter.unusedSimpArgs false
set_option linter.unusedVariables false

/-- the cells of an algebra: f has the unit at 0..7 and the table behind -/
def alg (p n : Int) (f : Nat → Int) : Array Value := #[.int .i64 p, .int .i64 n] ++ row 520 f
@[go_sem] theorem alg_size (p n : Int) (f : Nat → Int) : (alg p n f).size = 522 := by simp [alg, row_size]
@[go_sem] theorem alg_prime (p n : Int) (f : Nat → Int) : (alg p n f)[0]? = some (.int .i64 p) := by unfold alg; rw [Array.getElem?_append]; simp
@[go_sem] theorem alg_len (p n : Int) (f : Nat → Int) : (alg p n f)[1]? = some (.int .i64 n) := by unfold alg; rw [Array.getElem?_append]; simp
@[go_sem] theorem alg_prime' (p n : Int) (f : Nat → Int) (h : 0 < (alg p n f).size) : (alg p n f)[0] = .int .i64 p := by
  have := alg_prime p n f
  rw [Array.getElem?_eq_getElem h] at this
  simpa using this
@[go_sem] theorem alg_len' (p n : Int) (f : Nat → Int) (h : 1 < (alg p n f).size) : (alg p n f)[1] = .int .i64 n := by
  have := alg_len p n f
  rw [Array.getElem?_eq_getElem h] at this
  simpa using this
theorem alg_get (p n : Int) (f : Nat → Int) (o : Nat) (h : 2 ≤ o) (h' : o < 522) : (alg p n f)[o]? = some (.int .u8 (f (o - 2))) := by
  unfold alg
  rw [Array.getElem?_append]
  simp only [List.size_toArray, List.length_cons, List.length_nil]
  rw [if_neg (by omega), row_get? _ _ _ (by omega)]
theorem alg_none (p n : Int) (f : Nat → Int) (o : Nat) (h : 522 ≤ o) : (alg p n f)[o]? = none := by
  rw [Array.getElem?_eq_none]; rw [alg_size]; exact h
theorem alg_congr {p n : Int} {f g : Nat → Int} (h : ∀ i, i < 520 → f i = g i) : alg p n f = alg p n g := by
  unfold alg; rw [row_congr h]
theorem alg_ext {p n : Int} {f : Nat → Int} {c : Array Value} (h0 : c[0]? = some (.int .i64 p)) (h1 : c[1]? = some (.int .i64 n)) (h2 : ∀ i, i < 520 → c[2 + i]? = some (.int .u8 (f i))) (h3 : ∀ i, 522 ≤ i → c[i]? = none) : c = alg p n f := by
  apply Array.ext_getElem?
  intro i
  match i with
  | 0 => rw [h0, alg_prime]
  | 1 => rw [h1, alg_len]
  | i + 2 =>
    by_cases hi : i < 520
    · rw [show i + 2 = 2 + i by omega, h2 i hi, alg_get p n f (2 + i) (by omega) (by omega), Nat.add_sub_cancel_left]
    · rw [h3 (i + 2) (by omega), alg_none p n f (i + 2) (by omega)]
theorem alg_cells (p n : Int) (f : Nat → Int) : (alg p n f).all (·.oneCell') = true := by
  unfold alg
  rw [Array.all_append, row_cells]
  simp [Value.oneCell']
@[go_sem] theorem alg_all (p n : Int) (f : Nat → Int) : (alg p n f).extract 0 522 = alg p n f := by
  rw [show (522 : Nat) = (alg p n f).size from (alg_size p n f).symm]; simp
theorem alg_part (p n : Int) (f : Nat → Int) (a m : Nat) (h : 2 ≤ a) (h' : a + m ≤ 522) : (alg p n f).extract a (a + m) = row m fun t => f (a - 2 + t) := by
  apply Array.ext_getElem?
  intro i
  rw [Array.getElem?_extract, alg_size]
  by_cases hi : i < m
  · rw [if_pos (by omega), row_get? _ _ i hi, alg_get p n f (a + i) (by omega) (by omega)]
    rw [show a + i - 2 = a - 2 + i by omega]
  · rw [if_neg (by omega), row_get_none _ _ i (by omega)]
@[go_sem] theorem alg_unit (p n : Int) (f : Nat → Int) : (alg p n f).extract 2 10 = row 8 f := by
  rw [show (10 : Nat) = 2 + 8 from rfl, alg_part p n f 2 8 (by omega) (by omega)]
  exact row_congr fun i _ => by rw [Nat.sub_self, Nat.zero_add]
@[go_sem] theorem alg_unit' (p n : Int) (f : Nat → Int) : (alg p n f).extract 2 (2 + 8) = row 8 f := alg_unit p n f
/-- the table behind the unit -/
def tab (f : Nat → Int) : Nat → Int := fun t => f (8 + t)
@[go_sem] theorem alg_mul (p n : Int) (f : Nat → Int) : (alg p n f).extract 10 522 = row 512 (tab f) := by
  rw [show (522 : Nat) = 10 + 512 from rfl, alg_part p n f 10 512 (by omega) (by omega)]
  exact row_congr fun i _ => rfl
@[go_sem] theorem alg_mul' (p n : Int) (f : Nat → Int) : (alg p n f).extract 10 (10 + 512) = row 512 (tab f) := alg_mul p n f
@[go_sem] theorem alg_row (p n : Int) (f : Nat → Int) (a m : Nat) (h : 10 + a + m ≤ 522) : (alg p n f).extract (10 + a) (10 + a + m) = row m fun t => tab f (a + t) := by
  rw [alg_part p n f (10 + a) m (by omega) h]
  exact row_congr fun i _ => by unfold tab; congr 1; omega
theorem alg_entry (p n : Int) (f : Nat → Int) (a c m : Nat) (h : 10 + a + c + m ≤ 522) : (alg p n f).extract (10 + a + c) (10 + a + c + m) = row m fun t => tab f (a + c + t) := by
  rw [alg_part p n f (10 + a + c) m (by omega) h]
  exact row_congr fun i _ => by unfold tab; congr 1; omega
@[go_sem] theorem alg_set0 (p n q : Int) (f : Nat → Int) : (alg p n f).setIfInBounds 0 (.int .i64 q) = alg q n f := by
  apply alg_ext
  · rw [Array.getElem?_setIfInBounds]; simp [alg_size]
  · rw [Array.getElem?_setIfInBounds]; simp [alg_len]
  · intro i hi; rw [Array.getElem?_setIfInBounds, if_neg (by omega), alg_get p n f (2 + i) (by omega) (by omega), Nat.add_sub_cancel_left]
  · intro i hi; rw [Array.getElem?_setIfInBounds, if_neg (by omega), alg_none p n f i hi]
@[go_sem] theorem alg_set1 (p n q : Int) (f : Nat → Int) : (alg p n f).setIfInBounds 1 (.int .i64 q) = alg p q f := by
  apply alg_ext
  · rw [Array.getElem?_setIfInBounds]; simp [alg_prime]
  · rw [Array.getElem?_setIfInBounds]; simp [alg_size]
  · intro i hi; rw [Array.getElem?_setIfInBounds, if_neg (by omega), alg_get p n f (2 + i) (by omega) (by omega), Nat.add_sub_cancel_left]
  · intro i hi; rw [Array.getElem?_setIfInBounds, if_neg (by omega), alg_none p n f i hi]
theorem lay_get (c cs : Array Value) (off i : Nat) (h : off + cs.size ≤ c.size) : (lay c off cs)[i]? = if off ≤ i ∧ i < off + cs.size then cs[i - off]? else c[i]? := by
  unfold lay
  rw [List.getElem?_toArray, List.getElem?_append, List.getElem?_append]
  simp only [List.length_append, List.length_take, Array.length_toList, List.getElem?_take, List.getElem?_drop, Array.getElem?_toList]
  by_cases h1 : i < off
  · rw [if_pos (by omega), if_pos (by omega), if_pos h1, if_neg (by omega)]
  · by_cases h2 : i < off + cs.size
    · rw [if_pos (by omega), if_neg (by omega), if_pos (by omega), show i - min off c.size = i - off by omega]
    · rw [if_neg (by omega), if_neg (by omega), show off + cs.size + (i - (min off c.size + cs.size)) = i by omega]
theorem lay_alg (p n : Int) (f g : Nat → Int) (a m : Nat) (h : a + m ≤ 520) : lay (alg p n f) (2 + a) (row m g) = alg p n fun i => if a ≤ i ∧ i < a + m then g (i - a) else f i := by
  apply alg_ext
  · rw [lay_get _ _ _ _ (by rw [alg_size, row_size]; omega), if_neg (by omega), alg_prime]
  · rw [lay_get _ _ _ _ (by rw [alg_size, row_size]; omega), if_neg (by omega), alg_len]
  · intro i hi
    rw [lay_get _ _ _ _ (by rw [alg_size, row_size]; omega), row_size]
    by_cases h1 : a ≤ i ∧ i < a + m
    · rw [if_pos (by omega), if_pos h1, row_get? _ _ _ (by omega), show 2 + i - (2 + a) = i - a by omega]
    · rw [if_neg (by omega), if_neg h1, alg_get p n f (2 + i) (by omega) (by omega), Nat.add_sub_cancel_left]
  · intro i hi
    rw [lay_get _ _ _ _ (by rw [alg_size, row_size]; omega), row_size, if_neg (by omega), alg_none p n f i hi]
@[go_sem] theorem lay_alg_all (p n q m : Int) (f g : Nat → Int) : lay (alg p n f) 0 (alg q m g) = alg q m g := by
  apply Array.ext_getElem?
  intro i
  rw [lay_get _ _ _ _ (by rw [alg_size, alg_size]; omega), alg_size]
  split
  · rfl
  · rw [alg_none _ _ _ _ (by omega), alg_none _ _ _ _ (by omega)]

/-! ### the operations at the type -/
theorem alg_zeros : alg 0 0 zf = ([Value.int .i64 0, Value.int .i64 0] ++ List.replicate 520 (Value.int .u8 0)).toArray := by
  unfold alg; rw [row_zeros]; exact zeros_gen _ _ _ 520
theorem aggAlg : AggT Tryz.prog 131 522 := ⟨by kernel_rfl, by kernel_rfl⟩
@[go_sem ↓] theorem xloadAlg (ρ : Operand → Value) (dst : Option Tmp) (a : Operand) (ty : TypeId) (pos : String) (after : Array Edge) (guard : Option (Nat × Bool)) (w : World) :
    (execOp ρ ⟨dst, .load 131 a, ty, pos, after, guard⟩).run Tryz.prog w = loadN Tryz.prog 131 (ρ a) w := rfl
@[go_sem] theorem loadAlg (w : World) (b off : Nat) (h : Has w b (off + 522)) :
    loadN Tryz.prog 131 (.pointer (some ⟨b, off, none⟩)) w = .ok (.value (.agg ((blk w b).extract off (off + 522)))) w := loadN_at aggAlg w b off h
@[go_sem ↓] theorem xstoreAlg (ρ : Operand → Value) (dst : Option Tmp) (a x : Operand) (ty : TypeId) (pos : String) (after : Array Edge) (guard : Option (Nat × Bool)) (w : World) :
    (execOp ρ ⟨dst, .store 131 a x, ty, pos, after, guard⟩).run Tryz.prog w = storeN Tryz.prog 131 (ρ a) (ρ x) w := rfl
@[go_sem] theorem storeAlg (w : World) (b off : Nat) (p n : Int) (f : Nat → Int) (h : Has w b (off + 522)) :
    storeN Tryz.prog 131 (.pointer (some ⟨b, off, none⟩)) (.agg (alg p n f)) w = .ok .skip (w.setRow b (lay (blk w b) off (alg p n f))) := storeN_at aggAlg w b off _ h (alg_size _ _ _) (alg_cells _ _ _)
@[go_sem ↓] theorem xallocAlg (ρ : Operand → Value) (dst : Option Tmp) (ty : TypeId) (pos : String) (after : Array Edge) (guard : Option (Nat × Bool)) (w : World) :
    (execOp ρ ⟨dst, .alloc 131, ty, pos, after, guard⟩).run Tryz.prog w = allocN Tryz.prog 131 w := rfl
@[go_sem] theorem allocAlg (w : World) : allocN Tryz.prog 131 w = .ok (.value (.pointer (some ⟨w.heap.size, 0, none⟩))) (w.alloc (.cells (alg 0 0 zf) 131)) := allocN_eq _ (by rw [alg_zeros]; kernel_rfl) w
@[go_sem ↓] theorem buildAlg (ρ : Operand → Value) (dst : Option Tmp) (ty : TypeId) (pos : String) (after : Array Edge) (guard : Option (Nat × Bool)) (w : World) :
    (execOp ρ ⟨dst, .build 131 #[], ty, pos, after, guard⟩).run Tryz.prog w = .ok (.value (.agg (alg 0 0 zf))) w := by rw [alg_zeros]; kernel_rfl
end
end Go.Proofs.YtjmmmggnbndolaaGreat
