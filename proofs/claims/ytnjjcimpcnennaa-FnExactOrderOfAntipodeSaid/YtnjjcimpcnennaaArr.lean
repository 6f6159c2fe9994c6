/- Rows of bytes as values and as cells; laws on them over any program. -/
import Derived.Test.YtnjjcimpcnennaaRows
import Derived.WalkKit
import Derived.WalkSpells
import Derived.WalkLawsBesides
import Derived.Lib.Hide
import Derived.Deep.WholeRow
namespace Go.Proofs.Ytnjjcimpcnennaa
open Go.RowKit

/-- n bytes as values -/
def row (n : Nat) (f : Nat → Int) : Array Value := Array.ofFn (n := n) fun i => Value.int .u8 (f i)

theorem row_size (n : Nat) (f : Nat → Int) : (row n f).size = n := by simp [row]
theorem row_get? (n : Nat) (f : Nat → Int) (i : Nat) (h : i < n) : (row n f)[i]? = some (.int .u8 (f i)) := by
  simp [row, h]
theorem row_get_none (n : Nat) (f : Nat → Int) (i : Nat) (h : n ≤ i) : (row n f)[i]? = none := by
  simp [row]; omega
theorem row_congr {n : Nat} {f g : Nat → Int} (h : ∀ i, i < n → f i = g i) : row n f = row n g := by
  apply Array.ext_getElem?
  intro i
  by_cases hi : i < n
  · rw [row_get? n f i hi, row_get? n g i hi, h i hi]
  · rw [row_get_none n f i (by omega), row_get_none n g i (by omega)]
theorem row_inj {n : Nat} {f g : Nat → Int} (h : row n f = row n g) (i : Nat) (hi : i < n) : f i = g i := by
  have := row_get? n f i hi
  rw [h, row_get? n g i hi] at this
  simpa using this.symm
theorem row_extract (n : Nat) (f : Nat → Int) (a b : Nat) (h : b ≤ n) : (row n f).extract a b = row (b - a) fun i => f (a + i) := by
  apply Array.ext_getElem?
  intro i
  rw [Array.getElem?_extract]
  by_cases hi : i < b - a
  · rw [row_get? _ _ i hi, if_pos (by rw [row_size]; omega), row_get? n f (a + i) (by omega)]
  · rw [row_get_none _ _ i (by omega), if_neg (by rw [row_size]; omega)]
/-- f with y at i -/
def upd (f : Nat → Int) (i : Nat) (y : Int) : Nat → Int := fun j => if j = i then y else f j
theorem row_set (n : Nat) (f : Nat → Int) (i : Nat) (y : Int) : (row n f).setIfInBounds i (.int .u8 y) = row n (upd f i y) := by
  apply Array.ext_getElem?
  intro j
  rw [Array.getElem?_setIfInBounds]
  by_cases e : i = j
  · subst e
    by_cases hj : i < n
    · rw [row_get? n (upd f i y) i hj, if_pos rfl, if_pos (by rw [row_size]; exact hj)]; simp [upd]
    · rw [row_get_none n (upd f i y) i (by omega), if_pos rfl, if_neg (by rw [row_size]; exact hj)]
  · by_cases hj : j < n
    · rw [if_neg e, row_get? n f j hj, row_get? n _ j hj]; simp [upd, Ne.symm e]
    · rw [if_neg e, row_get_none n f j (by omega), row_get_none n _ j (by omega)]
theorem row_cells (n : Nat) (f : Nat → Int) : (row n f).all (·.oneCell') = true := by
  rw [Array.all_eq_true]
  intro i hi
  simp [row, Value.oneCell']

/-! ### blocks of a world -/
/-- the cells of block b (none: empty) -/
def blk (w : World) (b : Nat) : Array Value := match w.heap[b]? with | some (.cells c _ _) => c | _ => #[]
/-- block b is a row of at least n cells, none of which is frozen -/
def Has (w : World) (b n : Nat) : Prop := ∃ c t, w.heap[b]? = some (.cells c t (0, 0)) ∧ n ≤ c.size

theorem blk_new (w : World) (c : Array Value) (t : TypeId) : blk (w.alloc (.cells c t)) w.heap.size = c := by
  unfold blk; rw [heap_alloc_last]
theorem blk_old (w : World) (o : Obj) (b : Nat) (h : b < w.heap.size) : blk (w.alloc o) b = blk w b := by
  unfold blk; rw [Below.heap_alloc w o b h]
theorem has_new (w : World) (c : Array Value) (t : TypeId) (n : Nat) (h : n ≤ c.size) : Has (w.alloc (.cells c t)) w.heap.size n :=
  ⟨c, t, heap_alloc_last _ _, h⟩
theorem has_old (w : World) (o : Obj) (b n : Nat) (h : Has w b n) : Has (w.alloc o) b n := by
  obtain ⟨c, t, hb, hn⟩ := h
  exact ⟨c, t, by rw [Below.heap_alloc w o b (by rw [Array.getElem?_eq_some_iff] at hb; exact hb.1)]; exact hb, hn⟩
theorem has_lt {w : World} {b n : Nat} (h : Has w b n) : b < w.heap.size := by
  obtain ⟨c, t, hb, _⟩ := h
  rw [Array.getElem?_eq_some_iff] at hb; exact hb.1
theorem has_blk {w : World} {b n : Nat} (h : Has w b n) : ∃ t, w.heap[b]? = some (.cells (blk w b) t (0, 0)) ∧ n ≤ (blk w b).size := by
  obtain ⟨c, t, hb, hn⟩ := h
  refine ⟨t, ?_, ?_⟩ <;> (unfold blk; rw [hb]) <;> exact hn

/-- type T is an array or a struct of m cells -/
def AggT (P : Program) (T m : Nat) : Prop := (isAgg T).run P default = .ok true default ∧ (P.info? T).map (·.size) = some m

section
variable {P : Program}
theorem run_isAgg_any {T m : Nat} (h : AggT P T m) (w : World) : (isAgg T).run P w = .ok true w := by
  have h1 := h.1
  unfold isAgg at h1 ⊢
  cases hu : P.underlying T with
  | none => simp [underlying, hu] at h1
  | some d =>
    rw [Sem.run_bind, run_underlying hu, Result.andThen] at h1 ⊢
    cases d <;> simp at h1 ⊢
theorem run_sizeOf_any {T m : Nat} (h : AggT P T m) (w : World) : (sizeOf T).run P w = .ok m w := by
  have h2 := h.2
  cases hq : P.info? T with
  | none => simp [hq] at h2
  | some i => simp [hq] at h2; simp [sizeOf, typeInfo, hq, h2]
theorem run_loadCells_blk (w : World) (b off m : Nat) (h : Has w b (off + m)) :
    (loadCells ⟨b, off, none⟩ m).run P w = .ok ((blk w b).extract off (off + m)) w := by
  obtain ⟨t, hb, hn⟩ := has_blk h
  have := run_loadCells_list (P := P) w ⟨b, off, none⟩ ((blk w b).extract off (off + m)).toList (fun j v hv => by
    rw [Addr.add_lit, cell_of_row _ _ _ _ _ _ hb]
    have hv' : ((blk w b).extract off (off + m))[j]? = some v := by rw [Array.getElem?_toList] at hv; exact hv
    rw [Array.getElem?_extract] at hv'
    split at hv'
    · exact hv'
    · cases hv')
  have hl : ((blk w b).extract off (off + m)).toList.length = m := by
    rw [Array.length_toList, Array.size_extract]; omega
  rw [hl, Array.toArray_toList] at this
  exact this
theorem run_loadVar_blk {T m : Nat} (hT : AggT P T m) (w : World) (b off : Nat) (h : Has w b (off + m)) :
    (loadVar T ⟨b, off, none⟩).run P w = .ok (.agg ((blk w b).extract off (off + m))) w := by
  unfold loadVar
  rw [Sem.run_bind, run_isAgg_any hT, Result.andThen]
  simp only [↓reduceIte]
  rw [Sem.run_bind, run_sizeOf_any hT, Result.andThen, Sem.run_bind, run_loadCells_blk w b off m h, Result.andThen]
  rfl
end

/-! ### the operations on whole arrays as the walk meets them -/
/-- 'load' of a whole array or struct -/
def loadN (P : Program) (T : TypeId) (v : Value) (w : World) : Result Next := (do pure (Next.value (← Instr.loadAt T v)) : Sem Next).run P w
theorem exec_load {P : Program} (T : TypeId) (ρ : Operand → Value) (dst : Option Tmp) (a : Operand) (ty : TypeId) (pos : String) (after : Array Edge) (guard : Option (Nat × Bool)) (w : World) :
    (execOp ρ ⟨dst, .load T a, ty, pos, after, guard⟩).run P w = loadN P T (ρ a) w := rfl
theorem loadN_at {P : Program} {T m : Nat} (hT : AggT P T m) (w : World) (b off : Nat) (h : Has w b (off + m)) :
    loadN P T (.pointer (some ⟨b, off, none⟩)) w = .ok (.value (.agg ((blk w b).extract off (off + m)))) w := by
  unfold loadN Instr.loadAt Instr.sureAddr
  rw [Sem.run_bind, Sem.run_bind, Sem.run_pure, Result.andThen, run_loadVar_blk hT w b off h, Result.andThen, Sem.run_pure]

/-- 'store' of a whole array or struct -/
def storeN (P : Program) (T : TypeId) (v x : Value) (w : World) : Result Next := (do Instr.storeAt T v x; pure Next.skip : Sem Next).run P w
theorem exec_store {P : Program} (T : TypeId) (ρ : Operand → Value) (dst : Option Tmp) (a x : Operand) (ty : TypeId) (pos : String) (after : Array Edge) (guard : Option (Nat × Bool)) (w : World) :
    (execOp ρ ⟨dst, .store T a x, ty, pos, after, guard⟩).run P w = storeN P T (ρ a) (ρ x) w := rfl
/-- the cells cs laid over cur from off on -/
def lay (cur : Array Value) (off : Nat) (cs : Array Value) : Array Value := (cur.toList.take off ++ cs.toList ++ cur.toList.drop (off + cs.size)).toArray
theorem storeN_at {P : Program} {T m : Nat} (hT : AggT P T m) (w : World) (b off : Nat) (cs : Array Value) (h : Has w b (off + m)) (hc : cs.size = m) (h1 : cs.all (·.oneCell') = true) :
    storeN P T (.pointer (some ⟨b, off, none⟩)) (.agg cs) w = .ok .skip (w.setRow b (lay (blk w b) off cs)) := by
  obtain ⟨t, hb, hn⟩ := has_blk h
  have hst := run_storeCells_at (P := P) b off t cs.toList 0 (blk w b) w hb (by simp; omega) (fun v hv => (Array.all_eq_true_iff_forall_mem.1 h1) v (by simpa using hv))
  unfold storeN Instr.storeAt Instr.sureAddr storeVar
  have hcs : (Value.agg cs).cells = cs := rfl
  rw [Sem.run_bind, Sem.run_bind, Sem.run_pure, Result.andThen, Sem.run_bind, run_sizeOf_any hT, Result.andThen, hcs, if_neg (by simp [hc])]
  simp only [Nat.add_zero] at hst ⊢
  rw [hst, Result.andThen, Sem.run_pure]
  simp [lay]

/-- a new array or struct of zeros -/
def allocN (P : Program) (T : TypeId) (w : World) : Result Next := (do pure (Next.value (← Instr.alloc T true (.tuple #[]))) : Sem Next).run P w
theorem exec_alloc {P : Program} (T : TypeId) (ρ : Operand → Value) (dst : Option Tmp) (ty : TypeId) (pos : String) (after : Array Edge) (guard : Option (Nat × Bool)) (w : World) :
    (execOp ρ ⟨dst, .alloc T, ty, pos, after, guard⟩).run P w = allocN P T w := rfl
theorem allocN_eq {P : Program} {T : Nat} (c : Array Value) (hz : (P.info? T).map (·.zero) = some (some (.agg c))) (w : World) :
    allocN P T w = .ok (.value (.pointer (some ⟨w.heap.size, 0, none⟩))) (w.alloc (.cells c T)) := by
  cases hq : P.info? T with
  | none => simp [hq] at hz
  | some i =>
    simp [hq] at hz
    simp [allocN, Instr.alloc, zeroValue, typeInfo, hq, hz, newVar, newRow, Value.cells]

/-- 'index' of an array value -/
def indexN (P : Program) (T : TypeId) (v i : Value) (w : World) : Result Next := (do pure (Next.value (← Instr.index T v i)) : Sem Next).run P w
theorem exec_index {P : Program} (T : TypeId) (ρ : Operand → Value) (dst : Option Tmp) (a x : Operand) (ty : TypeId) (pos : String) (after : Array Edge) (guard : Option (Nat × Bool)) (w : World) :
    (execOp ρ ⟨dst, .index T a x, ty, pos, after, guard⟩).run P w = indexN P T (ρ a) (ρ x) w := rfl
theorem indexN_agg {P : Program} {T n e m : Nat} (hT : P.underlying T = some (.array n e)) (he : AggT P e m) (cs : Array Value) (k : IntKind) (i : Int) (h0 : 0 ≤ i) (h1 : i < n) (w : World) :
    indexN P T (.agg cs) (.int k i) w = .ok (.value (.agg (cs.extract (i.toNat * m) (i.toNat * m + m)))) w := by
  simp [indexN, Instr.index, asIntOf, run_underlying hT, h0, h1, run_sizeOf_any he, part, run_isAgg_any he]
theorem indexN_one {P : Program} {T n e : Nat} (hT : P.underlying T = some (.array n e)) (ha : (isAgg e).run P default = .ok false default) (hs : (P.info? e).map (·.size) = some 1) (cs : Array Value) (k : IntKind) (i : Int) (x : Value) (h0 : 0 ≤ i) (h1 : i < n)
    (hx : cs[i.toNat]? = some x) (w : World) : indexN P T (.agg cs) (.int k i) w = .ok (.value x) w := by
  have ha' : (isAgg e).run P w = .ok false w := by
    unfold isAgg at ha ⊢
    cases hu : P.underlying e with
    | none => simp [underlying, hu] at ha
    | some d =>
      rw [Sem.run_bind, run_underlying hu, Result.andThen] at ha ⊢
      cases d <;> simp at ha ⊢
  have hs' : (sizeOf e).run P w = .ok 1 w := by
    cases hq : P.info? e with
    | none => simp [hq] at hs
    | some i => simp [hq] at hs; simp [sizeOf, typeInfo, hq, hs]
  simp [indexN, Instr.index, asIntOf, run_underlying hT, h0, h1, hs', part, ha', hx]

/-! ### equality of rows -/
/-- f and g agree on m entries from off on -/
def segEq (off m : Nat) (f g : Nat → Int) : Bool := (List.range m).all fun i => f (off + i) == g (off + i)
theorem segEq_iff (off m : Nat) (f g : Nat → Int) : segEq off m f g = true ↔ ∀ i, i < m → f (off + i) = g (off + i) := by
  simp [segEq]
theorem segEq_part (off n m : Nat) (f g : Nat → Int) : ((List.range n).all fun i => segEq (off + i * m) m f g) = segEq off (n * m) f g := by
  rw [Bool.eq_iff_iff, segEq_iff]
  simp only [List.all_eq_true, List.mem_range, segEq_iff]
  constructor
  · intro h i hi
    have hm : 0 < m := by
      rcases Nat.eq_zero_or_pos m with h0 | h0
      · subst h0; simp at hi
      · exact h0
    have h1 : i / m < n := by rw [Nat.div_lt_iff_lt_mul hm]; exact hi
    have h2 := h (i / m) h1 (i % m) (Nat.mod_lt _ hm)
    have e : i / m * m + i % m = i := by rw [Nat.mul_comm]; exact Nat.div_add_mod i m
    rw [show off + i / m * m + i % m = off + i by omega] at h2
    exact h2
  · intro h i hi j hj
    have : i * m + j < n * m := by
      have : (i + 1) * m ≤ n * m := Nat.mul_le_mul_right m hi
      rw [Nat.add_mul] at this
      omega
    have := h (i * m + j) this
    rw [show off + i * m + j = off + (i * m + j) by omega]
    exact this
/-- the parts of type T of two rows are held against each other byte by byte -/
def EqT (P : Program) (d T m : Nat) : Prop := ∀ (N : Nat) (f g : Nat → Int) (off : Nat) (w : World), off + m ≤ N →
  ((part T (row N f) off).run P w).andThen (fun a w => ((part T (row N g) off).run P w).andThen fun b w => (Op.equalIn d T a b).run P w) = .ok (segEq off m f g) w
theorem eqT_int {P : Program} {d T : Nat} {k : IntKind} (hu : P.underlying T = some (.int k)) : EqT P (d + 1) T 1 := by
  intro N f g off w h
  have ha : (isAgg T).run P w = .ok false w := by
    unfold isAgg; rw [Sem.run_bind, run_underlying hu, Result.andThen]; rfl
  simp [part, ha, row_get? N f off (by omega), row_get? N g off (by omega), run_equalIn_int w d T .u8 k (f off) (g off) hu, segEq]
theorem eq_array {P : Program} {d e m n T : Nat} (hu : P.underlying T = some (.array n e)) (hs : AggT P e m ∨ (P.info? e).map (·.size) = some m) (he : EqT P d e m) (N : Nat) (f g : Nat → Int) (h : n * m ≤ N) (w : World) :
    (Op.equalIn (d + 1) T (.agg (row N f)) (.agg (row N g))).run P w = .ok (segEq 0 (n * m) f g) w := by
  have hs' : (sizeOf e).run P w = .ok m w := by
    have hs2 : (P.info? e).map (·.size) = some m := hs.elim (fun x => x.2) id
    cases hq : P.info? e with
    | none => simp [hq] at hs2
    | some i => simp [hq] at hs2; simp [sizeOf, typeInfo, hq, hs2]
  simp only [Op.equalIn, Sem.run_bind, run_underlying hu, Result.andThen_ok, hs']
  have gen : ∀ (l : List Nat), (∀ i ∈ l, i < n) →
      (forIn l ((none, ()) : Option Bool × Unit) fun i (_ : Option Bool × Unit) => (do
          let a ← part e (row N f) (i * m)
          let b ← part e (row N g) (i * m)
          let c ← Op.equalIn d e a b
          if (!c) = true then pure (ForInStep.done (some false, ())) else pure (ForInStep.yield (none, ())) : Sem (ForInStep (Option Bool × Unit)))).run P w =
        .ok (if l.all (fun i => segEq (0 + i * m) m f g) then none else some false, ()) w := by
    intro l hl
    induction l with
    | nil => simp
    | cons i l ih =>
      have hi : i * m + m ≤ N := by
        have h1 : (i + 1) * m ≤ n * m := Nat.mul_le_mul_right m (hl i (by simp))
        rw [Nat.add_mul] at h1
        omega
      have h1 := he N f g (i * m) w hi
      have h2 := ih (fun j hj => hl j (by simp [hj]))
      have hz : 0 + i * m = i * m := Nat.zero_add _
      simp only [List.forIn_cons, Sem.run_bind] at h1 ⊢
      cases hq : (part e (row N f) (i * m)).run P w with
      | halt x w1 => rw [hq] at h1; cases h1
      | ok a w1 =>
        rw [hq] at h1
        simp only [Result.andThen_ok] at h1 ⊢
        cases hq2 : (part e (row N g) (i * m)).run P w1 with
        | halt x w2 => rw [hq2] at h1; cases h1
        | ok b w2 =>
          rw [hq2] at h1
          simp only [Result.andThen_ok] at h1 ⊢
          rw [h1]
          simp only [Result.andThen_ok, List.all_cons, hz]
          cases hc : segEq (i * m) m f g
          · simp
          · simpa using h2
  have h3 := gen (List.range' 0 n) (fun i hi => by simpa using hi)
  rw [Std.Legacy.Range.forIn_eq_forIn_range']
  have hsz : (Std.Legacy.Range.size [:n]) = n := by simp [Std.Legacy.Range.size]
  simp only [hsz]
  rw [h3]
  simp only [Result.andThen_ok]
  rw [← segEq_part 0 n m f g, List.range_eq_range']
  cases (List.range' 0 n).all (fun i => segEq (0 + i * m) m f g) <;> simp
theorem eqT_array {P : Program} {d e m n T : Nat} (hu : P.underlying T = some (.array n e)) (hT : AggT P T (n * m)) (hs : AggT P e m ∨ (P.info? e).map (·.size) = some m) (he : EqT P d e m) : EqT P (d + 1) T (n * m) := by
  intro N f g off w h
  simp only [part, Sem.run_bind, run_isAgg_any hT, run_sizeOf_any hT, Result.andThen_ok, ↓reduceIte, Sem.run_pure]
  rw [row_extract N f off (off + n * m) h, row_extract N g off (off + n * m) h, eq_array hu hs he _ _ _ (by omega) w]
  simp [segEq]

/-! ### results that lie in memory -/
theorem result_cell {fn : Func} {p : Tmp} {T m : Nat} {P : Program} (h : fn.results = #[.cell p T]) (hT : AggT P T m) (tmps : Array Value) (b : Nat) (cs : Array Value) (w : World) (hp : tmps.getD p undef = .pointer (some ⟨b, 0, none⟩)) (hB : Has w b (0 + m)) (hc : (blk w b).extract 0 (0 + m) = cs) :
    (results fn tmps).run P w = .ok (.agg cs) w := by
  have h1 := run_loadVar_blk hT w b 0 hB
  rw [hc] at h1
  simp only [Array.getD_eq_getD_getElem?] at hp
  simp [results, h, hp, asAddr, h1]
theorem result_cell_tmp {fn : Func} {p u : Tmp} {T m : Nat} {P : Program} (h : fn.results = #[.cell p T, .tmp u]) (hT : AggT P T m) (tmps : Array Value) (b : Nat) (cs : Array Value) (v : Value) (w : World) (hp : tmps.getD p undef = .pointer (some ⟨b, 0, none⟩)) (hv : tmps.getD u undef = v) (hB : Has w b (0 + m)) (hc : (blk w b).extract 0 (0 + m) = cs) :
    (results fn tmps).run P w = .ok (.tuple #[.agg cs, v]) w := by
  have h1 := run_loadVar_blk hT w b 0 hB
  rw [hc] at h1
  rw [results_cell_tmp h, hp]
  simp [asAddr, h1, ← hv]
end Go.Proofs.Ytnjjcimpcnennaa
