/- Hopf algebras as values and as cells: the prime, the size, and 1104 bytes; literals of algebras and coalgebras. -/
import Derived.Test.YtnjjcimpcnennaaGen
namespace Go.Proofs.Ytnjjcimpcnennaa
open Go.RowKit
set_option linter.unusedSimpArgs false
set_option linter.unusedVariables false

/-- the cells of a Hopf algebra: f has the unit at 0..7, the table of products at 8..519, the Counit at 520..527, the coproducts at 528..1039, the antipode behind -/
def hop (p n : Int) (f : Nat → Int) : Array Value := #[.int .i64 p, .int .i64 n] ++ row 1104 f
/-- the Counit and the coproducts, as the cells of a coalgebra -/
def coF (f : Nat → Int) : Nat → Int := fun t => f (520 + t)
/-- the antipode -/
def anF (f : Nat → Int) : Nat → Int := fun t => f (1040 + t)
@[go_sem] theorem hop_size (p n : Int) (f : Nat → Int) : (hop p n f).size = 1106 := by simp [hop, row_size]
@[go_sem] theorem hop_prime (p n : Int) (f : Nat → Int) : (hop p n f)[0]? = some (.int .i64 p) := by unfold hop; rw [Array.getElem?_append]; simp
@[go_sem] theorem hop_len (p n : Int) (f : Nat → Int) : (hop p n f)[1]? = some (.int .i64 n) := by unfold hop; rw [Array.getElem?_append]; simp
@[go_sem] theorem hop_prime' (p n : Int) (f : Nat → Int) (h : 0 < (hop p n f).size) : (hop p n f)[0] = .int .i64 p := by
  have := hop_prime p n f
  rw [Array.getElem?_eq_getElem h] at this
  simpa using this
@[go_sem] theorem hop_len' (p n : Int) (f : Nat → Int) (h : 1 < (hop p n f).size) : (hop p n f)[1] = .int .i64 n := by
  have := hop_len p n f
  rw [Array.getElem?_eq_getElem h] at this
  simpa using this
theorem hop_get (p n : Int) (f : Nat → Int) (o : Nat) (h : 2 ≤ o) (h' : o < 1106) : (hop p n f)[o]? = some (.int .u8 (f (o - 2))) := by
  unfold hop
  rw [Array.getElem?_append]
  simp only [List.size_toArray, List.length_cons, List.length_nil]
  rw [if_neg (by omega), row_get? _ _ _ (by omega)]
theorem hop_none (p n : Int) (f : Nat → Int) (o : Nat) (h : 1106 ≤ o) : (hop p n f)[o]? = none := by
  rw [Array.getElem?_eq_none]; rw [hop_size]; exact h
theorem hop_congr {p n : Int} {f g : Nat → Int} (h : ∀ i, i < 1104 → f i = g i) : hop p n f = hop p n g := by
  unfold hop; rw [row_congr h]
theorem hop_ext {p n : Int} {f : Nat → Int} {c : Array Value} (h0 : c[0]? = some (.int .i64 p)) (h1 : c[1]? = some (.int .i64 n)) (h2 : ∀ i, i < 1104 → c[2 + i]? = some (.int .u8 (f i))) (h3 : ∀ i, 1106 ≤ i → c[i]? = none) : c = hop p n f := by
  apply Array.ext_getElem?
  intro i
  match i with
  | 0 => rw [h0, hop_prime]
  | 1 => rw [h1, hop_len]
  | i + 2 =>
    by_cases hi : i < 1104
    · rw [show i + 2 = 2 + i by omega, h2 i hi, hop_get p n f (2 + i) (by omega) (by omega), Nat.add_sub_cancel_left]
    · rw [h3 (i + 2) (by omega), hop_none p n f (i + 2) (by omega)]
theorem hop_cells (p n : Int) (f : Nat → Int) : (hop p n f).all (·.oneCell') = true := by
  unfold hop
  rw [Array.all_append, row_cells]
  simp [Value.oneCell']
@[go_sem] theorem hop_all (p n : Int) (f : Nat → Int) : (hop p n f).extract 0 1106 = hop p n f := by
  rw [show (1106 : Nat) = (hop p n f).size from (hop_size p n f).symm]; simp
theorem hop_part (p n : Int) (f : Nat → Int) (a m : Nat) (h : 2 ≤ a) (h' : a + m ≤ 1106) : (hop p n f).extract a (a + m) = row m fun t => f (a - 2 + t) := by
  apply Array.ext_getElem?
  intro i
  rw [Array.getElem?_extract, hop_size]
  by_cases hi : i < m
  · rw [if_pos (by omega), row_get? _ _ i hi, hop_get p n f (a + i) (by omega) (by omega)]
    rw [show a + i - 2 = a - 2 + i by omega]
  · rw [if_neg (by omega), row_get_none _ _ i (by omega)]
@[go_sem] theorem hop_unit (p n : Int) (f : Nat → Int) : (hop p n f).extract 2 10 = row 8 f := by
  rw [show (10 : Nat) = 2 + 8 from rfl, hop_part p n f 2 8 (by omega) (by omega)]
  exact row_congr fun i _ => by rw [Nat.sub_self, Nat.zero_add]
@[go_sem] theorem hop_unit' (p n : Int) (f : Nat → Int) : (hop p n f).extract 2 (2 + 8) = row 8 f := hop_unit p n f
@[go_sem] theorem hop_mul (p n : Int) (f : Nat → Int) : (hop p n f).extract 10 522 = row 512 (tab f) := by
  rw [show (522 : Nat) = 10 + 512 from rfl, hop_part p n f 10 512 (by omega) (by omega)]
  exact row_congr fun i _ => rfl
@[go_sem] theorem hop_mul' (p n : Int) (f : Nat → Int) : (hop p n f).extract 10 (10 + 512) = row 512 (tab f) := hop_mul p n f
@[go_sem] theorem hop_counit (p n : Int) (f : Nat → Int) : (hop p n f).extract 522 530 = row 8 (coF f) := by
  rw [show (530 : Nat) = 522 + 8 from rfl, hop_part p n f 522 8 (by omega) (by omega)]
  exact row_congr fun i _ => rfl
@[go_sem] theorem hop_counit' (p n : Int) (f : Nat → Int) : (hop p n f).extract 522 (522 + 8) = row 8 (coF f) := hop_counit p n f
@[go_sem] theorem hop_com (p n : Int) (f : Nat → Int) : (hop p n f).extract 530 1042 = row 512 (tab (coF f)) := by
  rw [show (1042 : Nat) = 530 + 512 from rfl, hop_part p n f 530 512 (by omega) (by omega)]
  exact row_congr fun i _ => by unfold tab coF; congr 1; omega
@[go_sem] theorem hop_com' (p n : Int) (f : Nat → Int) : (hop p n f).extract 530 (530 + 512) = row 512 (tab (coF f)) := hop_com p n f
@[go_sem] theorem hop_anti (p n : Int) (f : Nat → Int) : (hop p n f).extract 1042 1106 = row 64 (anF f) := by
  rw [show (1106 : Nat) = 1042 + 64 from rfl, hop_part p n f 1042 64 (by omega) (by omega)]
  exact row_congr fun i _ => rfl
@[go_sem] theorem hop_anti' (p n : Int) (f : Nat → Int) : (hop p n f).extract 1042 (1042 + 64) = row 64 (anF f) := hop_anti p n f
theorem hop_mul8 (p n : Int) (f : Nat → Int) (i j : Nat) (hi : i < 8) (hj : j < 8) : (hop p n f).extract (10 + i * 64 + j * 8) (10 + i * 64 + j * 8 + 8) = row 8 (mtab f i j) := by
  rw [hop_part p n f (10 + i * 64 + j * 8) 8 (by omega) (by omega)]
  exact row_congr fun t _ => by unfold mtab tab; congr 1; omega
theorem hop_com64 (p n : Int) (f : Nat → Int) (i : Nat) (hi : i < 8) : (hop p n f).extract (530 + i * 64) (530 + i * 64 + 64) = row 64 fun t => tab (coF f) (i * 64 + t) := by
  rw [hop_part p n f (530 + i * 64) 64 (by omega) (by omega)]
  exact row_congr fun t _ => by unfold tab coF; congr 1; omega
theorem hop_com8 (p n : Int) (f : Nat → Int) (i j : Nat) (hi : i < 8) (hj : j < 8) : (hop p n f).extract (530 + i * 64 + j * 8) (530 + i * 64 + j * 8 + 8) = row 8 (mtab (coF f) i j) := by
  rw [hop_part p n f (530 + i * 64 + j * 8) 8 (by omega) (by omega)]
  exact row_congr fun t _ => by unfold mtab tab coF; congr 1; omega
theorem hop_anti8 (p n : Int) (f : Nat → Int) (i : Nat) (hi : i < 8) : (hop p n f).extract (1042 + i * 8) (1042 + i * 8 + 8) = row 8 fun t => anF f (i * 8 + t) := by
  rw [hop_part p n f (1042 + i * 8) 8 (by omega) (by omega)]
  exact row_congr fun t _ => by unfold anF; congr 1; omega
theorem hop_uq (p n : Int) (f : Nat → Int) (i : Nat) (hi : i < 8) : (hop p n f)[2 + i]? = some (.int .u8 (f i)) := by rw [hop_get p n f _ (by omega) (by omega), Nat.add_sub_cancel_left]
theorem hop_cq (p n : Int) (f : Nat → Int) (i : Nat) (hi : i < 8) : (hop p n f)[522 + i]? = some (.int .u8 (coF f i)) := by rw [hop_get p n f _ (by omega) (by omega), show 522 + i - 2 = 520 + i by omega]; rfl
theorem hop_mq (p n : Int) (f : Nat → Int) (i j k : Nat) (hi : i < 8) (hj : j < 8) (hk : k < 8) : (hop p n f)[10 + i * 64 + j * 8 + k]? = some (.int .u8 (mtab f i j k)) := by
  rw [hop_get p n f _ (by omega) (by omega)]
  unfold mtab tab
  congr 3; omega
theorem hop_comq (p n : Int) (f : Nat → Int) (i j k : Nat) (hi : i < 8) (hj : j < 8) (hk : k < 8) : (hop p n f)[530 + i * 64 + j * 8 + k]? = some (.int .u8 (mtab (coF f) i j k)) := by
  rw [hop_get p n f _ (by omega) (by omega)]
  unfold mtab tab coF
  congr 3; omega
theorem el_of {c : Array Value} {i : Nat} {v : Value} (h : c[i]? = some v) (hi : i < c.size) : c[i] = v := by
  rw [Array.getElem?_eq_getElem hi] at h
  exact Option.some.inj h
theorem hop_ue (p n : Int) (f : Nat → Int) (i : Nat) (hi : i < 8) (h : 2 + i < (hop p n f).size) : (hop p n f)[2 + i] = .int .u8 (f i) := el_of (hop_uq p n f i hi) h
theorem hop_ce (p n : Int) (f : Nat → Int) (i : Nat) (hi : i < 8) (h : 522 + i < (hop p n f).size) : (hop p n f)[522 + i] = .int .u8 (coF f i) := el_of (hop_cq p n f i hi) h
theorem hop_me (p n : Int) (f : Nat → Int) (i j k : Nat) (hi : i < 8) (hj : j < 8) (hk : k < 8) (h : 10 + i * 64 + j * 8 + k < (hop p n f).size) : (hop p n f)[10 + i * 64 + j * 8 + k] = .int .u8 (mtab f i j k) := el_of (hop_mq p n f i j k hi hj hk) h
theorem hop_come (p n : Int) (f : Nat → Int) (i j k : Nat) (hi : i < 8) (hj : j < 8) (hk : k < 8) (h : 530 + i * 64 + j * 8 + k < (hop p n f).size) : (hop p n f)[530 + i * 64 + j * 8 + k] = .int .u8 (mtab (coF f) i j k) := el_of (hop_comq p n f i j k hi hj hk) h
theorem hop_bytes {f : Nat → Int} (h : Bytes 1104 f) : Bytes 520 f := fun i hi => h i (by omega)
theorem co_bytes {f : Nat → Int} (h : Bytes 1104 f) : Bytes 520 (coF f) := fun i hi => h (520 + i) (by omega)
theorem an_bytes {f : Nat → Int} (h : Bytes 1104 f) : Bytes 64 (anF f) := fun i hi => h (1040 + i) (by omega)
theorem lay_hop (p n : Int) (f g : Nat → Int) (a m : Nat) (h : a + m ≤ 1104) : lay (hop p n f) (2 + a) (row m g) = hop p n fun i => if a ≤ i ∧ i < a + m then g (i - a) else f i := by
  apply hop_ext
  · rw [lay_get _ _ _ _ (by rw [hop_size, row_size]; omega), if_neg (by omega), hop_prime]
  · rw [lay_get _ _ _ _ (by rw [hop_size, row_size]; omega), if_neg (by omega), hop_len]
  · intro i hi
    rw [lay_get _ _ _ _ (by rw [hop_size, row_size]; omega), row_size]
    by_cases h1 : a ≤ i ∧ i < a + m
    · rw [if_pos (by omega), if_pos h1, row_get? _ _ _ (by omega), show 2 + i - (2 + a) = i - a by omega]
    · rw [if_neg (by omega), if_neg h1, hop_get p n f (2 + i) (by omega) (by omega), Nat.add_sub_cancel_left]
  · intro i hi
    rw [lay_get _ _ _ _ (by rw [hop_size, row_size]; omega), row_size, if_neg (by omega), hop_none p n f i hi]
@[go_sem] theorem lay_hop_all (p n q m : Int) (f g : Nat → Int) : lay (hop p n f) 0 (hop q m g) = hop q m g := by
  apply Array.ext_getElem?
  intro i
  rw [lay_get _ _ _ _ (by rw [hop_size, hop_size]; omega), hop_size]
  split
  · rfl
  · rw [hop_none _ _ _ _ (by omega), hop_none _ _ _ _ (by omega)]
@[go_sem] theorem hop_set0 (p n q : Int) (f : Nat → Int) : (hop p n f).setIfInBounds 0 (.int .i64 q) = hop q n f := by
  apply hop_ext
  · rw [Array.getElem?_setIfInBounds]; simp [hop_size]
  · rw [Array.getElem?_setIfInBounds]; simp [hop_len]
  · intro i hi; rw [Array.getElem?_setIfInBounds, if_neg (by omega), hop_get p n f (2 + i) (by omega) (by omega), Nat.add_sub_cancel_left]
  · intro i hi; rw [Array.getElem?_setIfInBounds, if_neg (by omega), hop_none p n f i hi]
@[go_sem] theorem hop_set1 (p n q : Int) (f : Nat → Int) : (hop p n f).setIfInBounds 1 (.int .i64 q) = hop p q f := by
  apply hop_ext
  · rw [Array.getElem?_setIfInBounds]; simp [hop_prime]
  · rw [Array.getElem?_setIfInBounds]; simp [hop_size]
  · intro i hi; rw [Array.getElem?_setIfInBounds, if_neg (by omega), hop_get p n f (2 + i) (by omega) (by omega), Nat.add_sub_cancel_left]
  · intro i hi; rw [Array.getElem?_setIfInBounds, if_neg (by omega), hop_none p n f i hi]

/-! ### the operations at the type -/
theorem aggHop : AggT Try.prog 34 1106 := ⟨by kernel_rfl, by kernel_rfl⟩
@[go_sem ↓] theorem xloadHop (ρ : Operand → Value) (dst : Option Tmp) (a : Operand) (ty : TypeId) (pos : String) (after : Array Edge) (guard : Option (Nat × Bool)) (w : World) :
    (execOp ρ ⟨dst, .load 34 a, ty, pos, after, guard⟩).run Try.prog w = loadN Try.prog 34 (ρ a) w := rfl
@[go_sem] theorem loadHop (w : World) (b off : Nat) (h : Has w b (off + 1106)) :
    loadN Try.prog 34 (.pointer (some ⟨b, off, none⟩)) w = .ok (.value (.agg ((blk w b).extract off (off + 1106)))) w := loadN_at aggHop w b off h
@[go_sem ↓] theorem xstoreHop (ρ : Operand → Value) (dst : Option Tmp) (a x : Operand) (ty : TypeId) (pos : String) (after : Array Edge) (guard : Option (Nat × Bool)) (w : World) :
    (execOp ρ ⟨dst, .store 34 a x, ty, pos, after, guard⟩).run Try.prog w = storeN Try.prog 34 (ρ a) (ρ x) w := rfl
@[go_sem] theorem storeHop (w : World) (b off : Nat) (p n : Int) (f : Nat → Int) (h : Has w b (off + 1106)) :
    storeN Try.prog 34 (.pointer (some ⟨b, off, none⟩)) (.agg (hop p n f)) w = .ok .skip (w.setRow b (lay (blk w b) off (hop p n f))) := storeN_at aggHop w b off _ h (hop_size _ _ _) (hop_cells _ _ _)
@[go_sem ↓] theorem xallocHop (ρ : Operand → Value) (dst : Option Tmp) (ty : TypeId) (pos : String) (after : Array Edge) (guard : Option (Nat × Bool)) (w : World) :
    (execOp ρ ⟨dst, .alloc 34, ty, pos, after, guard⟩).run Try.prog w = allocN Try.prog 34 w := rfl
theorem row_zeros (n : Nat) : row n zf = (List.replicate n (Value.int .u8 0)).toArray := by
  apply Array.ext_getElem?
  intro i
  by_cases h : i < n
  · rw [row_get? n zf i h]; simp [h, zf]
  · rw [row_get_none n zf i (by omega)]; simp; omega
theorem zeros_gen (a b x : Value) (n : Nat) : #[a, b] ++ (List.replicate n x).toArray = ([a, b] ++ List.replicate n x).toArray := by simp
theorem hop_zeros : hop 0 0 zf = ([Value.int .i64 0, Value.int .i64 0] ++ List.replicate 1104 (Value.int .u8 0)).toArray := by
  unfold hop; rw [row_zeros]; exact zeros_gen _ _ _ 1104
theorem alg_zeros : alg 0 0 zf = ([Value.int .i64 0, Value.int .i64 0] ++ List.replicate 520 (Value.int .u8 0)).toArray := by
  unfold alg; rw [row_zeros]; exact zeros_gen _ _ _ 520
@[go_sem] theorem allocHop (w : World) : allocN Try.prog 34 w = .ok (.value (.pointer (some ⟨w.heap.size, 0, none⟩))) (w.alloc (.cells (hop 0 0 zf) 34)) := allocN_eq _ (by rw [hop_zeros]; kernel_rfl) w
theorem aggHopL : AggT Try.prog 26 1106 := ⟨by kernel_rfl, by kernel_rfl⟩
@[go_sem ↓] theorem xloadHopL (ρ : Operand → Value) (dst : Option Tmp) (a : Operand) (ty : TypeId) (pos : String) (after : Array Edge) (guard : Option (Nat × Bool)) (w : World) :
    (execOp ρ ⟨dst, .load 26 a, ty, pos, after, guard⟩).run Try.prog w = loadN Try.prog 26 (ρ a) w := rfl
@[go_sem] theorem loadHopL (w : World) (b off : Nat) (h : Has w b (off + 1106)) :
    loadN Try.prog 26 (.pointer (some ⟨b, off, none⟩)) w = .ok (.value (.agg ((blk w b).extract off (off + 1106)))) w := loadN_at aggHopL w b off h

/-! ### literals of structs -/
def buildS (P : Program) (T : TypeId) (ps : Array (Nat × Value)) (w : World) : Result Next := (do pure (Next.value (← Instr.build T ps)) : Sem Next).run P w
theorem fold_at (off : Nat) : ∀ (l : List Value) (k : Nat) (c : Array Value) (i : Nat), off + k + l.length ≤ c.size →
    ((l.zipIdx k).foldl (fun cs (x : Value × Nat) => cs.setIfInBounds (off + x.2) x.1) c)[i]? = if off + k ≤ i ∧ i < off + k + l.length then l[i - (off + k)]? else c[i]?
  | [], k, c, i, _ => by simp; intro h h'; omega
  | v :: l, k, c, i, h => by
    simp only [List.length_cons] at h
    rw [List.zipIdx_cons, List.foldl_cons, fold_at off l (k + 1) _ i (by simp; omega)]
    by_cases h1 : off + (k + 1) ≤ i ∧ i < off + (k + 1) + l.length
    · rw [if_pos h1, if_pos (by simp only [List.length_cons]; omega), show i - (off + k) = (i - (off + (k + 1))) + 1 by omega, List.getElem?_cons_succ]
    · rw [if_neg h1, Array.getElem?_setIfInBounds]
      by_cases h2 : off + k = i
      · subst h2
        rw [if_pos rfl, if_pos (by omega), if_pos (by simp only [List.length_cons]; omega)]
        simp
      · rw [if_neg h2, if_neg (by simp only [List.length_cons]; omega)]
theorem fold_lay (off : Nat) (cs c : Array Value) (h : off + cs.size ≤ c.size) : cs.zipIdx.foldl (fun cs (x : Value × Nat) => cs.setIfInBounds (off + x.2) x.1) c = lay c off cs := by
  apply Array.ext_getElem?
  intro i
  rw [lay_get _ _ _ _ h, ← Array.foldl_toList, Array.toList_zipIdx, fold_at off cs.toList 0 c i (by simpa using h)]
  simp
theorem fill_row {place : Nat → Option (Nat × Nat)} {c cs : Array Value} {i off m : Nat} {rest : List (Nat × Value)} (hp : place i = some (off, m)) (hm : cs.size = m) (h : off + m ≤ c.size) : Instr.fill place c ((i, .agg cs) :: rest) = Instr.fill place (lay c off cs) rest := by
  have e : (Value.agg cs).cells = cs := rfl
  rw [Instr.fill, hp]
  simp only [e, hm]
  rw [if_neg (by simp; omega), fold_lay off cs c (by omega)]
theorem fill_one {place : Nat → Option (Nat × Nat)} {c : Array Value} {i off : Nat} {k : IntKind} {x : Int} {rest : List (Nat × Value)} (hp : place i = some (off, 1)) (h : off + 1 ≤ c.size) : Instr.fill place c ((i, .int k x) :: rest) = Instr.fill place (c.setIfInBounds off (.int k x)) rest := by
  have e : (Value.int k x).cells = #[.int k x] := rfl
  rw [Instr.fill, hp]
  simp only [e]
  rw [if_neg (by simp; omega)]
  simp
theorem build_struct {P : Program} {T : TypeId} {fields : Array Field} {places : Array (Nat × Nat)} {zc c : Array Value} {ps : Array (Nat × Value)} (hu : P.underlying T = some (.struct fields)) (hz : (P.info? T).map (·.zero) = some (some (.agg zc)))
    (hp : ∀ w, (fields.mapM fun f => (do pure (f.offset, ← sizeOf f.type) : Sem (Nat × Nat))).run P w = .ok places w) (hf : Instr.fill (places[·]?) zc ps.toList = some c) (w : World) : buildS P T ps w = .ok (.value (.agg c)) w := by
  have hz' : (zeroValue T).run P w = .ok (.agg zc) w := by
    cases hq : P.info? T with
    | none => simp [hq] at hz
    | some i => simp [hq] at hz; simp [zeroValue, typeInfo, hq, hz]
  have e : (Value.agg zc).cells = zc := rfl
  simp only [buildS, Instr.build, Sem.run_bind, hz', Result.andThen_ok, run_underlying hu, hp, e, hf, Sem.run_pure]
/-- the unit u, and the table t behind it -/
def joinUT (u t : Nat → Int) : Nat → Int := fun i => if i < 8 then u i else t (i - 8)
def fieldsOf (P : Program) (T : TypeId) : Array Field := match P.underlying T with | some (.struct fs) => fs | _ => #[]
theorem build4 {P : Program} {T : TypeId} (hu : P.underlying T = some (.struct (fieldsOf P T))) (hz : (P.info? T).map (·.zero) = some (some (.agg (alg 0 0 zf))))
    (hp : ∀ w, ((fieldsOf P T).mapM fun f => (do pure (f.offset, ← sizeOf f.type) : Sem (Nat × Nat))).run P w = .ok #[(0, 1), (1, 1), (2, 8), (10, 512)] w) (p n : Int) (u t : Nat → Int) (w : World) :
    buildS P T #[(0, .int .i64 p), (1, .int .i64 n), (2, .agg (row 8 u)), (3, .agg (row 512 t))] w = .ok (.value (.agg (alg p n (joinUT u t)))) w := by
  refine build_struct hu hz hp ?_ w
  show Instr.fill _ _ [_, _, _, _] = _
  rw [fill_one (off := 0) rfl (by rw [alg_size]; omega), alg_set0, fill_one (off := 1) rfl (by rw [alg_size]; omega), alg_set1, fill_row (off := 2) (m := 8) rfl (row_size _ _) (by rw [alg_size]; omega),
    show (2 : Nat) = 2 + 0 from rfl, lay_alg _ _ _ _ 0 8 (by omega), fill_row (off := 10) (m := 512) rfl (row_size _ _) (by rw [alg_size]; omega), show (10 : Nat) = 2 + 8 from rfl, lay_alg _ _ _ _ 8 512 (by omega)]
  show some _ = some _
  refine congrArg some (alg_congr fun i hi => ?_)
  unfold joinUT zf
  by_cases h : i < 8
  · rw [if_neg (by omega), if_pos (by omega), if_pos h, Nat.sub_zero]
  · rw [if_pos (by omega), if_neg h]
@[go_sem ↓] theorem xbuildCo4 (ρ : Operand → Value) (dst : Option Tmp) (a b c d : Operand) (ty : TypeId) (pos : String) (after : Array Edge) (guard : Option (Nat × Bool)) (w : World) :
    (execOp ρ ⟨dst, .build 45 #[(0, a), (1, b), (2, c), (3, d)], ty, pos, after, guard⟩).run Try.prog w = buildS Try.prog 45 #[(0, ρ a), (1, ρ b), (2, ρ c), (3, ρ d)] w := by kernel_rfl
@[go_sem] theorem buildCo4 (p n : Int) (u t : Nat → Int) (w : World) : buildS Try.prog 45 #[(0, .int .i64 p), (1, .int .i64 n), (2, .agg (row 8 u)), (3, .agg (row 512 t))] w = .ok (.value (.agg (alg p n (joinUT u t)))) w := build4 (by kernel_rfl) (by rw [alg_zeros]; kernel_rfl) (fun w => by kernel_rfl) p n u t w
@[go_sem ↓] theorem xbuildAl4 (ρ : Operand → Value) (dst : Option Tmp) (a b c d : Operand) (ty : TypeId) (pos : String) (after : Array Edge) (guard : Option (Nat × Bool)) (w : World) :
    (execOp ρ ⟨dst, .build 40 #[(0, a), (1, b), (2, c), (3, d)], ty, pos, after, guard⟩).run Try.prog w = buildS Try.prog 40 #[(0, ρ a), (1, ρ b), (2, ρ c), (3, ρ d)] w := by kernel_rfl
@[go_sem] theorem buildAl4 (p n : Int) (u t : Nat → Int) (w : World) : buildS Try.prog 40 #[(0, .int .i64 p), (1, .int .i64 n), (2, .agg (row 8 u)), (3, .agg (row 512 t))] w = .ok (.value (.agg (alg p n (joinUT u t)))) w := build4 (by kernel_rfl) (by rw [alg_zeros]; kernel_rfl) (fun w => by kernel_rfl) p n u t w
theorem join_congr {p n : Int} {u t t' : Nat → Int} (h : row 512 t = row 512 t') : alg p n (joinUT u t) = alg p n (joinUT u t') := alg_congr fun i hi => by
  unfold joinUT
  split
  · rfl
  · exact row_inj h (i - 8) (by omega)
theorem join_self (p n : Int) (f : Nat → Int) : alg p n (joinUT f (tab f)) = alg p n f := alg_congr fun i hi => by
  unfold joinUT tab
  split
  · rfl
  · congr 1; omega
end Go.Proofs.Ytnjjcimpcnennaa
