/- Hopf algebras as values and as cells: the prime, the size, and 1104 bytes; literals of algebras and coalgebras. What Hopf algebras have of algebras and coalgebras, their shape; pairs of vectors, unit maps, linear maps one after the other. Products of tables of two vectors, convolutions, coproducts and Counits in Hopf algebras, sums of axioms 6 and 7. Products of pairs and the sums of axioms 6 and 7 by the reference model. -/
import Derived.Test.YtjmmmggnbndolaaGreatGen
import Derived.Test.YtjmmmggnbndolaaGreatQA
import Derived.Test.YtjmmmggnbndolaaGreatEqs
import Derived.Test.YtjmmmggnbndolaaGreatReg
namespace Go.Proofs.YtjmmmggnbndolaaGreat
section
open Go.RowKit
set_option linter.unusedSimpArgs false
set_option linter.unusedVariables false

/-- the cells of a Hopf algebra: f has the unit at 0..7, the table of products at 8..519, the Counit at 520..527, the coproducts at 528..1039, the antipode behind -/
def hop (p n : Int) (f : Nat → Int) : Array Value := #[.int .i64 p, .int .i64 n] ++ row 1104 f
/-- the Counit and the coproducts, as the cells of a coalgebra -/
def coF (f : Nat → Int) : Nat → Int := fun t => f (520 + t)
/-- the antipode -/
def anF (f : Nat → Int) : Nat → Int := fun t => f (1040 + t)
@[go_sem] theorem hop_size (p n : Int) (f : Nat → Int) : (hop p n f).size = 1106 := by simp [hop, row_size]
@[go_sem] theorem hop_prime (p n : Int) (f : Nat → Int) : (hop p n f)[0]? = some (.int .i64 p) := by unfold hop; rw [Array.getElem?_append]; simp
@[go_sem] theorem hop_len (p n : Int) (f : Nat → Int) : (hop p n f)[1]? = some (.int .i64 n) := by unfold hop; rw [Array.getElem?_append]; simp
@[go_sem] theorem hop_prime' (p n : Int) (f : Nat → Int) (h : 0 < (hop p n f).size) : (hop p n f)[0] = .int .i64 p := by
  have := hop_prime p n f
  rw [Array.getElem?_eq_getElem h] at this
  simpa using this
@[go_sem] theorem hop_len' (p n : Int) (f : Nat → Int) (h : 1 < (hop p n f).size) : (hop p n f)[1] = .int .i64 n := by
  have := hop_len p n f
  rw [Array.getElem?_eq_getElem h] at this
  simpa using this
theorem hop_get (p n : Int) (f : Nat → Int) (o : Nat) (h : 2 ≤ o) (h' : o < 1106) : (hop p n f)[o]? = some (.int .u8 (f (o - 2))) := by
  unfold hop
  rw [Array.getElem?_append]
  simp only [List.size_toArray, List.length_cons, List.length_nil]
  rw [if_neg (by omega), row_get? _ _ _ (by omega)]
theorem hop_none (p n : Int) (f : Nat → Int) (o : Nat) (h : 1106 ≤ o) : (hop p n f)[o]? = none := by
  rw [Array.getElem?_eq_none]; rw [hop_size]; exact h
theorem hop_congr {p n : Int} {f g : Nat → Int} (h : ∀ i, i < 1104 → f i = g i) : hop p n f = hop p n g := by
  unfold hop; rw [row_congr h]
theorem hop_ext {p n : Int} {f : Nat → Int} {c : Array Value} (h0 : c[0]? = some (.int .i64 p)) (h1 : c[1]? = some (.int .i64 n)) (h2 : ∀ i, i < 1104 → c[2 + i]? = some (.int .u8 (f i))) (h3 : ∀ i, 1106 ≤ i → c[i]? = none) : c = hop p n f := by
  apply Array.ext_getElem?
  intro i
  match i with
  | 0 => rw [h0, hop_prime]
  | 1 => rw [h1, hop_len]
  | i + 2 =>
    by_cases hi : i < 1104
    · rw [show i + 2 = 2 + i by omega, h2 i hi, hop_get p n f (2 + i) (by omega) (by omega), Nat.add_sub_cancel_left]
    · rw [h3 (i + 2) (by omega), hop_none p n f (i + 2) (by omega)]
theorem hop_cells (p n : Int) (f : Nat → Int) : (hop p n f).all (·.oneCell') = true := by
  unfold hop
  rw [Array.all_append, row_cells]
  simp [Value.oneCell']
@[go_sem] theorem hop_all (p n : Int) (f : Nat → Int) : (hop p n f).extract 0 1106 = hop p n f := by
  rw [show (1106 : Nat) = (hop p n f).size from (hop_size p n f).symm]; simp
theorem hop_part (p n : Int) (f : Nat → Int) (a m : Nat) (h : 2 ≤ a) (h' : a + m ≤ 1106) : (hop p n f).extract a (a + m) = row m fun t => f (a - 2 + t) := by
  apply Array.ext_getElem?
  intro i
  rw [Array.getElem?_extract, hop_size]
  by_cases hi : i < m
  · rw [if_pos (by omega), row_get? _ _ i hi, hop_get p n f (a + i) (by omega) (by omega)]
    rw [show a + i - 2 = a - 2 + i by omega]
  · rw [if_neg (by omega), row_get_none _ _ i (by omega)]
@[go_sem] theorem hop_unit (p n : Int) (f : Nat → Int) : (hop p n f).extract 2 10 = row 8 f := by
  rw [show (10 : Nat) = 2 + 8 from rfl, hop_part p n f 2 8 (by omega) (by omega)]
  exact row_congr fun i _ => by rw [Nat.sub_self, Nat.zero_add]
@[go_sem] theorem hop_unit' (p n : Int) (f : Nat → Int) : (hop p n f).extract 2 (2 + 8) = row 8 f := hop_unit p n f
@[go_sem] theorem hop_mul (p n : Int) (f : Nat → Int) : (hop p n f).extract 10 522 = row 512 (tab f) := by
  rw [show (522 : Nat) = 10 + 512 from rfl, hop_part p n f 10 512 (by omega) (by omega)]
  exact row_congr fun i _ => rfl
@[go_sem] theorem hop_mul' (p n : Int) (f : Nat → Int) : (hop p n f).extract 10 (10 + 512) = row 512 (tab f) := hop_mul p n f
@[go_sem] theorem hop_counit (p n : Int) (f : Nat → Int) : (hop p n f).extract 522 530 = row 8 (coF f) := by
  rw [show (530 : Nat) = 522 + 8 from rfl, hop_part p n f 522 8 (by omega) (by omega)]
  exact row_congr fun i _ => rfl
@[go_sem] theorem hop_counit' (p n : Int) (f : Nat → Int) : (hop p n f).extract 522 (522 + 8) = row 8 (coF f) := hop_counit p n f
@[go_sem] theorem hop_com (p n : Int) (f : Nat → Int) : (hop p n f).extract 530 1042 = row 512 (tab (coF f)) := by
  rw [show (1042 : Nat) = 530 + 512 from rfl, hop_part p n f 530 512 (by omega) (by omega)]
  exact row_congr fun i _ => by unfold tab coF; congr 1; omega
@[go_sem] theorem hop_com' (p n : Int) (f : Nat → Int) : (hop p n f).extract 530 (530 + 512) = row 512 (tab (coF f)) := hop_com p n f
@[go_sem] theorem hop_anti (p n : Int) (f : Nat → Int) : (hop p n f).extract 1042 1106 = row 64 (anF f) := by
  rw [show (1106 : Nat) = 1042 + 64 from rfl, hop_part p n f 1042 64 (by omega) (by omega)]
  exact row_congr fun i _ => rfl
@[go_sem] theorem hop_anti' (p n : Int) (f : Nat → Int) : (hop p n f).extract 1042 (1042 + 64) = row 64 (anF f) := hop_anti p n f
theorem hop_mul8 (p n : Int) (f : Nat → Int) (i j : Nat) (hi : i < 8) (hj : j < 8) : (hop p n f).extract (10 + i * 64 + j * 8) (10 + i * 64 + j * 8 + 8) = row 8 (mtab f i j) := by
  rw [hop_part p n f (10 + i * 64 + j * 8) 8 (by omega) (by omega)]
  exact row_congr fun t _ => by unfold mtab tab; congr 1; omega
theorem hop_com64 (p n : Int) (f : Nat → Int) (i : Nat) (hi : i < 8) : (hop p n f).extract (530 + i * 64) (530 + i * 64 + 64) = row 64 fun t => tab (coF f) (i * 64 + t) := by
  rw [hop_part p n f (530 + i * 64) 64 (by omega) (by omega)]
  exact row_congr fun t _ => by unfold tab coF; congr 1; omega
theorem hop_com8 (p n : Int) (f : Nat → Int) (i j : Nat) (hi : i < 8) (hj : j < 8) : (hop p n f).extract (530 + i * 64 + j * 8) (530 + i * 64 + j * 8 + 8) = row 8 (mtab (coF f) i j) := by
  rw [hop_part p n f (530 + i * 64 + j * 8) 8 (by omega) (by omega)]
  exact row_congr fun t _ => by unfold mtab tab coF; congr 1; omega
theorem hop_anti8 (p n : Int) (f : Nat → Int) (i : Nat) (hi : i < 8) : (hop p n f).extract (1042 + i * 8) (1042 + i * 8 + 8) = row 8 fun t => anF f (i * 8 + t) := by
  rw [hop_part p n f (1042 + i * 8) 8 (by omega) (by omega)]
  exact row_congr fun t _ => by unfold anF; congr 1; omega
theorem hop_uq (p n : Int) (f : Nat → Int) (i : Nat) (hi : i < 8) : (hop p n f)[2 + i]? = some (.int .u8 (f i)) := by rw [hop_get p n f _ (by omega) (by omega), Nat.add_sub_cancel_left]
theorem hop_cq (p n : Int) (f : Nat → Int) (i : Nat) (hi : i < 8) : (hop p n f)[522 + i]? = some (.int .u8 (coF f i)) := by rw [hop_get p n f _ (by omega) (by omega), show 522 + i - 2 = 520 + i by omega]; rfl
theorem hop_mq (p n : Int) (f : Nat → Int) (i j k : Nat) (hi : i < 8) (hj : j < 8) (hk : k < 8) : (hop p n f)[10 + i * 64 + j * 8 + k]? = some (.int .u8 (mtab f i j k)) := by
  rw [hop_get p n f _ (by omega) (by omega)]
  unfold mtab tab
  congr 3; omega
theorem hop_comq (p n : Int) (f : Nat → Int) (i j k : Nat) (hi : i < 8) (hj : j < 8) (hk : k < 8) : (hop p n f)[530 + i * 64 + j * 8 + k]? = some (.int .u8 (mtab (coF f) i j k)) := by
  rw [hop_get p n f _ (by omega) (by omega)]
  unfold mtab tab coF
  congr 3; omega
theorem el_of {c : Array Value} {i : Nat} {v : Value} (h : c[i]? = some v) (hi : i < c.size) : c[i] = v := by
  rw [Array.getElem?_eq_getElem hi] at h
  exact Option.some.inj h
theorem hop_ue (p n : Int) (f : Nat → Int) (i : Nat) (hi : i < 8) (h : 2 + i < (hop p n f).size) : (hop p n f)[2 + i] = .int .u8 (f i) := el_of (hop_uq p n f i hi) h
theorem hop_ce (p n : Int) (f : Nat → Int) (i : Nat) (hi : i < 8) (h : 522 + i < (hop p n f).size) : (hop p n f)[522 + i] = .int .u8 (coF f i) := el_of (hop_cq p n f i hi) h
theorem hop_me (p n : Int) (f : Nat → Int) (i j k : Nat) (hi : i < 8) (hj : j < 8) (hk : k < 8) (h : 10 + i * 64 + j * 8 + k < (hop p n f).size) : (hop p n f)[10 + i * 64 + j * 8 + k] = .int .u8 (mtab f i j k) := el_of (hop_mq p n f i j k hi hj hk) h
theorem hop_come (p n : Int) (f : Nat → Int) (i j k : Nat) (hi : i < 8) (hj : j < 8) (hk : k < 8) (h : 530 + i * 64 + j * 8 + k < (hop p n f).size) : (hop p n f)[530 + i * 64 + j * 8 + k] = .int .u8 (mtab (coF f) i j k) := el_of (hop_comq p n f i j k hi hj hk) h
theorem hop_bytes {f : Nat → Int} (h : Bytes 1104 f) : Bytes 520 f := fun i hi => h i (by omega)
theorem co_bytes {f : Nat → Int} (h : Bytes 1104 f) : Bytes 520 (coF f) := fun i hi => h (520 + i) (by omega)
theorem an_bytes {f : Nat → Int} (h : Bytes 1104 f) : Bytes 64 (anF f) := fun i hi => h (1040 + i) (by omega)
theorem lay_hop (p n : Int) (f g : Nat → Int) (a m : Nat) (h : a + m ≤ 1104) : lay (hop p n f) (2 + a) (row m g) = hop p n fun i => if a ≤ i ∧ i < a + m then g (i - a) else f i := by
  apply hop_ext
  · rw [lay_get _ _ _ _ (by rw [hop_size, row_size]; omega), if_neg (by omega), hop_prime]
  · rw [lay_get _ _ _ _ (by rw [hop_size, row_size]; omega), if_neg (by omega), hop_len]
  · intro i hi
    rw [lay_get _ _ _ _ (by rw [hop_size, row_size]; omega), row_size]
    by_cases h1 : a ≤ i ∧ i < a + m
    · rw [if_pos (by omega), if_pos h1, row_get? _ _ _ (by omega), show 2 + i - (2 + a) = i - a by omega]
    · rw [if_neg (by omega), if_neg h1, hop_get p n f (2 + i) (by omega) (by omega), Nat.add_sub_cancel_left]
  · intro i hi
    rw [lay_get _ _ _ _ (by rw [hop_size, row_size]; omega), row_size, if_neg (by omega), hop_none p n f i hi]
@[go_sem] theorem lay_hop_all (p n q m : Int) (f g : Nat → Int) : lay (hop p n f) 0 (hop q m g) = hop q m g := by
  apply Array.ext_getElem?
  intro i
  rw [lay_get _ _ _ _ (by rw [hop_size, hop_size]; omega), hop_size]
  split
  · rfl
  · rw [hop_none _ _ _ _ (by omega), hop_none _ _ _ _ (by omega)]
@[go_sem] theorem hop_set0 (p n q : Int) (f : Nat → Int) : (hop p n f).setIfInBounds 0 (.int .i64 q) = hop q n f := by
  apply hop_ext
  · rw [Array.getElem?_setIfInBounds]; simp [hop_size]
  · rw [Array.getElem?_setIfInBounds]; simp [hop_len]
  · intro i hi; rw [Array.getElem?_setIfInBounds, if_neg (by omega), hop_get p n f (2 + i) (by omega) (by omega), Nat.add_sub_cancel_left]
  · intro i hi; rw [Array.getElem?_setIfInBounds, if_neg (by omega), hop_none p n f i hi]
@[go_sem] theorem hop_set1 (p n q : Int) (f : Nat → Int) : (hop p n f).setIfInBounds 1 (.int .i64 q) = hop p q f := by
  apply hop_ext
  · rw [Array.getElem?_setIfInBounds]; simp [hop_prime]
  · rw [Array.getElem?_setIfInBounds]; simp [hop_size]
  · intro i hi; rw [Array.getElem?_setIfInBounds, if_neg (by omega), hop_get p n f (2 + i) (by omega) (by omega), Nat.add_sub_cancel_left]
  · intro i hi; rw [Array.getElem?_setIfInBounds, if_neg (by omega), hop_none p n f i hi]

/-! ### the operations at the type -/
theorem aggHop : AggT Tryz.prog 38 1106 := ⟨by kernel_rfl, by kernel_rfl⟩
@[go_sem ↓] theorem xloadHop (ρ : Operand → Value) (dst : Option Tmp) (a : Operand) (ty : TypeId) (pos : String) (after : Array Edge) (guard : Option (Nat × Bool)) (w : World) :
    (execOp ρ ⟨dst, .load 38 a, ty, pos, after, guard⟩).run Tryz.prog w = loadN Tryz.prog 38 (ρ a) w := rfl
@[go_sem] theorem loadHop (w : World) (b off : Nat) (h : Has w b (off + 1106)) :
    loadN Tryz.prog 38 (.pointer (some ⟨b, off, none⟩)) w = .ok (.value (.agg ((blk w b).extract off (off + 1106)))) w := loadN_at aggHop w b off h
@[go_sem ↓] theorem xstoreHop (ρ : Operand → Value) (dst : Option Tmp) (a x : Operand) (ty : TypeId) (pos : String) (after : Array Edge) (guard : Option (Nat × Bool)) (w : World) :
    (execOp ρ ⟨dst, .store 38 a x, ty, pos, after, guard⟩).run Tryz.prog w = storeN Tryz.prog 38 (ρ a) (ρ x) w := rfl
@[go_sem] theorem storeHop (w : World) (b off : Nat) (p n : Int) (f : Nat → Int) (h : Has w b (off + 1106)) :
    storeN Tryz.prog 38 (.pointer (some ⟨b, off, none⟩)) (.agg (hop p n f)) w = .ok .skip (w.setRow b (lay (blk w b) off (hop p n f))) := storeN_at aggHop w b off _ h (hop_size _ _ _) (hop_cells _ _ _)
@[go_sem ↓] theorem xallocHop (ρ : Operand → Value) (dst : Option Tmp) (ty : TypeId) (pos : String) (after : Array Edge) (guard : Option (Nat × Bool)) (w : World) :
    (execOp ρ ⟨dst, .alloc 38, ty, pos, after, guard⟩).run Tryz.prog w = allocN Tryz.prog 38 w := rfl
theorem hop_zeros : hop 0 0 zf = ([Value.int .i64 0, Value.int .i64 0] ++ List.replicate 1104 (Value.int .u8 0)).toArray := by
  unfold hop; rw [row_zeros]; exact zeros_gen _ _ _ 1104
@[go_sem] theorem allocHop (w : World) : allocN Tryz.prog 38 w = .ok (.value (.pointer (some ⟨w.heap.size, 0, none⟩))) (w.alloc (.cells (hop 0 0 zf) 38)) := allocN_eq _ (by rw [hop_zeros]; kernel_rfl) w
theorem aggHopL : AggT Tryz.prog 26 1106 := ⟨by kernel_rfl, by kernel_rfl⟩
@[go_sem ↓] theorem xloadHopL (ρ : Operand → Value) (dst : Option Tmp) (a : Operand) (ty : TypeId) (pos : String) (after : Array Edge) (guard : Option (Nat × Bool)) (w : World) :
    (execOp ρ ⟨dst, .load 26 a, ty, pos, after, guard⟩).run Tryz.prog w = loadN Tryz.prog 26 (ρ a) w := rfl
@[go_sem] theorem loadHopL (w : World) (b off : Nat) (h : Has w b (off + 1106)) :
    loadN Tryz.prog 26 (.pointer (some ⟨b, off, none⟩)) w = .ok (.value (.agg ((blk w b).extract off (off + 1106)))) w := loadN_at aggHopL w b off h

/-! ### literals of structs -/
def buildS (P : Program) (T : TypeId) (ps : Array (Nat × Value)) (w : World) : Result Next := (do pure (Next.value (← Instr.build T ps)) : Sem Next).run P w
theorem fold_at (off : Nat) : ∀ (l : List Value) (k : Nat) (c : Array Value) (i : Nat), off + k + l.length ≤ c.size →
    ((l.zipIdx k).foldl (fun cs (x : Value × Nat) => cs.setIfInBounds (off + x.2) x.1) c)[i]? = if off + k ≤ i ∧ i < off + k + l.length then l[i - (off + k)]? else c[i]?
  | [], k, c, i, _ => by simp; intro h h'; omega
  | v :: l, k, c, i, h => by
    simp only [List.length_cons] at h
    rw [List.zipIdx_cons, List.foldl_cons, fold_at off l (k + 1) _ i (by simp; omega)]
    by_cases h1 : off + (k + 1) ≤ i ∧ i < off + (k + 1) + l.length
    · rw [if_pos h1, if_pos (by simp only [List.length_cons]; omega), show i - (off + k) = (i - (off + (k + 1))) + 1 by omega, List.getElem?_cons_succ]
    · rw [if_neg h1, Array.getElem?_setIfInBounds]
      by_cases h2 : off + k = i
      · subst h2
        rw [if_pos rfl, if_pos (by omega), if_pos (by simp only [List.length_cons]; omega)]
        simp
      · rw [if_neg h2, if_neg (by simp only [List.length_cons]; omega)]
theorem fold_lay (off : Nat) (cs c : Array Value) (h : off + cs.size ≤ c.size) : cs.zipIdx.foldl (fun cs (x : Value × Nat) => cs.setIfInBounds (off + x.2) x.1) c = lay c off cs := by
  apply Array.ext_getElem?
  intro i
  rw [lay_get _ _ _ _ h, ← Array.foldl_toList, Array.toList_zipIdx, fold_at off cs.toList 0 c i (by simpa using h)]
  simp
theorem fill_row {place : Nat → Option (Nat × Nat)} {c cs : Array Value} {i off m : Nat} {rest : List (Nat × Value)} (hp : place i = some (off, m)) (hm : cs.size = m) (h : off + m ≤ c.size) : Instr.fill place c ((i, .agg cs) :: rest) = Instr.fill place (lay c off cs) rest := by
  have e : (Value.agg cs).cells = cs := rfl
  rw [Instr.fill, hp]
  simp only [e, hm]
  rw [if_neg (by simp; omega), fold_lay off cs c (by omega)]
theorem fill_one {place : Nat → Option (Nat × Nat)} {c : Array Value} {i off : Nat} {k : IntKind} {x : Int} {rest : List (Nat × Value)} (hp : place i = some (off, 1)) (h : off + 1 ≤ c.size) : Instr.fill place c ((i, .int k x) :: rest) = Instr.fill place (c.setIfInBounds off (.int k x)) rest := by
  have e : (Value.int k x).cells = #[.int k x] := rfl
  rw [Instr.fill, hp]
  simp only [e]
  rw [if_neg (by simp; omega)]
  simp
theorem build_struct {P : Program} {T : TypeId} {fields : Array Field} {places : Array (Nat × Nat)} {zc c : Array Value} {ps : Array (Nat × Value)} (hu : P.underlying T = some (.struct fields)) (hz : (P.info? T).map (·.zero) = some (some (.agg zc)))
    (hp : ∀ w, (fields.mapM fun f => (do pure (f.offset, ← sizeOf f.type) : Sem (Nat × Nat))).run P w = .ok places w) (hf : Instr.fill (places[·]?) zc ps.toList = some c) (w : World) : buildS P T ps w = .ok (.value (.agg c)) w := by
  have hz' : (zeroValue T).run P w = .ok (.agg zc) w := by
    cases hq : P.info? T with
    | none => simp [hq] at hz
    | some i => simp [hq] at hz; simp [zeroValue, typeInfo, hq, hz]
  have e : (Value.agg zc).cells = zc := rfl
  simp only [buildS, Instr.build, Sem.run_bind, hz', Result.andThen_ok, run_underlying hu, hp, e, hf, Sem.run_pure]
/-- the unit u, and the table t behind it -/
def joinUT (u t : Nat → Int) : Nat → Int := fun i => if i < 8 then u i else t (i - 8)
def fieldsOf (P : Program) (T : TypeId) : Array Field := match P.underlying T with | some (.struct fs) => fs | _ => #[]
theorem build4 {P : Program} {T : TypeId} (hu : P.underlying T = some (.struct (fieldsOf P T))) (hz : (P.info? T).map (·.zero) = some (some (.agg (alg 0 0 zf))))
    (hp : ∀ w, ((fieldsOf P T).mapM fun f => (do pure (f.offset, ← sizeOf f.type) : Sem (Nat × Nat))).run P w = .ok #[(0, 1), (1, 1), (2, 8), (10, 512)] w) (p n : Int) (u t : Nat → Int) (w : World) :
    buildS P T #[(0, .int .i64 p), (1, .int .i64 n), (2, .agg (row 8 u)), (3, .agg (row 512 t))] w = .ok (.value (.agg (alg p n (joinUT u t)))) w := by
  refine build_struct hu hz hp ?_ w
  show Instr.fill _ _ [_, _, _, _] = _
  rw [fill_one (off := 0) rfl (by rw [alg_size]; omega), alg_set0, fill_one (off := 1) rfl (by rw [alg_size]; omega), alg_set1, fill_row (off := 2) (m := 8) rfl (row_size _ _) (by rw [alg_size]; omega),
    show (2 : Nat) = 2 + 0 from rfl, lay_alg _ _ _ _ 0 8 (by omega), fill_row (off := 10) (m := 512) rfl (row_size _ _) (by rw [alg_size]; omega), show (10 : Nat) = 2 + 8 from rfl, lay_alg _ _ _ _ 8 512 (by omega)]
  show some _ = some _
  refine congrArg some (alg_congr fun i hi => ?_)
  unfold joinUT zf
  by_cases h : i < 8
  · rw [if_neg (by omega), if_pos (by omega), if_pos h, Nat.sub_zero]
  · rw [if_pos (by omega), if_neg h]
@[go_sem ↓] theorem xbuildCo4 (ρ : Operand → Value) (dst : Option Tmp) (a b c d : Operand) (ty : TypeId) (pos : String) (after : Array Edge) (guard : Option (Nat × Bool)) (w : World) :
    (execOp ρ ⟨dst, .build 92 #[(0, a), (1, b), (2, c), (3, d)], ty, pos, after, guard⟩).run Tryz.prog w = buildS Tryz.prog 92 #[(0, ρ a), (1, ρ b), (2, ρ c), (3, ρ d)] w := by kernel_rfl
@[go_sem] theorem buildCo4 (p n : Int) (u t : Nat → Int) (w : World) : buildS Tryz.prog 92 #[(0, .int .i64 p), (1, .int .i64 n), (2, .agg (row 8 u)), (3, .agg (row 512 t))] w = .ok (.value (.agg (alg p n (joinUT u t)))) w := build4 (by kernel_rfl) (by rw [alg_zeros]; kernel_rfl) (fun w => by kernel_rfl) p n u t w
@[go_sem ↓] theorem xbuildAl4 (ρ : Operand → Value) (dst : Option Tmp) (a b c d : Operand) (ty : TypeId) (pos : String) (after : Array Edge) (guard : Option (Nat × Bool)) (w : World) :
    (execOp ρ ⟨dst, .build 131 #[(0, a), (1, b), (2, c), (3, d)], ty, pos, after, guard⟩).run Tryz.prog w = buildS Tryz.prog 131 #[(0, ρ a), (1, ρ b), (2, ρ c), (3, ρ d)] w := by kernel_rfl
@[go_sem] theorem buildAl4 (p n : Int) (u t : Nat → Int) (w : World) : buildS Tryz.prog 131 #[(0, .int .i64 p), (1, .int .i64 n), (2, .agg (row 8 u)), (3, .agg (row 512 t))] w = .ok (.value (.agg (alg p n (joinUT u t)))) w := build4 (by kernel_rfl) (by rw [alg_zeros]; kernel_rfl) (fun w => by kernel_rfl) p n u t w
theorem join_congr {p n : Int} {u t t' : Nat → Int} (h : row 512 t = row 512 t') : alg p n (joinUT u t) = alg p n (joinUT u t') := alg_congr fun i hi => by
  unfold joinUT
  split
  · rfl
  · exact row_inj h (i - 8) (by omega)
theorem join_self (p n : Int) (f : Nat → Int) : alg p n (joinUT f (tab f)) = alg p n f := alg_congr fun i hi => by
  unfold joinUT tab
  split
  · rfl
  · congr 1; omega
end
section
open Go.RowKit
set_option linter.unusedSimpArgs false
set_option linter.unusedVariables false
attribute [local irreducible] wpQuiet wpQE

/-- p, n, f is shaped -/
def shapeH (p n : Int) (f : Nat → Int) : Bool := (shapeB p n f && shapeB p n (coF f)) && linB p n (anF f)
theorem lin_sizes {p n : Int} {f F : Nat → Int} (h : shapeB p n f = true) : (sizesB p n && linB p n F) = linB p n F := by rw [(shape_parts h).1, Bool.true_and]
theorem shapeH_parts {p n : Int} {f : Nat → Int} (h : shapeH p n f = true) : shapeB p n f = true ∧ shapeB p n (coF f) = true ∧ linB p n (anF f) = true := by
  unfold shapeH at h
  simp only [Bool.and_eq_true] at h
  exact ⟨h.1.1, h.1.2, h.2⟩

set_option maxRecDepth 100000 in
set_option maxHeartbeats 1000000 in
theorem algebraOf_any (p n : Int) (f : Nat → Int) (w : World)  :
    Calls Tryz.prog 135 #[.agg (hop p n f)] w fun e w' => e = .returned (.agg (alg p n f)) ∧ Below w.heap.size w w' := by
 go_enter Tryz.func135, Tryz.ntmps135
 go_wp2_with fail
 refine bodyPost_ret (result_cell rfl aggAlg _ _ (alg p n (joinUT f (tab f))) _ rfl ?_ ?_) rfl ⟨by rw [join_self], ?_⟩
 · simp [go_sem]
 · simp [go_sem]
 · exact bt

set_option maxRecDepth 100000 in
set_option maxHeartbeats 1000000 in
theorem l03Algebra_any (p n : Int) (f : Nat → Int) (w : World)  :
    Calls Tryz.prog 86 #[.agg (hop p n f)] w fun e w' => e = .returned (.agg (alg p n f)) ∧ Below w.heap.size w w' := by
 go_enter Tryz.func86, Tryz.ntmps86
 go_wp2_with fail
 refine bodyPost_ret (result_cell rfl aggAlg _ _ (alg p n (joinUT f (tab f))) _ rfl ?_ ?_) rfl ⟨by rw [join_self], ?_⟩
 · simp [go_sem]
 · simp [go_sem]
 · exact bt

set_option maxRecDepth 100000 in
set_option maxHeartbeats 1000000 in
theorem coalgebraOf_any (p n : Int) (f : Nat → Int) (w : World)  :
    Calls Tryz.prog 55 #[.agg (hop p n f)] w fun e w' => e = .returned (.agg (alg p n (coF f))) ∧ Below w.heap.size w w' := by
 go_enter Tryz.func55, Tryz.ntmps55
 go_wp2_with fail
 refine bodyPost_ret (result_cell rfl aggCoa _ _ (alg p n (joinUT (coF f) (tab (coF f)))) _ rfl ?_ ?_) rfl ⟨by rw [join_self], ?_⟩
 · simp [go_sem]
 · simp [go_sem]
 · exact bt

set_option maxRecDepth 100000 in
set_option maxHeartbeats 1000000 in
theorem l03Coalgebra_any (p n : Int) (f : Nat → Int) (w : World)  :
    Calls Tryz.prog 150 #[.agg (hop p n f)] w fun e w' => e = .returned (.agg (alg p n (coF f))) ∧ Below w.heap.size w w' := by
 go_enter Tryz.func150, Tryz.ntmps150
 go_wp2_with fail
 refine bodyPost_ret (result_cell rfl aggCoa _ _ (alg p n (joinUT (coF f) (tab (coF f)))) _ rfl ?_ ?_) rfl ⟨by rw [join_self], ?_⟩
 · simp [go_sem]
 · simp [go_sem]
 · exact bt

set_option maxRecDepth 100000 in
set_option maxHeartbeats 1000000 in
theorem isShapedHopf_any (p n : Int) (f : Nat → Int) (w : World) (hF : Bytes 1104 f) :
    Calls Tryz.prog 106 #[.agg (hop p n f)] w fun e w' => e = .returned (.bool (shapeH p n f)) ∧ Below w.heap.size w w' := by
 have HF := Lib.hid hF; clear hF
 have HA : Hid (Bytes 520 f) := Lib.hid (hop_bytes HF.out)
 have HC : Hid (Bytes 520 (coF f)) := Lib.hid (co_bytes HF.out)
 have HS : Hid (Bytes 64 (anF f)) := Lib.hid (an_bytes HF.out)
 have H : Hid (shapeH p n f = ((shapeB p n f && shapeB p n (coF f)) && linB p n (anF f))) := Lib.hid rfl
 cases h1 : shapeB p n f
 ·
  go_enter Tryz.func106, Tryz.ntmps106
  go_wp2_with fail
  refine atomC fun W1 e1 => ?_
  have hb1 : Below w.heap.size w W1 := by rw [e1]; exact bt
  have q1 := hb1.size
  have r1_1 : IsRow W1 (w.heap.size) := by rw [e1]; simp [go_sem]
  have c1_1 := congrArg (fun x => blk x (w.heap.size)) e1; simp [go_sem] at c1_1
  have z1_1 := isRow_lt r1_1
  clear e1
  refine (algebraOf_any _ _ _ _).mono ?_; rintro _ W2 ⟨rfl, hw2⟩
  obtain ⟨r1_2, c1_2, z1_2⟩ := keepZ hw2 z1_1 r1_1 c1_1
  obtain ⟨hb2, q2⟩ := bN hb1 hw2
  clear hw2 r1_1 c1_1 z1_1 hb1
  go_wp2_with fail
  refine (isShaped_any _ _ _ _ HA.out).mono ?_; rintro _ W3 ⟨rfl, hw3⟩
  obtain ⟨r1_3, c1_3, z1_3⟩ := keepZ hw3 z1_2 r1_2 c1_2
  obtain ⟨hb3, q3⟩ := bN hb2 hw3
  clear hw3 r1_2 c1_2 z1_2 hb2
  go_wp2_with fail
  go_ret
  exact ⟨ret_bool (by rw [H.out, h1] <;> rfl), bt⟩
 ·
  cases h2 : shapeB p n (coF f)
  ·
   go_enter Tryz.func106, Tryz.ntmps106
   go_wp2_with fail
   refine atomC fun W4 e4 => ?_
   have hb4 : Below w.heap.size w W4 := by rw [e4]; exact bt
   have q4 := hb4.size
   have r1_4 : IsRow W4 (w.heap.size) := by rw [e4]; simp [go_sem]
   have c1_4 := congrArg (fun x => blk x (w.heap.size)) e4; simp [go_sem] at c1_4
   have z1_4 := isRow_lt r1_4
   clear e4
   refine (algebraOf_any _ _ _ _).mono ?_; rintro _ W5 ⟨rfl, hw5⟩
   obtain ⟨r1_5, c1_5, z1_5⟩ := keepZ hw5 z1_4 r1_4 c1_4
   obtain ⟨hb5, q5⟩ := bN hb4 hw5
   clear hw5 r1_4 c1_4 z1_4 hb4
   go_wp2_with fail
   refine (isShaped_any _ _ _ _ HA.out).mono ?_; rintro _ W6 ⟨rfl, hw6⟩
   obtain ⟨r1_6, c1_6, z1_6⟩ := keepZ hw6 z1_5 r1_5 c1_5
   obtain ⟨hb6, q6⟩ := bN hb5 hw6
   clear hw6 r1_5 c1_5 z1_5 hb5
   go_wp2_with fail
   refine (coalgebraOf_any _ _ _ _).mono ?_; rintro _ W7 ⟨rfl, hw7⟩
   obtain ⟨r1_7, c1_7, z1_7⟩ := keepZ hw7 z1_6 r1_6 c1_6
   obtain ⟨hb7, q7⟩ := bN hb6 hw7
   clear hw7 r1_6 c1_6 z1_6 hb6
   go_wp2_with fail
   refine (isShapedCo_any _ _ _ _ HC.out).mono ?_; rintro _ W8 ⟨rfl, hw8⟩
   obtain ⟨r1_8, c1_8, z1_8⟩ := keepZ hw8 z1_7 r1_7 c1_7
   obtain ⟨hb8, q8⟩ := bN hb7 hw8
   clear hw8 r1_7 c1_7 z1_7 hb7
   go_wp2_with fail
   go_ret
   exact ⟨ret_bool (by rw [H.out, h1, h2] <;> rfl), bt⟩
  ·
   have HL := Lib.hid (lin_sizes (F := anF f) h1)
   go_enter Tryz.func106, Tryz.ntmps106
   go_wp2_with fail
   refine atomC fun W9 e9 => ?_
   have hb9 : Below w.heap.size w W9 := by rw [e9]; exact bt
   have q9 := hb9.size
   have r1_9 : IsRow W9 (w.heap.size) := by rw [e9]; simp [go_sem]
   have c1_9 := congrArg (fun x => blk x (w.heap.size)) e9; simp [go_sem] at c1_9
   have z1_9 := isRow_lt r1_9
   clear e9
   refine (algebraOf_any _ _ _ _).mono ?_; rintro _ W10 ⟨rfl, hw10⟩
   obtain ⟨r1_10, c1_10, z1_10⟩ := keepZ hw10 z1_9 r1_9 c1_9
   obtain ⟨hb10, q10⟩ := bN hb9 hw10
   clear hw10 r1_9 c1_9 z1_9 hb9
   go_wp2_with fail
   refine (isShaped_any _ _ _ _ HA.out).mono ?_; rintro _ W11 ⟨rfl, hw11⟩
   obtain ⟨r1_11, c1_11, z1_11⟩ := keepZ hw11 z1_10 r1_10 c1_10
   obtain ⟨hb11, q11⟩ := bN hb10 hw11
   clear hw11 r1_10 c1_10 z1_10 hb10
   go_wp2_with fail
   refine (coalgebraOf_any _ _ _ _).mono ?_; rintro _ W12 ⟨rfl, hw12⟩
   obtain ⟨r1_12, c1_12, z1_12⟩ := keepZ hw12 z1_11 r1_11 c1_11
   obtain ⟨hb12, q12⟩ := bN hb11 hw12
   clear hw12 r1_11 c1_11 z1_11 hb11
   go_wp2_with fail
   refine (isShapedCo_any _ _ _ _ HC.out).mono ?_; rintro _ W13 ⟨rfl, hw13⟩
   obtain ⟨r1_13, c1_13, z1_13⟩ := keepZ hw13 z1_12 r1_12 c1_12
   obtain ⟨hb13, q13⟩ := bN hb12 hw13
   clear hw13 r1_12 c1_12 z1_12 hb12
   go_wp2_with fail
   refine (isLinear_any _ _ _ _ HS.out).mono ?_; rintro _ W14 ⟨rfl, hw14⟩
   obtain ⟨hb14, q14⟩ := bN hb13 hw14
   clear hw14 hb13
   go_wp2_with fail
   go_ret
   exact ⟨ret_bool (by rw [H.out, h1, h2, HL.out] <;> rfl), bt⟩

theorem shapeH_spec (p n : Int) (f : Nat → Int) : shapeH p n f = (((shapeB p n f && vecB p n (coF f)) && tabB p n (tab (coF f))) && linB p n (anF f)) := by
  unfold shapeH
  cases h : shapeB p n f
  · rfl
  · have := (shape_parts h).1
    rw [show shapeB p n (coF f) = (sizesB p n && (vecB p n (coF f) && tabB p n (tab (coF f)))) from rfl, this]
    cases vecB p n (coF f) <;> cases tabB p n (tab (coF f)) <;> rfl
theorem co_unit {f : Nat → Int} (h : Bytes 1104 f) : Bytes 8 (coF f) := unit_bytes (co_bytes h)
theorem co_tab {f : Nat → Int} (h : Bytes 1104 f) : Bytes 512 (tab (coF f)) := tab_bytes (co_bytes h)

set_option maxRecDepth 100000 in
set_option maxHeartbeats 1000000 in
theorem l03Shape_any (p n : Int) (f : Nat → Int) (w : World) (hF : Bytes 1104 f) :
    Calls Tryz.prog 91 #[.agg (hop p n f)] w fun e w' => e = .returned (.bool (shapeH p n f)) ∧ Below w.heap.size w w' := by
 have HF := Lib.hid hF; clear hF
 have HA : Hid (Bytes 520 f) := Lib.hid (hop_bytes HF.out)
 have HC : Hid (Bytes 520 (coF f)) := Lib.hid (co_bytes HF.out)
 have HS : Hid (Bytes 64 (anF f)) := Lib.hid (an_bytes HF.out)
 have HU : Hid (Bytes 8 (coF f)) := Lib.hid (co_unit HF.out)
 have HT : Hid (Bytes 512 (tab (coF f))) := Lib.hid (co_tab HF.out)
 have H := Lib.hid (shapeH_spec p n f)
 cases h1 : shapeB p n f
 ·
  go_enter Tryz.func91, Tryz.ntmps91
  go_wp2
  refine atomW fun W1 e1 => ?_
  have hb1 : Below w.heap.size w W1 := by rw [e1]; exact bt
  have q1 := hb1.size
  have r1_1 : IsRow W1 (w.heap.size) := by rw [e1]; simp [go_sem]
  have c1_1 := congrArg (fun x => blk x (w.heap.size)) e1; simp [go_sem] at c1_1
  have z1_1 := isRow_lt r1_1
  clear e1
  refine wp_quiet_all (Below W1.heap.size W1) (by kernel_rfl) (by kernel_rfl) (Below.refl _ _).drew ?_
  iterate 6 (refine q_plain rfl ?_; apply Exists.intro; refine ⟨fun W hW => ?_, ?_⟩; (focus (obtain ⟨x1, y1⟩ := keepB hW z1_1 r1_1 c1_1; go_simp; first | done | rfl)); simp only [Act.put, List.setIfInBounds_toArray, List.set_cons_zero, List.set_cons_succ])
  refine wpQuiet_nil ?_
  intro W2 hw2
  obtain ⟨r1_2, c1_2, z1_2⟩ := keepZ hw2 z1_1 r1_1 c1_1
  obtain ⟨hb2, q2⟩ := bN hb1 hw2
  clear hw2 r1_1 c1_1 z1_1 hb1
  go_wp2_with fail
  refine (l03Algebra_any _ _ _ _).mono ?_; rintro _ W3 ⟨rfl, hw3⟩
  obtain ⟨r1_3, c1_3, z1_3⟩ := keepZ hw3 z1_2 r1_2 c1_2
  obtain ⟨hb3, q3⟩ := bN hb2 hw3
  clear hw3 r1_2 c1_2 z1_2 hb2
  go_wp2_with fail
  refine (l01Shape_any _ _ _ _ HA.out).mono ?_; rintro _ W4 ⟨rfl, hw4⟩
  obtain ⟨r1_4, c1_4, z1_4⟩ := keepZ hw4 z1_3 r1_3 c1_3
  obtain ⟨hb4, q4⟩ := bN hb3 hw4
  clear hw4 r1_3 c1_3 z1_3 hb3
  go_wp2_with fail
  go_ret
  exact ⟨ret_bool (by rw [H.out, h1] <;> rfl), bt⟩
 ·
  cases h2 : vecB p n (coF f)
  ·
   go_enter Tryz.func91, Tryz.ntmps91
   go_wp2
   refine atomW fun W5 e5 => ?_
   have hb5 : Below w.heap.size w W5 := by rw [e5]; exact bt
   have q5 := hb5.size
   have r1_5 : IsRow W5 (w.heap.size) := by rw [e5]; simp [go_sem]
   have c1_5 := congrArg (fun x => blk x (w.heap.size)) e5; simp [go_sem] at c1_5
   have z1_5 := isRow_lt r1_5
   clear e5
   refine wp_quiet_all (Below W5.heap.size W5) (by kernel_rfl) (by kernel_rfl) (Below.refl _ _).drew ?_
   iterate 6 (refine q_plain rfl ?_; apply Exists.intro; refine ⟨fun W hW => ?_, ?_⟩; (focus (obtain ⟨x1, y1⟩ := keepB hW z1_5 r1_5 c1_5; go_simp; first | done | rfl)); simp only [Act.put, List.setIfInBounds_toArray, List.set_cons_zero, List.set_cons_succ])
   refine wpQuiet_nil ?_
   intro W6 hw6
   obtain ⟨r1_6, c1_6, z1_6⟩ := keepZ hw6 z1_5 r1_5 c1_5
   obtain ⟨hb6, q6⟩ := bN hb5 hw6
   clear hw6 r1_5 c1_5 z1_5 hb5
   go_wp2_with fail
   refine (l03Algebra_any _ _ _ _).mono ?_; rintro _ W7 ⟨rfl, hw7⟩
   obtain ⟨r1_7, c1_7, z1_7⟩ := keepZ hw7 z1_6 r1_6 c1_6
   obtain ⟨hb7, q7⟩ := bN hb6 hw7
   clear hw7 r1_6 c1_6 z1_6 hb6
   go_wp2_with fail
   refine (l01Shape_any _ _ _ _ HA.out).mono ?_; rintro _ W8 ⟨rfl, hw8⟩
   obtain ⟨r1_8, c1_8, z1_8⟩ := keepZ hw8 z1_7 r1_7 c1_7
   obtain ⟨hb8, q8⟩ := bN hb7 hw8
   clear hw8 r1_7 c1_7 z1_7 hb7
   go_wp2_with fail
   refine (l01Vector_any _ _ _ _ HU.out).mono ?_; rintro _ W9 ⟨rfl, hw9⟩
   obtain ⟨r1_9, c1_9, z1_9⟩ := keepZ hw9 z1_8 r1_8 c1_8
   obtain ⟨hb9, q9⟩ := bN hb8 hw9
   clear hw9 r1_8 c1_8 z1_8 hb8
   go_wp2_with fail
   go_ret
   exact ⟨ret_bool (by rw [H.out, h1, h2] <;> rfl), bt⟩
  ·
   cases h3 : tabB p n (tab (coF f))
   ·
    go_enter Tryz.func91, Tryz.ntmps91
    go_wp2
    refine atomW fun W10 e10 => ?_
    have hb10 : Below w.heap.size w W10 := by rw [e10]; exact bt
    have q10 := hb10.size
    have r1_10 : IsRow W10 (w.heap.size) := by rw [e10]; simp [go_sem]
    have c1_10 := congrArg (fun x => blk x (w.heap.size)) e10; simp [go_sem] at c1_10
    have z1_10 := isRow_lt r1_10
    clear e10
    refine wp_quiet_all (Below W10.heap.size W10) (by kernel_rfl) (by kernel_rfl) (Below.refl _ _).drew ?_
    iterate 6 (refine q_plain rfl ?_; apply Exists.intro; refine ⟨fun W hW => ?_, ?_⟩; (focus (obtain ⟨x1, y1⟩ := keepB hW z1_10 r1_10 c1_10; go_simp; first | done | rfl)); simp only [Act.put, List.setIfInBounds_toArray, List.set_cons_zero, List.set_cons_succ])
    refine wpQuiet_nil ?_
    intro W11 hw11
    obtain ⟨r1_11, c1_11, z1_11⟩ := keepZ hw11 z1_10 r1_10 c1_10
    obtain ⟨hb11, q11⟩ := bN hb10 hw11
    clear hw11 r1_10 c1_10 z1_10 hb10
    go_wp2_with fail
    refine (l03Algebra_any _ _ _ _).mono ?_; rintro _ W12 ⟨rfl, hw12⟩
    obtain ⟨r1_12, c1_12, z1_12⟩ := keepZ hw12 z1_11 r1_11 c1_11
    obtain ⟨hb12, q12⟩ := bN hb11 hw12
    clear hw12 r1_11 c1_11 z1_11 hb11
    go_wp2_with fail
    refine (l01Shape_any _ _ _ _ HA.out).mono ?_; rintro _ W13 ⟨rfl, hw13⟩
    obtain ⟨r1_13, c1_13, z1_13⟩ := keepZ hw13 z1_12 r1_12 c1_12
    obtain ⟨hb13, q13⟩ := bN hb12 hw13
    clear hw13 r1_12 c1_12 z1_12 hb12
    go_wp2_with fail
    refine (l01Vector_any _ _ _ _ HU.out).mono ?_; rintro _ W14 ⟨rfl, hw14⟩
    obtain ⟨r1_14, c1_14, z1_14⟩ := keepZ hw14 z1_13 r1_13 c1_13
    obtain ⟨hb14, q14⟩ := bN hb13 hw14
    clear hw14 r1_13 c1_13 z1_13 hb13
    go_wp2_with fail
    refine (l01Table_any _ _ _ _ HT.out).mono ?_; rintro _ W15 ⟨rfl, hw15⟩
    obtain ⟨r1_15, c1_15, z1_15⟩ := keepZ hw15 z1_14 r1_14 c1_14
    obtain ⟨hb15, q15⟩ := bN hb14 hw15
    clear hw15 r1_14 c1_14 z1_14 hb14
    go_wp2_with fail
    go_ret
    exact ⟨ret_bool (by rw [H.out, h1, h2, h3] <;> rfl), bt⟩
   ·
    go_enter Tryz.func91, Tryz.ntmps91
    go_wp2
    refine atomW fun W16 e16 => ?_
    have hb16 : Below w.heap.size w W16 := by rw [e16]; exact bt
    have q16 := hb16.size
    have r1_16 : IsRow W16 (w.heap.size) := by rw [e16]; simp [go_sem]
    have c1_16 := congrArg (fun x => blk x (w.heap.size)) e16; simp [go_sem] at c1_16
    have z1_16 := isRow_lt r1_16
    clear e16
    refine wp_quiet_all (Below W16.heap.size W16) (by kernel_rfl) (by kernel_rfl) (Below.refl _ _).drew ?_
    iterate 6 (refine q_plain rfl ?_; apply Exists.intro; refine ⟨fun W hW => ?_, ?_⟩; (focus (obtain ⟨x1, y1⟩ := keepB hW z1_16 r1_16 c1_16; go_simp; first | done | rfl)); simp only [Act.put, List.setIfInBounds_toArray, List.set_cons_zero, List.set_cons_succ])
    refine wpQuiet_nil ?_
    intro W17 hw17
    obtain ⟨r1_17, c1_17, z1_17⟩ := keepZ hw17 z1_16 r1_16 c1_16
    obtain ⟨hb17, q17⟩ := bN hb16 hw17
    clear hw17 r1_16 c1_16 z1_16 hb16
    go_wp2_with fail
    refine (l03Algebra_any _ _ _ _).mono ?_; rintro _ W18 ⟨rfl, hw18⟩
    obtain ⟨r1_18, c1_18, z1_18⟩ := keepZ hw18 z1_17 r1_17 c1_17
    obtain ⟨hb18, q18⟩ := bN hb17 hw18
    clear hw18 r1_17 c1_17 z1_17 hb17
    go_wp2_with fail
    refine (l01Shape_any _ _ _ _ HA.out).mono ?_; rintro _ W19 ⟨rfl, hw19⟩
    obtain ⟨r1_19, c1_19, z1_19⟩ := keepZ hw19 z1_18 r1_18 c1_18
    obtain ⟨hb19, q19⟩ := bN hb18 hw19
    clear hw19 r1_18 c1_18 z1_18 hb18
    go_wp2_with fail
    refine (l01Vector_any _ _ _ _ HU.out).mono ?_; rintro _ W20 ⟨rfl, hw20⟩
    obtain ⟨r1_20, c1_20, z1_20⟩ := keepZ hw20 z1_19 r1_19 c1_19
    obtain ⟨hb20, q20⟩ := bN hb19 hw20
    clear hw20 r1_19 c1_19 z1_19 hb19
    go_wp2_with fail
    refine (l01Table_any _ _ _ _ HT.out).mono ?_; rintro _ W21 ⟨rfl, hw21⟩
    obtain ⟨r1_21, c1_21, z1_21⟩ := keepZ hw21 z1_20 r1_20 c1_20
    obtain ⟨hb21, q21⟩ := bN hb20 hw21
    clear hw21 r1_20 c1_20 z1_20 hb20
    go_wp2_with fail
    refine (l01Linear_any _ _ _ _ HS.out).mono ?_; rintro _ W22 ⟨rfl, hw22⟩
    obtain ⟨hb22, q22⟩ := bN hb21 hw22
    clear hw22 hb21
    go_wp2_with fail
    go_ret
    exact ⟨ret_bool (by rw [H.out, h1, h2, h3] <;> rfl), bt⟩

set_option maxRecDepth 100000 in
set_option maxHeartbeats 1000000 in
theorem pairOf_any (p : Int) (v u : Nat → Int) (w : World) (hp : 0 < p) (hp' : p ≤ 255) (hv : Bytes 8 v) (hu : Bytes 8 u) :
    Calls Tryz.prog 162 #[.int .i64 p, .agg (row 8 v), .agg (row 8 u)] w fun e w' => e = .returned (.agg (row 64 (outF p v u 8))) ∧ Below w.heap.size w w' := by
 have Hv := Lib.hid hv; clear hv
 have Hu := Lib.hid hu; clear hu
 have HZ : Hid (∀ t, t < 64 → 0 ≤ zf t ∧ zf t < p) := Lib.hid fun t _ => by unfold zf; omega
 have HO := Lib.hid (pair_out p hp v u)
 go_enter Tryz.func162, Tryz.ntmps162
 go_wp2_with fail
 refine atomC fun W1 e1 => ?_
 have hb1 : Below w.heap.size w W1 := by rw [e1]; exact bt
 have q1 := hb1.size
 have R1 : IsRow W1 (w.heap.size + 2) ∧ IsRow W1 (w.heap.size + 3) := by rw [e1]; simp [go_sem]
 obtain ⟨r6_1, r7_1⟩ := R1
 have C1 := (⟨congrArg (blk · (w.heap.size + 2)) e1, congrArg (blk · (w.heap.size + 3)) e1⟩ : _ ∧ _); simp [go_sem] at C1
 obtain ⟨c6_1, c7_1⟩ := C1
 have z6_1 := isRow_lt r6_1; have z7_1 := isRow_lt r7_1
 clear e1
 refine (addPair_any p 1 _ zf v u _ hp hp' (by omega) (by omega) HZ.out Hv.out Hu.out r7_1 c7_1).mono ?_; rintro _ W2 ⟨rfl, hw2, r7_2, c7_2⟩
 obtain ⟨r6_2, c6_2⟩ := keepA hw2 z6_1 (by first | assumption | (simp; done) | omega) r6_1 c6_1
 have z6_2 := isRow_lt r6_2
 have z7_2 := isRow_lt r7_2
 have hb2 := Below.aside hb1 hw2 (by omega)
 have q2 := hb2.size
 clear hw2 r6_1 c6_1 z6_1 r7_1 c7_1 z7_1 hb1
 rw [HO.out] at c7_2
 go_wp2_with fail
 refine bodyPost_ret (result_cell rfl aggLin _ _ (row 64 (outF p v u 8)) _ rfl ?_ ?_) rfl ⟨rfl, ?_⟩
 · simp [go_sem, r6_2, c6_2, r7_2, c7_2]
 · simp [go_sem, r6_2, c6_2, r7_2, c7_2]
 · exact bt

set_option maxRecDepth 100000 in
set_option maxHeartbeats 1000000 in
theorem unitMap_any (p n q m : Int) (f g : Nat → Int) (w : World) (hq : 0 < q) (hq' : q ≤ 255) (hF : Bytes 520 f) (hG : Bytes 520 g) :
    Calls Tryz.prog 165 #[.agg (alg p n f), .agg (alg q m g)] w fun e w' => e = .returned (.agg (row 64 (outF q f g 8))) ∧ Below w.heap.size w w' := by
 have HF := Lib.hid hF; clear hF
 have HG := Lib.hid hG; clear hG
 go_enter Tryz.func165, Tryz.ntmps165
 go_wp2_with fail
 refine atomC fun W1 e1 => ?_
 have hb1 : Below w.heap.size w W1 := by rw [e1]; exact bt
 have q1 := hb1.size
 have r4_1 : IsRow W1 (w.heap.size + 2) := by rw [e1]; simp [go_sem]
 have c4_1 := congrArg (fun x => blk x (w.heap.size + 2)) e1; simp [go_sem] at c4_1
 have z4_1 := isRow_lt r4_1
 clear e1
 refine (pairOf_any q f g _ hq hq' (unit_bytes HF.out) (unit_bytes HG.out)).mono ?_; rintro _ W2 ⟨rfl, hw2⟩
 obtain ⟨r4_2, c4_2, z4_2⟩ := keepZ hw2 z4_1 r4_1 c4_1
 obtain ⟨hb2, q2⟩ := bN hb1 hw2
 clear hw2 r4_1 c4_1 z4_1 hb1
 go_wp2_with fail
 refine bodyPost_ret (result_cell rfl aggLin _ _ (row 64 (outF q f g 8)) _ rfl ?_ ?_) rfl ⟨rfl, ?_⟩
 · simp [go_sem, r4_2, c4_2]
 · simp [go_sem, r4_2, c4_2]
 · exact bt

/-- the first i images of the identity -/
def idK (i : Nat) : Nat → Int := fun t => if t / 8 < i then ebas (t / 8) (t % 8) else 0
theorem id_zero : row 64 zf = row 64 (idK 0) := row_congr fun t _ => by unfold idK zf; rw [if_neg (by omega)]
theorem id_step (i : Nat) (hi : i < 8) : lay (row 64 (idK i)) (i * 8) (row 8 (ebas i)) = row 64 (idK (i + 1)) := by
  rw [lay_row _ _ _ _ _ (by omega)]
  refine row_congr fun t _ => ?_
  by_cases h : i * 8 ≤ t ∧ t < i * 8 + 8
  · rw [if_pos h]
    unfold idK
    rw [if_pos (by omega), show t / 8 = i by omega, show t - i * 8 = t % 8 by omega]
  · rw [if_neg h]
    unfold idK
    by_cases h2 : t / 8 < i
    · rw [if_pos h2, if_pos (by omega)]
    · rw [if_neg h2, if_neg (by omega)]
theorem id_bytes (n : Nat) : Bytes 64 (idK n) := fun t ht => by
  unfold idK
  split
  · exact ebas_bytes _ _ (by omega)
  · omega

set_option maxRecDepth 100000 in
set_option maxHeartbeats 1000000 in
theorem identityLinear_any (n : Nat) (w : World) (hn : n ≤ 8) :
    Calls Tryz.prog 155 #[.int .i64 n] w fun e w' => e = .returned (.agg (row 64 (idK n))) ∧ Below w.heap.size w w' := by
 go_enter Tryz.func155, Tryz.ntmps155
 go_wp2
 refine atomW fun W1 e1 => ?_
 have hb1 : Below w.heap.size w W1 := by rw [e1]; exact bt
 have q1 := hb1.size
 have R1 : IsRow W1 (w.heap.size) ∧ IsRow W1 (w.heap.size + 1) := by rw [e1]; simp [go_sem]
 obtain ⟨r2_1, r3_1⟩ := R1
 have C1 := (⟨congrArg (blk · (w.heap.size)) e1, congrArg (blk · (w.heap.size + 1)) e1⟩ : _ ∧ _); simp [go_sem] at C1
 obtain ⟨c2_1, c3_1⟩ := C1
 have z2_1 := isRow_lt r2_1; have z3_1 := isRow_lt r3_1
 clear e1
 go_loopw [6] (fun s6 wr => ∃ i : Nat, i ≤ n ∧ s6 = .int .i64 i ∧ Below w.heap.size w wr ∧ (IsRow wr (w.heap.size) ∧ blk wr (w.heap.size) = blk W1 (w.heap.size)) ∧ (IsRow wr (w.heap.size + 1) ∧ blk wr (w.heap.size + 1) = row 64 (idK i))) (fun s6 _ => n - (intOf s6).toNat)
 case atStart => exact ⟨0, by omega, rfl, hb1, ⟨r2_1, rfl⟩, ⟨r3_1, c3_1.trans (id_zero)⟩⟩
 case round =>
  obtain ⟨i, hle2, rfl, hb2, ⟨r2_2, c2_2⟩, ⟨r3_2, c3_2⟩⟩ := hrel
  obtain ⟨W2, rfl⟩ : ∃ W2 : World, W2 = wr := ⟨_, rfl⟩
  have q2 := hb2.size
  have E2_2 := Lib.hid c2_1; replace c2_2 := c2_2.trans c2_1
  have z2_2 := isRow_lt r2_2
  have z3_2 := isRow_lt r3_2
  clear r2_1 c2_1 z2_1 r3_1 c3_1 z3_1 hb1
  by_cases hlt2 : i < n
  ·
   have i0_2 : (0 : Int) ≤ (i : Int) := by omega
   have i8_2 : (i : Int) < 8 := by omega
   have k8_2 : i < 8 := by omega
   have m8_2 : i * 8 + 8 ≤ 64 := by omega
   have m64_2 : i * 64 + 64 ≤ 512 := by omega
   have l1_2 : 10 + i * 64 + 64 ≤ 522 := by omega
   go_wp2_with fail
   refine (basisAt i (by omega) _).mono ?_; rintro _ W3 ⟨rfl, hw3⟩
   obtain ⟨r2_3, c2_3, z2_3⟩ := keepZ hw3 z2_2 r2_2 c2_2
   obtain ⟨r3_3, c3_3, z3_3⟩ := keepZ hw3 z3_2 r3_2 c3_2
   obtain ⟨hb3, q3⟩ := bN hb2 hw3
   clear hw3 r2_2 c2_2 z2_2 r3_2 c3_2 z3_2 hb2
   go_wp2
   go_roundw
   case rel => exact ⟨i + 1, by omega, by go_num, bt, ⟨by simp [go_sem, r2_3, c2_3, r3_3, c3_3], (by rw [E2_2.out]; first | exact c2_3 | (simp [go_sem, r2_3, c2_3, r3_3, c3_3]; done))⟩, ⟨by simp [go_sem, r2_3, c2_3, r3_3, c3_3], (by first | (rw [blk_setRow _ _ _ _ r3_3, if_pos rfl]; exact id_step i (by omega)) | exact (c3_3).trans (id_step i (by omega)) | (simp [go_sem, r2_3, c2_3, r3_3, c3_3]; exact id_step i (by omega)))⟩⟩
   case measure => simp [intOf]; try omega
  ·
   obtain rfl : n = i := by omega
   go_wp2_with fail
   refine bodyPost_ret (result_cell rfl aggLin _ _ (row 64 (idK n)) _ rfl ?_ ?_) rfl ⟨rfl, ?_⟩
   · simp [go_sem, r2_2, c2_2, r3_2, c3_2]
   · simp [go_sem, r2_2, c2_2, r3_2, c3_2]
   · exact bt

set_option maxRecDepth 100000 in
set_option maxHeartbeats 1000000 in
theorem l01Zero_any (v : Nat → Int) (w : World)  :
    Calls Tryz.prog 65 #[.agg (row 8 v)] w fun e w' => e = .returned (.bool (segEq 0 8 v zf)) ∧ Below w.heap.size w w' := by
 go_enter Tryz.func65, Tryz.ntmps65
 go_wp2_with fail
 go_ret
 exact ⟨rfl, bt⟩
end
section
open Go.RowKit
set_option linter.unusedSimpArgs false
set_option linter.unusedVariables false
attribute [local irreducible] wpQuiet wpQE

/-- the sum over the first i rows of n, and j of row i -/
def dsumK (T : Nat → Nat → Int) (n i j : Nat) : Int := sumTo (fun a => sumTo (T a) n) i + sumTo (T i) j
theorem dsum_zero (T : Nat → Nat → Int) (n : Nat) : dsumK T n 0 0 = 0 := by simp [dsumK, sumTo]
theorem dsum_step (T : Nat → Nat → Int) (n i j : Nat) : dsumK T n i (j + 1) = dsumK T n i j + T i j := by unfold dsumK; rw [sumTo, Int.add_assoc]
theorem dsum_row (T : Nat → Nat → Int) (n i : Nat) : dsumK T n i n = dsumK T n (i + 1) 0 := by unfold dsumK; rw [sumTo, sumTo, Int.add_zero]
theorem dsum_all (T : Nat → Nat → Int) (n i : Nat) : dsumK T n i 0 = sumTo (fun a => sumTo (T a) n) i := by unfold dsumK; rw [sumTo, Int.add_zero]
theorem mod_add_mul (a b c d p : Int) : (a % p + b * c % p * d) % p = (a + b * c * d) % p := by
  rw [Int.emod_add_emod, Int.add_emod, Int.mul_emod (b * c % p), Int.emod_emod, ← Int.mul_emod, ← Int.add_emod]

/-! ### products of pairs -/
/-- what stands at x, y for a pair of rows -/
def ppT (p : Int) (n : Nat) (f m q : Nat → Int) (x y a b : Nat) : Int := mtab f a b x * mulF p n (mtab f) (fun t => m (a * 8 + t)) (fun t => q (b * 8 + t)) y
def ppK (p : Int) (n : Nat) (f m q : Nat → Int) (i j : Nat) : Nat → Int := fun t => dsumK (ppT p n f m q (t / 8) (t % 8)) n i j % p
theorem pp_zero (p : Int) (n : Nat) (f m q : Nat → Int) : row 64 zf = row 64 (ppK p n f m q 0 0) := row_congr fun t _ => by unfold ppK zf; rw [dsum_zero]; simp
theorem pp_step (p : Int) (n : Nat) (f m q : Nat → Int) (i j : Nat) : row 64 (pairK p (ppK p n f m q i j) 1 (mtab f i j) (mulF p n (mtab f) (fun t => m (i * 8 + t)) (fun t => q (j * 8 + t))) 8) = row 64 (ppK p n f m q i (j + 1)) := row_congr fun t _ => by
  unfold pairK ppK
  rw [if_pos (by omega), mod_add_mul, Int.one_mul, dsum_step]; rfl
theorem pp_row (p : Int) (n : Nat) (f m q : Nat → Int) (i : Nat) : row 64 (ppK p n f m q i n) = row 64 (ppK p n f m q (i + 1) 0) := row_congr fun t _ => by unfold ppK; rw [dsum_row]
theorem pp_range {p : Int} (hp : 0 < p) (n : Nat) (f m q : Nat → Int) (i j t : Nat) : 0 ≤ ppK p n f m q i j t ∧ ppK p n f m q i j t < p := mod_range _ p hp
theorem part_bytes {m : Nat → Int} (h : Bytes 64 m) (i : Nat) (hi : i < 8) : Bytes 8 fun t => m (i * 8 + t) := fun t ht => h _ (by omega)

set_option maxRecDepth 100000 in
set_option maxHeartbeats 1000000 in
theorem multiplyPairs_any (p : Int) (n : Nat) (f m q : Nat → Int) (w : World) (hp : 0 < p) (hp' : p ≤ 255) (hn : n ≤ 8) (hF : Bytes 520 f) (hm : Bytes 64 m) (hq : Bytes 64 q) :
    Calls Tryz.prog 161 #[.agg (alg p n f), .agg (row 64 m), .agg (row 64 q)] w fun e w' => e = .returned (.agg (row 64 (ppK p n f m q n 0))) ∧ Below w.heap.size w w' := by
 have HF := Lib.hid hF; clear hF
 have Hm := Lib.hid hm; clear hm
 have Hq := Lib.hid hq; clear hq
 go_enter Tryz.func161, Tryz.ntmps161
 go_wp2
 refine atomW fun W1 e1 => ?_
 have hb1 : Below w.heap.size w W1 := by rw [e1]; exact bt
 have q1 := hb1.size
 have R1 : IsRow W1 (w.heap.size) ∧ IsRow W1 (w.heap.size + 1) ∧ IsRow W1 (w.heap.size + 2) ∧ IsRow W1 (w.heap.size + 3) ∧ IsRow W1 (w.heap.size + 4) := by rw [e1]; simp [go_sem]
 obtain ⟨r3_1, r4_1, r5_1, r6_1, r7_1⟩ := R1
 have C1 := (⟨congrArg (blk · (w.heap.size)) e1, congrArg (blk · (w.heap.size + 1)) e1, congrArg (blk · (w.heap.size + 2)) e1, congrArg (blk · (w.heap.size + 3)) e1, congrArg (blk · (w.heap.size + 4)) e1⟩ : _ ∧ _ ∧ _ ∧ _ ∧ _); simp [go_sem] at C1
 obtain ⟨c3_1, c4_1, c5_1, c6_1, c7_1⟩ := C1
 have z3_1 := isRow_lt r3_1; have z4_1 := isRow_lt r4_1; have z5_1 := isRow_lt r5_1; have z6_1 := isRow_lt r6_1; have z7_1 := isRow_lt r7_1
 clear e1
 go_loopw [12] (fun s12 wr => ∃ i : Nat, i ≤ n ∧ s12 = .int .i64 i ∧ Below w.heap.size w wr ∧ (IsRow wr (w.heap.size) ∧ blk wr (w.heap.size) = blk W1 (w.heap.size)) ∧ (IsRow wr (w.heap.size + 1) ∧ blk wr (w.heap.size + 1) = blk W1 (w.heap.size + 1)) ∧ (IsRow wr (w.heap.size + 2) ∧ blk wr (w.heap.size + 2) = blk W1 (w.heap.size + 2)) ∧ (IsRow wr (w.heap.size + 3) ∧ blk wr (w.heap.size + 3) = blk W1 (w.heap.size + 3)) ∧ (IsRow wr (w.heap.size + 4) ∧ blk wr (w.heap.size + 4) = row 64 (ppK p n f m q i 0))) (fun s12 _ => n - (intOf s12).toNat)
 case atStart => exact ⟨0, by omega, rfl, hb1, ⟨r3_1, rfl⟩, ⟨r4_1, rfl⟩, ⟨r5_1, rfl⟩, ⟨r6_1, rfl⟩, ⟨r7_1, c7_1.trans (pp_zero p n f m q)⟩⟩
 case round =>
  obtain ⟨i, hle2, rfl, hb2, ⟨r3_2, c3_2⟩, ⟨r4_2, c4_2⟩, ⟨r5_2, c5_2⟩, ⟨r6_2, c6_2⟩, ⟨r7_2, c7_2⟩⟩ := hrel
  obtain ⟨W2, rfl⟩ : ∃ W2 : World, W2 = wr := ⟨_, rfl⟩
  have q2 := hb2.size
  have E3_2 := Lib.hid c3_1; replace c3_2 := c3_2.trans c3_1
  have z3_2 := isRow_lt r3_2
  have E4_2 := Lib.hid c4_1; replace c4_2 := c4_2.trans c4_1
  have z4_2 := isRow_lt r4_2
  have E5_2 := Lib.hid c5_1; replace c5_2 := c5_2.trans c5_1
  have z5_2 := isRow_lt r5_2
  have E6_2 := Lib.hid c6_1; replace c6_2 := c6_2.trans c6_1
  have z6_2 := isRow_lt r6_2
  have z7_2 := isRow_lt r7_2
  clear r3_1 c3_1 z3_1 r4_1 c4_1 z4_1 r5_1 c5_1 z5_1 r6_1 c6_1 z6_1 r7_1 c7_1 z7_1 hb1
  by_cases hlt2 : i < n
  ·
   have i0_2 : (0 : Int) ≤ (i : Int) := by omega
   have i8_2 : (i : Int) < 8 := by omega
   have k8_2 : i < 8 := by omega
   have m8_2 : i * 8 + 8 ≤ 64 := by omega
   have m64_2 : i * 64 + 64 ≤ 512 := by omega
   have l1_2 : 10 + i * 64 + 64 ≤ 522 := by omega
   go_wp2
   go_loopw [17] (fun s17 wr => ∃ j : Nat, j ≤ n ∧ s17 = .int .i64 j ∧ Below w.heap.size w wr ∧ (IsRow wr (w.heap.size) ∧ blk wr (w.heap.size) = blk W2 (w.heap.size)) ∧ (IsRow wr (w.heap.size + 1) ∧ blk wr (w.heap.size + 1) = blk W2 (w.heap.size + 1)) ∧ (IsRow wr (w.heap.size + 2) ∧ blk wr (w.heap.size + 2) = blk W2 (w.heap.size + 2)) ∧ (IsRow wr (w.heap.size + 3) ∧ blk wr (w.heap.size + 3) = blk W2 (w.heap.size + 3)) ∧ (IsRow wr (w.heap.size + 4) ∧ blk wr (w.heap.size + 4) = row 64 (ppK p n f m q i j))) (fun s17 _ => n - (intOf s17).toNat)
   case atStart => exact ⟨0, by omega, rfl, hb2, ⟨r3_2, rfl⟩, ⟨r4_2, rfl⟩, ⟨r5_2, rfl⟩, ⟨r6_2, rfl⟩, ⟨r7_2, c7_2⟩⟩
   case round =>
    obtain ⟨j, hle3, rfl, hb3, ⟨r3_3, c3_3⟩, ⟨r4_3, c4_3⟩, ⟨r5_3, c5_3⟩, ⟨r6_3, c6_3⟩, ⟨r7_3, c7_3⟩⟩ := hrel
    obtain ⟨W3, rfl⟩ : ∃ W3 : World, W3 = wr := ⟨_, rfl⟩
    have q3 := hb3.size
    have E3_3 := Lib.hid c3_2; replace c3_3 := c3_3.trans c3_2
    have z3_3 := isRow_lt r3_3
    have E4_3 := Lib.hid c4_2; replace c4_3 := c4_3.trans c4_2
    have z4_3 := isRow_lt r4_3
    have E5_3 := Lib.hid c5_2; replace c5_3 := c5_3.trans c5_2
    have z5_3 := isRow_lt r5_3
    have E6_3 := Lib.hid c6_2; replace c6_3 := c6_3.trans c6_2
    have z6_3 := isRow_lt r6_3
    have z7_3 := isRow_lt r7_3
    clear r3_2 c3_2 z3_2 r4_2 c4_2 z4_2 r5_2 c5_2 z5_2 r6_2 c6_2 z6_2 r7_2 c7_2 z7_2 hb2
    by_cases hlt3 : j < n
    ·
     have i0_3 : (0 : Int) ≤ (j : Int) := by omega
     have i8_3 : (j : Int) < 8 := by omega
     have k8_3 : j < 8 := by omega
     have m8_3 : j * 8 + 8 ≤ 64 := by omega
     have m64_3 : j * 64 + 64 ≤ 512 := by omega
     have l1_3 : 10 + j * 64 + 64 ≤ 522 := by omega
     have l2_3i : 10 + i * 64 + j * 8 + 8 ≤ 522 := by omega
     have l3_3i : 10 + j * 64 + i * 8 + 8 ≤ 522 := by omega
     have l4_3i : i * 64 + j * 8 + 8 ≤ 512 := by omega
     have l5_3i : j * 64 + i * 8 + 8 ≤ 512 := by omega
     have l6_3i : i * 8 + j < 64 := by omega
     have l7_3i : j * 8 + i < 64 := by omega
     have HV : Hid (Bytes 8 fun t => m (i * 8 + t)) := Lib.hid (part_bytes Hm.out i (by omega))
     have HQ : Hid (Bytes 8 fun t => q (j * 8 + t)) := Lib.hid (part_bytes Hq.out j (by omega))
     have e9 := alg_at8 p n f i j (by omega) (by omega)
     have HR : Hid (∀ t, t < 64 → 0 ≤ ppK p n f m q i j t ∧ ppK p n f m q i j t < p) := Lib.hid fun t _ => pp_range hp n f m q i j t
     go_wp2
     refine wp_quiet_tail 16 (Below W3.heap.size W3) (by kernel_rfl) (by kernel_rfl) (Below.refl _ _).drew ?_
     simp only [List.take_succ_cons, List.take_zero, List.drop_succ_cons, List.drop_zero]
     iterate 15 (refine q_plain rfl ?_; apply Exists.intro; refine ⟨fun W hW => ?_, ?_⟩; (focus (obtain ⟨x3, y3⟩ := keepB hW z3_3 r3_3 c3_3; obtain ⟨x4, y4⟩ := keepB hW z4_3 r4_3 c4_3; obtain ⟨x5, y5⟩ := keepB hW z5_3 r5_3 c5_3; obtain ⟨x6, y6⟩ := keepB hW z6_3 r6_3 c6_3; obtain ⟨x7, y7⟩ := keepB hW z7_3 r7_3 c7_3; go_simp; first | done | rfl)); simp only [Act.put, List.setIfInBounds_toArray, List.set_cons_zero, List.set_cons_succ])
     (refine q_plain rfl ?_; apply Exists.intro; refine ⟨fun W hW => ?_, ?_⟩; (focus (obtain ⟨x3, y3⟩ := keepB hW z3_3 r3_3 c3_3; obtain ⟨x4, y4⟩ := keepB hW z4_3 r4_3 c4_3; obtain ⟨x5, y5⟩ := keepB hW z5_3 r5_3 c5_3; obtain ⟨x6, y6⟩ := keepB hW z6_3 r6_3 c6_3; obtain ⟨x7, y7⟩ := keepB hW z7_3 r7_3 c7_3; go_simp; (go_at_call 146; exact (multiply_any p n f _ _ _ hp hp' hn HF.out HV.out HQ.out).mono fun e w2 ⟨he, hw2⟩ => ⟨he, hW.trans (hw2.mono hW.size)⟩))); simp only [Act.put, List.setIfInBounds_toArray, List.set_cons_zero, List.set_cons_succ])
     refine wpQuiet_nil ?_
     intro W4 hw4
     obtain ⟨r3_4, c3_4, z3_4⟩ := keepZ hw4 z3_3 r3_3 c3_3
     obtain ⟨r4_4, c4_4, z4_4⟩ := keepZ hw4 z4_3 r4_3 c4_3
     obtain ⟨r5_4, c5_4, z5_4⟩ := keepZ hw4 z5_3 r5_3 c5_3
     obtain ⟨r6_4, c6_4, z6_4⟩ := keepZ hw4 z6_3 r6_3 c6_3
     obtain ⟨r7_4, c7_4, z7_4⟩ := keepZ hw4 z7_3 r7_3 c7_3
     obtain ⟨hb4, q4⟩ := bN hb3 hw4
     clear hw4 r3_3 c3_3 z3_3 r4_3 c4_3 z4_3 r5_3 c5_3 z5_3 r6_3 c6_3 z6_3 r7_3 c7_3 z7_3 hb3
     go_wp2_with fail
     refine (addPair_any p 1 _ (ppK p n f m q i j) (mtab f i j) _ _ hp hp' (by omega) (by omega) HR.out (mtab_bytes HF.out i j (by omega) (by omega)) (mulF_bytes hp hp' n (mtab f) _ _) r7_4 c7_4).mono ?_; rintro _ W5 ⟨rfl, hw5, r7_5, c7_5⟩
     obtain ⟨r3_5, c3_5⟩ := keepA hw5 z3_4 (by first | assumption | (simp; done) | omega) r3_4 c3_4
     have z3_5 := isRow_lt r3_5
     obtain ⟨r4_5, c4_5⟩ := keepA hw5 z4_4 (by first | assumption | (simp; done) | omega) r4_4 c4_4
     have z4_5 := isRow_lt r4_5
     obtain ⟨r5_5, c5_5⟩ := keepA hw5 z5_4 (by first | assumption | (simp; done) | omega) r5_4 c5_4
     have z5_5 := isRow_lt r5_5
     obtain ⟨r6_5, c6_5⟩ := keepA hw5 z6_4 (by first | assumption | (simp; done) | omega) r6_4 c6_4
     have z6_5 := isRow_lt r6_5
     have z7_5 := isRow_lt r7_5
     have hb5 := Below.aside hb4 hw5 (by omega)
     have q5 := hb5.size
     clear hw5 r3_4 c3_4 z3_4 r4_4 c4_4 z4_4 r5_4 c5_4 z5_4 r6_4 c6_4 z6_4 r7_4 c7_4 z7_4 hb4
     go_wp2
     go_roundw
     case rel => exact ⟨j + 1, by omega, by go_num, bt, ⟨by simp [go_sem, r3_5, c3_5, r4_5, c4_5, r5_5, c5_5, r6_5, c6_5, r7_5, c7_5], (by rw [E3_3.out]; first | exact c3_5 | (simp [go_sem, r3_5, c3_5, r4_5, c4_5, r5_5, c5_5, r6_5, c6_5, r7_5, c7_5]; done))⟩, ⟨by simp [go_sem, r3_5, c3_5, r4_5, c4_5, r5_5, c5_5, r6_5, c6_5, r7_5, c7_5], (by rw [E4_3.out]; first | exact c4_5 | (simp [go_sem, r3_5, c3_5, r4_5, c4_5, r5_5, c5_5, r6_5, c6_5, r7_5, c7_5]; done))⟩, ⟨by simp [go_sem, r3_5, c3_5, r4_5, c4_5, r5_5, c5_5, r6_5, c6_5, r7_5, c7_5], (by rw [E5_3.out]; first | exact c5_5 | (simp [go_sem, r3_5, c3_5, r4_5, c4_5, r5_5, c5_5, r6_5, c6_5, r7_5, c7_5]; done))⟩, ⟨by simp [go_sem, r3_5, c3_5, r4_5, c4_5, r5_5, c5_5, r6_5, c6_5, r7_5, c7_5], (by rw [E6_3.out]; first | exact c6_5 | (simp [go_sem, r3_5, c3_5, r4_5, c4_5, r5_5, c5_5, r6_5, c6_5, r7_5, c7_5]; done))⟩, ⟨by simp [go_sem, r3_5, c3_5, r4_5, c4_5, r5_5, c5_5, r6_5, c6_5, r7_5, c7_5], (by first | exact (c7_5).trans (pp_step p n f m q i j) | (simp [go_sem, r3_5, c3_5, r4_5, c4_5, r5_5, c5_5, r6_5, c6_5, r7_5, c7_5]; exact pp_step p n f m q i j))⟩⟩
     case measure => simp [intOf]; try omega
    ·
     obtain rfl : n = j := by omega
     go_wp2
     go_roundw
     case rel => exact ⟨i + 1, by omega, by go_num, bt, ⟨by simp [go_sem, r3_3, c3_3, r4_3, c4_3, r5_3, c5_3, r6_3, c6_3, r7_3, c7_3], (by rw [E3_2.out]; first | exact c3_3 | (simp [go_sem, r3_3, c3_3, r4_3, c4_3, r5_3, c5_3, r6_3, c6_3, r7_3, c7_3]; done))⟩, ⟨by simp [go_sem, r3_3, c3_3, r4_3, c4_3, r5_3, c5_3, r6_3, c6_3, r7_3, c7_3], (by rw [E4_2.out]; first | exact c4_3 | (simp [go_sem, r3_3, c3_3, r4_3, c4_3, r5_3, c5_3, r6_3, c6_3, r7_3, c7_3]; done))⟩, ⟨by simp [go_sem, r3_3, c3_3, r4_3, c4_3, r5_3, c5_3, r6_3, c6_3, r7_3, c7_3], (by rw [E5_2.out]; first | exact c5_3 | (simp [go_sem, r3_3, c3_3, r4_3, c4_3, r5_3, c5_3, r6_3, c6_3, r7_3, c7_3]; done))⟩, ⟨by simp [go_sem, r3_3, c3_3, r4_3, c4_3, r5_3, c5_3, r6_3, c6_3, r7_3, c7_3], (by rw [E6_2.out]; first | exact c6_3 | (simp [go_sem, r3_3, c3_3, r4_3, c4_3, r5_3, c5_3, r6_3, c6_3, r7_3, c7_3]; done))⟩, ⟨by simp [go_sem, r3_3, c3_3, r4_3, c4_3, r5_3, c5_3, r6_3, c6_3, r7_3, c7_3], (by first | exact (c7_3).trans (pp_row p n f m q i) | (simp [go_sem, r3_3, c3_3, r4_3, c4_3, r5_3, c5_3, r6_3, c6_3, r7_3, c7_3]; exact pp_row p n f m q i))⟩⟩
     case measure => simp [intOf]; try omega
  ·
   obtain rfl : n = i := by omega
   go_wp2_with fail
   refine bodyPost_ret (result_cell rfl aggLin _ _ (row 64 (ppK p n f m q n 0)) _ rfl ?_ ?_) rfl ⟨rfl, ?_⟩
   · simp [go_sem, r3_2, c3_2, r4_2, c4_2, r5_2, c5_2, r6_2, c6_2, r7_2, c7_2]
   · simp [go_sem, r3_2, c3_2, r4_2, c4_2, r5_2, c5_2, r6_2, c6_2, r7_2, c7_2]
   · exact bt

/-! ### convolutions -/
/-- the entry k of image i, over the first j pairs -/
def cvR (p : Int) (n : Nat) (A C F G : Nat → Int) (i j k : Nat) : Int := sumTo (fun b => mulF p n (mtab A) (fun t => F (b * 8 + t)) (appF p 8 (fun x y => G (x * 8 + y)) (mtab C i b)) k) j % p
/-- i images of m are done, and j pairs of image i -/
def cvK (p : Int) (n m : Nat) (A C F G : Nat → Int) (i j : Nat) : Nat → Int := fun t => if t / 8 < i then cvR p n A C F G (t / 8) m (t % 8) else if t / 8 = i then cvR p n A C F G i j (t % 8) else 0
theorem cv_zero (p : Int) (n m : Nat) (A C F G : Nat → Int) : row 64 zf = row 64 (cvK p n m A C F G 0 0) := row_congr fun t _ => by
  unfold cvK cvR zf; rw [if_neg (by omega)]; split <;> simp [sumTo]
theorem cv_step (p : Int) (n m : Nat) (A C F G : Nat → Int) (i j : Nat) : row 64 (addm p (i * 8) 8 1 (cvK p n m A C F G i j) (mulF p n (mtab A) (fun t => F (j * 8 + t)) (appF p 8 (fun x y => G (x * 8 + y)) (mtab C i j)))) = row 64 (cvK p n m A C F G i (j + 1)) := row_congr fun t _ => by
  unfold addm cvK
  by_cases h : i * 8 ≤ t ∧ t < i * 8 + 8
  · rw [if_pos h, if_neg (by omega), if_pos (by omega), if_neg (by omega), if_pos (by omega), show t - i * 8 = t % 8 by omega]
    unfold cvR
    rw [Int.emod_add_emod, sumTo, Int.one_mul]
  · rw [if_neg h]
    by_cases h2 : t / 8 < i
    · rw [if_pos h2, if_pos h2]
    · rw [if_neg h2, if_neg h2, if_neg (by omega), if_neg (by omega)]
theorem cv_row (p : Int) (n m : Nat) (A C F G : Nat → Int) (i : Nat) : row 64 (cvK p n m A C F G i m) = row 64 (cvK p n m A C F G (i + 1) 0) := row_congr fun t _ => by
  unfold cvK
  by_cases h : t / 8 < i
  · rw [if_pos h, if_pos (by omega)]
  · rw [if_neg h]
    by_cases h2 : t / 8 = i
    · rw [if_pos h2, if_pos (by omega), h2]
    · rw [if_neg h2, if_neg (by omega)]
      split
      · simp [cvR, sumTo]
      · rfl
theorem cv_range {p : Int} (hp : 0 < p) (n m : Nat) (A C F G : Nat → Int) (i j t : Nat) : 0 ≤ cvK p n m A C F G i j t ∧ cvK p n m A C F G i j t < p := by
  unfold cvK
  split
  · exact mod_range _ p hp
  · split
    · exact mod_range _ p hp
    · omega

set_option maxRecDepth 100000 in
set_option maxHeartbeats 1000000 in
theorem convolve_any (q p : Int) (m n : Nat) (C A F G : Nat → Int) (w : World) (hp : 0 < p) (hp' : p ≤ 255) (hn : n ≤ 8) (hm : m ≤ 8) (hC : Bytes 520 C) (hA : Bytes 520 A) (hF : Bytes 64 F) (hG : Bytes 64 G) :
    Calls Tryz.prog 164 #[.agg (alg q m C), .agg (alg p n A), .agg (row 64 F), .agg (row 64 G)] w fun e w' => e = .returned (.agg (row 64 (cvK p n m A C F G m 0))) ∧ Below w.heap.size w w' := by
 have HC := Lib.hid hC; clear hC
 have HA := Lib.hid hA; clear hA
 have HF := Lib.hid hF; clear hF
 have HG := Lib.hid hG; clear hG
 go_enter Tryz.func164, Tryz.ntmps164
 go_wp2
 refine atomW fun W1 e1 => ?_
 have hb1 : Below w.heap.size w W1 := by rw [e1]; exact bt
 have q1 := hb1.size
 have R1 : IsRow W1 (w.heap.size) ∧ IsRow W1 (w.heap.size + 1) ∧ IsRow W1 (w.heap.size + 2) ∧ IsRow W1 (w.heap.size + 3) ∧ IsRow W1 (w.heap.size + 4) ∧ IsRow W1 (w.heap.size + 5) := by rw [e1]; simp [go_sem]
 obtain ⟨r4_1, r5_1, r6_1, r7_1, r8_1, r9_1⟩ := R1
 have C1 := (⟨congrArg (blk · (w.heap.size)) e1, congrArg (blk · (w.heap.size + 1)) e1, congrArg (blk · (w.heap.size + 2)) e1, congrArg (blk · (w.heap.size + 3)) e1, congrArg (blk · (w.heap.size + 4)) e1, congrArg (blk · (w.heap.size + 5)) e1⟩ : _ ∧ _ ∧ _ ∧ _ ∧ _ ∧ _); simp [go_sem] at C1
 obtain ⟨c4_1, c5_1, c6_1, c7_1, c8_1, c9_1⟩ := C1
 have z4_1 := isRow_lt r4_1; have z5_1 := isRow_lt r5_1; have z6_1 := isRow_lt r6_1; have z7_1 := isRow_lt r7_1; have z8_1 := isRow_lt r8_1; have z9_1 := isRow_lt r9_1
 clear e1
 go_loopw [15] (fun s15 wr => ∃ i : Nat, i ≤ m ∧ s15 = .int .i64 i ∧ Below w.heap.size w wr ∧ (IsRow wr (w.heap.size) ∧ blk wr (w.heap.size) = blk W1 (w.heap.size)) ∧ (IsRow wr (w.heap.size + 1) ∧ blk wr (w.heap.size + 1) = blk W1 (w.heap.size + 1)) ∧ (IsRow wr (w.heap.size + 2) ∧ blk wr (w.heap.size + 2) = blk W1 (w.heap.size + 2)) ∧ (IsRow wr (w.heap.size + 3) ∧ blk wr (w.heap.size + 3) = blk W1 (w.heap.size + 3)) ∧ (IsRow wr (w.heap.size + 4) ∧ blk wr (w.heap.size + 4) = blk W1 (w.heap.size + 4)) ∧ (IsRow wr (w.heap.size + 5) ∧ blk wr (w.heap.size + 5) = row 64 (cvK p n m A C F G i 0))) (fun s15 _ => m - (intOf s15).toNat)
 case atStart => exact ⟨0, by omega, rfl, hb1, ⟨r4_1, rfl⟩, ⟨r5_1, rfl⟩, ⟨r6_1, rfl⟩, ⟨r7_1, rfl⟩, ⟨r8_1, rfl⟩, ⟨r9_1, c9_1.trans (cv_zero p n m A C F G)⟩⟩
 case round =>
  obtain ⟨i, hle2, rfl, hb2, ⟨r4_2, c4_2⟩, ⟨r5_2, c5_2⟩, ⟨r6_2, c6_2⟩, ⟨r7_2, c7_2⟩, ⟨r8_2, c8_2⟩, ⟨r9_2, c9_2⟩⟩ := hrel
  obtain ⟨W2, rfl⟩ : ∃ W2 : World, W2 = wr := ⟨_, rfl⟩
  have q2 := hb2.size
  have E4_2 := Lib.hid c4_1; replace c4_2 := c4_2.trans c4_1
  have z4_2 := isRow_lt r4_2
  have E5_2 := Lib.hid c5_1; replace c5_2 := c5_2.trans c5_1
  have z5_2 := isRow_lt r5_2
  have E6_2 := Lib.hid c6_1; replace c6_2 := c6_2.trans c6_1
  have z6_2 := isRow_lt r6_2
  have E7_2 := Lib.hid c7_1; replace c7_2 := c7_2.trans c7_1
  have z7_2 := isRow_lt r7_2
  have E8_2 := Lib.hid c8_1; replace c8_2 := c8_2.trans c8_1
  have z8_2 := isRow_lt r8_2
  have z9_2 := isRow_lt r9_2
  clear r4_1 c4_1 z4_1 r5_1 c5_1 z5_1 r6_1 c6_1 z6_1 r7_1 c7_1 z7_1 r8_1 c8_1 z8_1 r9_1 c9_1 z9_1 hb1
  by_cases hlt2 : i < m
  ·
   have i0_2 : (0 : Int) ≤ (i : Int) := by omega
   have i8_2 : (i : Int) < 8 := by omega
   have k8_2 : i < 8 := by omega
   have m8_2 : i * 8 + 8 ≤ 64 := by omega
   have m64_2 : i * 64 + 64 ≤ 512 := by omega
   have l1_2 : 10 + i * 64 + 64 ≤ 522 := by omega
   go_wp2
   go_loopw [20] (fun s20 wr => ∃ j : Nat, j ≤ m ∧ s20 = .int .i64 j ∧ Below w.heap.size w wr ∧ (IsRow wr (w.heap.size) ∧ blk wr (w.heap.size) = blk W2 (w.heap.size)) ∧ (IsRow wr (w.heap.size + 1) ∧ blk wr (w.heap.size + 1) = blk W2 (w.heap.size + 1)) ∧ (IsRow wr (w.heap.size + 2) ∧ blk wr (w.heap.size + 2) = blk W2 (w.heap.size + 2)) ∧ (IsRow wr (w.heap.size + 3) ∧ blk wr (w.heap.size + 3) = blk W2 (w.heap.size + 3)) ∧ (IsRow wr (w.heap.size + 4) ∧ blk wr (w.heap.size + 4) = blk W2 (w.heap.size + 4)) ∧ (IsRow wr (w.heap.size + 5) ∧ blk wr (w.heap.size + 5) = row 64 (cvK p n m A C F G i j))) (fun s20 _ => m - (intOf s20).toNat)
   case atStart => exact ⟨0, by omega, rfl, hb2, ⟨r4_2, rfl⟩, ⟨r5_2, rfl⟩, ⟨r6_2, rfl⟩, ⟨r7_2, rfl⟩, ⟨r8_2, rfl⟩, ⟨r9_2, c9_2⟩⟩
   case round =>
    obtain ⟨j, hle3, rfl, hb3, ⟨r4_3, c4_3⟩, ⟨r5_3, c5_3⟩, ⟨r6_3, c6_3⟩, ⟨r7_3, c7_3⟩, ⟨r8_3, c8_3⟩, ⟨r9_3, c9_3⟩⟩ := hrel
    obtain ⟨W3, rfl⟩ : ∃ W3 : World, W3 = wr := ⟨_, rfl⟩
    have q3 := hb3.size
    have E4_3 := Lib.hid c4_2; replace c4_3 := c4_3.trans c4_2
    have z4_3 := isRow_lt r4_3
    have E5_3 := Lib.hid c5_2; replace c5_3 := c5_3.trans c5_2
    have z5_3 := isRow_lt r5_3
    have E6_3 := Lib.hid c6_2; replace c6_3 := c6_3.trans c6_2
    have z6_3 := isRow_lt r6_3
    have E7_3 := Lib.hid c7_2; replace c7_3 := c7_3.trans c7_2
    have z7_3 := isRow_lt r7_3
    have E8_3 := Lib.hid c8_2; replace c8_3 := c8_3.trans c8_2
    have z8_3 := isRow_lt r8_3
    have z9_3 := isRow_lt r9_3
    clear r4_2 c4_2 z4_2 r5_2 c5_2 z5_2 r6_2 c6_2 z6_2 r7_2 c7_2 z7_2 r8_2 c8_2 z8_2 r9_2 c9_2 z9_2 hb2
    by_cases hlt3 : j < m
    ·
     have i0_3 : (0 : Int) ≤ (j : Int) := by omega
     have i8_3 : (j : Int) < 8 := by omega
     have k8_3 : j < 8 := by omega
     have m8_3 : j * 8 + 8 ≤ 64 := by omega
     have m64_3 : j * 64 + 64 ≤ 512 := by omega
     have l1_3 : 10 + j * 64 + 64 ≤ 522 := by omega
     have l2_3i : 10 + i * 64 + j * 8 + 8 ≤ 522 := by omega
     have l3_3i : 10 + j * 64 + i * 8 + 8 ≤ 522 := by omega
     have l4_3i : i * 64 + j * 8 + 8 ≤ 512 := by omega
     have l5_3i : j * 64 + i * 8 + 8 ≤ 512 := by omega
     have l6_3i : i * 8 + j < 64 := by omega
     have l7_3i : j * 8 + i < 64 := by omega
     have HV : Hid (Bytes 8 fun t => F (j * 8 + t)) := Lib.hid (part_bytes HF.out j (by omega))
     have HM : Hid (Bytes 8 (mtab C i j)) := Lib.hid (mtab_bytes HC.out i j (by omega) (by omega))
     have e9 := alg_at8 q m C i j (by omega) (by omega)
     go_wp2
     refine wp_quiet_alloc 15 _ (.cells (row 8 zf) 32) (Below W3.heap.size W3) (Made W3 (row 8 zf)) (by kernel_rfl) rfl rfl (by kernel_rfl) (fun a W => (xallocVec _ _ _ _ _ _ _).trans (allocVec W)) (closed_below W3) (closed_made W3 _) (fun b W h => h.1) (fun W h => made_new W3 _ _ W h) (Below.refl _ _).drew ?_
     simp only [List.take_succ_cons, List.take_zero, List.drop_succ_cons, List.drop_zero]
     iterate 13 (refine e_plain rfl ?_; apply Exists.intro; refine ⟨fun D hD hK W hW => ?_, ?_⟩; (focus (obtain ⟨x4, y4⟩ := keepB (hD W hW) z4_3 r4_3 c4_3; obtain ⟨x5, y5⟩ := keepB (hD W hW) z5_3 r5_3 c5_3; obtain ⟨x6, y6⟩ := keepB (hD W hW) z6_3 r6_3 c6_3; obtain ⟨x7, y7⟩ := keepB (hD W hW) z7_3 r7_3 c7_3; obtain ⟨x8, y8⟩ := keepB (hD W hW) z8_3 r8_3 c8_3; obtain ⟨x9, y9⟩ := keepB (hD W hW) z9_3 r9_3 c9_3; unfold Oper.quietAt; go_simp; first | done | rfl)); simp only [Act.put, List.setIfInBounds_toArray, List.set_cons_zero, List.set_cons_succ])
     (refine e_plain rfl ?_; apply Exists.intro; refine ⟨fun D hD hK W hW => ?_, ?_⟩; (focus (obtain ⟨x4, y4⟩ := keepB (hD W hW) z4_3 r4_3 c4_3; obtain ⟨x5, y5⟩ := keepB (hD W hW) z5_3 r5_3 c5_3; obtain ⟨x6, y6⟩ := keepB (hD W hW) z6_3 r6_3 c6_3; obtain ⟨x7, y7⟩ := keepB (hD W hW) z7_3 r7_3 c7_3; obtain ⟨x8, y8⟩ := keepB (hD W hW) z8_3 r8_3 c8_3; obtain ⟨x9, y9⟩ := keepB (hD W hW) z9_3 r9_3 c9_3; unfold Oper.quietAt; go_simp; (go_at_call 72; exact (applyLinear_any p G _ _ hp hp' HG.out HM.out).mono fun e w2 ⟨he, hw2⟩ => ⟨he, hK _ _ hW hw2⟩))); simp only [Act.put, List.setIfInBounds_toArray, List.set_cons_zero, List.set_cons_succ])
     (refine e_plain rfl ?_; apply Exists.intro; refine ⟨fun D hD hK W hW => ?_, ?_⟩; (focus (obtain ⟨x4, y4⟩ := keepB (hD W hW) z4_3 r4_3 c4_3; obtain ⟨x5, y5⟩ := keepB (hD W hW) z5_3 r5_3 c5_3; obtain ⟨x6, y6⟩ := keepB (hD W hW) z6_3 r6_3 c6_3; obtain ⟨x7, y7⟩ := keepB (hD W hW) z7_3 r7_3 c7_3; obtain ⟨x8, y8⟩ := keepB (hD W hW) z8_3 r8_3 c8_3; obtain ⟨x9, y9⟩ := keepB (hD W hW) z9_3 r9_3 c9_3; unfold Oper.quietAt; go_simp; (go_at_call 146; exact (multiply_any p n A _ _ _ hp hp' hn HA.out HV.out (bytes_mod hp hp' _)).mono fun e w2 ⟨he, hw2⟩ => ⟨he, hK _ _ hW hw2⟩))); simp only [Act.put, List.setIfInBounds_toArray, List.set_cons_zero, List.set_cons_succ])
     refine e_nil ?_
     intro a4 W4 hW4
     obtain ⟨hw4, hl4, m1_4, m2_4⟩ := hW4
     have n4_12 : (w.heap.size) ≠ (a4) := by have := z4_3; omega
     have n12_4 : (a4) ≠ (w.heap.size) := by have := z4_3; omega
     have n5_12 : (w.heap.size + 1) ≠ (a4) := by have := z5_3; omega
     have n12_5 : (a4) ≠ (w.heap.size + 1) := by have := z5_3; omega
     have n6_12 : (w.heap.size + 2) ≠ (a4) := by have := z6_3; omega
     have n12_6 : (a4) ≠ (w.heap.size + 2) := by have := z6_3; omega
     have n7_12 : (w.heap.size + 3) ≠ (a4) := by have := z7_3; omega
     have n12_7 : (a4) ≠ (w.heap.size + 3) := by have := z7_3; omega
     have n8_12 : (w.heap.size + 4) ≠ (a4) := by have := z8_3; omega
     have n12_8 : (a4) ≠ (w.heap.size + 4) := by have := z8_3; omega
     have n9_12 : (w.heap.size + 5) ≠ (a4) := by have := z9_3; omega
     have n12_9 : (a4) ≠ (w.heap.size + 5) := by have := z9_3; omega
     obtain ⟨r4_4, c4_4, z4_4⟩ := keepZ hw4 z4_3 r4_3 c4_3
     obtain ⟨r5_4, c5_4, z5_4⟩ := keepZ hw4 z5_3 r5_3 c5_3
     obtain ⟨r6_4, c6_4, z6_4⟩ := keepZ hw4 z6_3 r6_3 c6_3
     obtain ⟨r7_4, c7_4, z7_4⟩ := keepZ hw4 z7_3 r7_3 c7_3
     obtain ⟨r8_4, c8_4, z8_4⟩ := keepZ hw4 z8_3 r8_3 c8_3
     obtain ⟨r9_4, c9_4, z9_4⟩ := keepZ hw4 z9_3 r9_3 c9_3
     obtain ⟨hb4, q4⟩ := bN hb3 hw4
     clear hw4 r4_3 c4_3 z4_3 r5_3 c5_3 z5_3 r6_3 c6_3 z6_3 r7_3 c7_3 z7_3 r8_3 c8_3 z8_3 r9_3 c9_3 z9_3 hb3
     have z12_4 := isRow_lt m1_4
     simp only [Act.put, List.setIfInBounds_toArray, List.set_cons_zero, List.set_cons_succ]
     go_wp2
     refine atomW fun W5 e5 => ?_
     have hb5 : Below w.heap.size w W5 := by rw [e5]; exact bt
     have q5 := hb5.size
     have R5 : IsRow W5 (w.heap.size) ∧ IsRow W5 (w.heap.size + 1) ∧ IsRow W5 (w.heap.size + 2) ∧ IsRow W5 (w.heap.size + 3) ∧ IsRow W5 (w.heap.size + 4) ∧ IsRow W5 (w.heap.size + 5) ∧ IsRow W5 (a4) := by rw [e5]; simp [go_sem, r4_4, c4_4, n4_12, r5_4, c5_4, n5_12, r6_4, c6_4, n6_12, r7_4, c7_4, n7_12, r8_4, c8_4, n8_12, r9_4, c9_4, n9_12, m1_4, m2_4, n12_4, n12_5, n12_6, n12_7, n12_8, n12_9]
     obtain ⟨r4_5, r5_5, r6_5, r7_5, r8_5, r9_5, r12_5⟩ := R5
     have C5 := (⟨congrArg (blk · (w.heap.size)) e5, congrArg (blk · (w.heap.size + 1)) e5, congrArg (blk · (w.heap.size + 2)) e5, congrArg (blk · (w.heap.size + 3)) e5, congrArg (blk · (w.heap.size + 4)) e5, congrArg (blk · (w.heap.size + 5)) e5, congrArg (blk · (a4)) e5⟩ : _ ∧ _ ∧ _ ∧ _ ∧ _ ∧ _ ∧ _); simp [go_sem, r4_4, c4_4, n4_12, r5_4, c5_4, n5_12, r6_4, c6_4, n6_12, r7_4, c7_4, n7_12, r8_4, c8_4, n8_12, r9_4, c9_4, n9_12, m1_4, m2_4, n12_4, n12_5, n12_6, n12_7, n12_8, n12_9] at C5
     obtain ⟨c4_5, c5_5, c6_5, c7_5, c8_5, c9_5, c12_5⟩ := C5
     have z4_5 := isRow_lt r4_5; have z5_5 := isRow_lt r5_5; have z6_5 := isRow_lt r6_5; have z7_5 := isRow_lt r7_5; have z8_5 := isRow_lt r8_5; have z9_5 := isRow_lt r9_5; have z12_5 := isRow_lt r12_5
     clear e5 r4_4 c4_4 z4_4 r5_4 c5_4 z5_4 r6_4 c6_4 z6_4 r7_4 c7_4 z7_4 r8_4 c8_4 z8_4 r9_4 c9_4 z9_4 m1_4 m2_4 z12_4 hb4
     refine wp_quiet_tail 6 (Below W5.heap.size W5) (by kernel_rfl) (by kernel_rfl) (Below.refl _ _).drew ?_
     simp only [List.take_succ_cons, List.take_zero, List.drop_succ_cons, List.drop_zero]
     iterate 6 (refine q_plain rfl ?_; apply Exists.intro; refine ⟨fun W hW => ?_, ?_⟩; (focus (obtain ⟨x4, y4⟩ := keepB hW z4_5 r4_5 c4_5; obtain ⟨x5, y5⟩ := keepB hW z5_5 r5_5 c5_5; obtain ⟨x6, y6⟩ := keepB hW z6_5 r6_5 c6_5; obtain ⟨x7, y7⟩ := keepB hW z7_5 r7_5 c7_5; obtain ⟨x8, y8⟩ := keepB hW z8_5 r8_5 c8_5; obtain ⟨x9, y9⟩ := keepB hW z9_5 r9_5 c9_5; obtain ⟨x12, y12⟩ := keepB hW z12_5 r12_5 c12_5; go_simp; first | done | rfl)); simp only [Act.put, List.setIfInBounds_toArray, List.set_cons_zero, List.set_cons_succ])
     refine wpQuiet_nil ?_
     intro W6 hw6
     obtain ⟨r4_6, c4_6, z4_6⟩ := keepZ hw6 z4_5 r4_5 c4_5
     obtain ⟨r5_6, c5_6, z5_6⟩ := keepZ hw6 z5_5 r5_5 c5_5
     obtain ⟨r6_6, c6_6, z6_6⟩ := keepZ hw6 z6_5 r6_5 c6_5
     obtain ⟨r7_6, c7_6, z7_6⟩ := keepZ hw6 z7_5 r7_5 c7_5
     obtain ⟨r8_6, c8_6, z8_6⟩ := keepZ hw6 z8_5 r8_5 c8_5
     obtain ⟨r9_6, c9_6, z9_6⟩ := keepZ hw6 z9_5 r9_5 c9_5
     obtain ⟨r12_6, c12_6, z12_6⟩ := keepZ hw6 z12_5 r12_5 c12_5
     obtain ⟨hb6, q6⟩ := bN hb5 hw6
     clear hw6 r4_5 c4_5 z4_5 r5_5 c5_5 z5_5 r6_5 c6_5 z6_5 r7_5 c7_5 z7_5 r8_5 c8_5 z8_5 r9_5 c9_5 z9_5 r12_5 c12_5 z12_5 hb5
     go_wp2_with fail
     refine (addMultiple_any p 1 _ (i * 8) 64 8 _ _ _ 0 (cvK p n m A C F G i j) (mulF p n (mtab A) (fun t => F (j * 8 + t)) (appF p 8 (fun x y => G (x * 8 + y)) (mtab C i j))) _ hp hp' (by omega) (by omega) r9_6 c9_6 (by omega) (by omega) (fun t _ _ => cv_range hp n m A C F G i j t) (byte_at (N := 8) (off' := 0) c12_6 (by omega) (fun t _ => congrArg _ (Nat.zero_add t)) (mulF_bytes hp hp' n (mtab A) _ _)) (by omega)).mono ?_; rintro _ _ ⟨rfl, rfl⟩
     go_wp2
     go_roundw
     case rel => exact ⟨j + 1, by omega, by go_num, bt, ⟨by simp [go_sem, r4_6, c4_6, n4_12, r5_6, c5_6, n5_12, r6_6, c6_6, n6_12, r7_6, c7_6, n7_12, r8_6, c8_6, n8_12, r9_6, c9_6, n9_12, r12_6, c12_6, n12_4, n12_5, n12_6, n12_7, n12_8, n12_9], (by rw [E4_3.out]; first | exact c4_6 | (simp [go_sem, r4_6, c4_6, n4_12, r5_6, c5_6, n5_12, r6_6, c6_6, n6_12, r7_6, c7_6, n7_12, r8_6, c8_6, n8_12, r9_6, c9_6, n9_12, r12_6, c12_6, n12_4, n12_5, n12_6, n12_7, n12_8, n12_9]; done))⟩, ⟨by simp [go_sem, r4_6, c4_6, n4_12, r5_6, c5_6, n5_12, r6_6, c6_6, n6_12, r7_6, c7_6, n7_12, r8_6, c8_6, n8_12, r9_6, c9_6, n9_12, r12_6, c12_6, n12_4, n12_5, n12_6, n12_7, n12_8, n12_9], (by rw [E5_3.out]; first | exact c5_6 | (simp [go_sem, r4_6, c4_6, n4_12, r5_6, c5_6, n5_12, r6_6, c6_6, n6_12, r7_6, c7_6, n7_12, r8_6, c8_6, n8_12, r9_6, c9_6, n9_12, r12_6, c12_6, n12_4, n12_5, n12_6, n12_7, n12_8, n12_9]; done))⟩, ⟨by simp [go_sem, r4_6, c4_6, n4_12, r5_6, c5_6, n5_12, r6_6, c6_6, n6_12, r7_6, c7_6, n7_12, r8_6, c8_6, n8_12, r9_6, c9_6, n9_12, r12_6, c12_6, n12_4, n12_5, n12_6, n12_7, n12_8, n12_9], (by rw [E6_3.out]; first | exact c6_6 | (simp [go_sem, r4_6, c4_6, n4_12, r5_6, c5_6, n5_12, r6_6, c6_6, n6_12, r7_6, c7_6, n7_12, r8_6, c8_6, n8_12, r9_6, c9_6, n9_12, r12_6, c12_6, n12_4, n12_5, n12_6, n12_7, n12_8, n12_9]; done))⟩, ⟨by simp [go_sem, r4_6, c4_6, n4_12, r5_6, c5_6, n5_12, r6_6, c6_6, n6_12, r7_6, c7_6, n7_12, r8_6, c8_6, n8_12, r9_6, c9_6, n9_12, r12_6, c12_6, n12_4, n12_5, n12_6, n12_7, n12_8, n12_9], (by rw [E7_3.out]; first | exact c7_6 | (simp [go_sem, r4_6, c4_6, n4_12, r5_6, c5_6, n5_12, r6_6, c6_6, n6_12, r7_6, c7_6, n7_12, r8_6, c8_6, n8_12, r9_6, c9_6, n9_12, r12_6, c12_6, n12_4, n12_5, n12_6, n12_7, n12_8, n12_9]; done))⟩, ⟨by simp [go_sem, r4_6, c4_6, n4_12, r5_6, c5_6, n5_12, r6_6, c6_6, n6_12, r7_6, c7_6, n7_12, r8_6, c8_6, n8_12, r9_6, c9_6, n9_12, r12_6, c12_6, n12_4, n12_5, n12_6, n12_7, n12_8, n12_9], (by rw [E8_3.out]; first | exact c8_6 | (simp [go_sem, r4_6, c4_6, n4_12, r5_6, c5_6, n5_12, r6_6, c6_6, n6_12, r7_6, c7_6, n7_12, r8_6, c8_6, n8_12, r9_6, c9_6, n9_12, r12_6, c12_6, n12_4, n12_5, n12_6, n12_7, n12_8, n12_9]; done))⟩, ⟨by simp [go_sem, r4_6, c4_6, n4_12, r5_6, c5_6, n5_12, r6_6, c6_6, n6_12, r7_6, c7_6, n7_12, r8_6, c8_6, n8_12, r9_6, c9_6, n9_12, r12_6, c12_6, n12_4, n12_5, n12_6, n12_7, n12_8, n12_9], (by first | (rw [blk_setRow _ _ _ _ r9_6, if_pos rfl]; exact cv_step p n m A C F G i j) | exact (c9_6).trans (cv_step p n m A C F G i j) | (simp [go_sem, r4_6, c4_6, n4_12, r5_6, c5_6, n5_12, r6_6, c6_6, n6_12, r7_6, c7_6, n7_12, r8_6, c8_6, n8_12, r9_6, c9_6, n9_12, r12_6, c12_6, n12_4, n12_5, n12_6, n12_7, n12_8, n12_9]; exact cv_step p n m A C F G i j))⟩⟩
     case measure => simp [intOf]; try omega
    ·
     obtain rfl : m = j := by omega
     go_wp2
     go_roundw
     case rel => exact ⟨i + 1, by omega, by go_num, bt, ⟨by simp [go_sem, r4_3, c4_3, r5_3, c5_3, r6_3, c6_3, r7_3, c7_3, r8_3, c8_3, r9_3, c9_3], (by rw [E4_2.out]; first | exact c4_3 | (simp [go_sem, r4_3, c4_3, r5_3, c5_3, r6_3, c6_3, r7_3, c7_3, r8_3, c8_3, r9_3, c9_3]; done))⟩, ⟨by simp [go_sem, r4_3, c4_3, r5_3, c5_3, r6_3, c6_3, r7_3, c7_3, r8_3, c8_3, r9_3, c9_3], (by rw [E5_2.out]; first | exact c5_3 | (simp [go_sem, r4_3, c4_3, r5_3, c5_3, r6_3, c6_3, r7_3, c7_3, r8_3, c8_3, r9_3, c9_3]; done))⟩, ⟨by simp [go_sem, r4_3, c4_3, r5_3, c5_3, r6_3, c6_3, r7_3, c7_3, r8_3, c8_3, r9_3, c9_3], (by rw [E6_2.out]; first | exact c6_3 | (simp [go_sem, r4_3, c4_3, r5_3, c5_3, r6_3, c6_3, r7_3, c7_3, r8_3, c8_3, r9_3, c9_3]; done))⟩, ⟨by simp [go_sem, r4_3, c4_3, r5_3, c5_3, r6_3, c6_3, r7_3, c7_3, r8_3, c8_3, r9_3, c9_3], (by rw [E7_2.out]; first | exact c7_3 | (simp [go_sem, r4_3, c4_3, r5_3, c5_3, r6_3, c6_3, r7_3, c7_3, r8_3, c8_3, r9_3, c9_3]; done))⟩, ⟨by simp [go_sem, r4_3, c4_3, r5_3, c5_3, r6_3, c6_3, r7_3, c7_3, r8_3, c8_3, r9_3, c9_3], (by rw [E8_2.out]; first | exact c8_3 | (simp [go_sem, r4_3, c4_3, r5_3, c5_3, r6_3, c6_3, r7_3, c7_3, r8_3, c8_3, r9_3, c9_3]; done))⟩, ⟨by simp [go_sem, r4_3, c4_3, r5_3, c5_3, r6_3, c6_3, r7_3, c7_3, r8_3, c8_3, r9_3, c9_3], (by first | exact (c9_3).trans (cv_row p n m A C F G i) | (simp [go_sem, r4_3, c4_3, r5_3, c5_3, r6_3, c6_3, r7_3, c7_3, r8_3, c8_3, r9_3, c9_3]; exact cv_row p n m A C F G i))⟩⟩
     case measure => simp [intOf]; try omega
  ·
   obtain rfl : m = i := by omega
   go_wp2_with fail
   refine bodyPost_ret (result_cell rfl aggLin _ _ (row 64 (cvK p n m A C F G m 0)) _ rfl ?_ ?_) rfl ⟨rfl, ?_⟩
   · simp [go_sem, r4_2, c4_2, r5_2, c5_2, r6_2, c6_2, r7_2, c7_2, r8_2, c8_2, r9_2, c9_2]
   · simp [go_sem, r4_2, c4_2, r5_2, c5_2, r6_2, c6_2, r7_2, c7_2, r8_2, c8_2, r9_2, c9_2]
   · exact bt

/-! ### coproducts and Counits by the reference model -/
theorem copS_skip (p : Int) (f v : Nat → Int) (n i : Nat) (h : v i = 0) : row 64 (copS p f v n i 0) = row 64 (copS p f v n (i + 1) 0) := row_congr fun t _ => by
  unfold copS copK copF
  split
  · rw [if_neg (by omega), if_neg (by omega), sumTo, h, Int.zero_mul, Int.add_zero]
  · rfl

set_option maxRecDepth 100000 in
set_option maxHeartbeats 1000000 in
theorem l03Coproduct_any (p : Int) (n : Nat) (f v : Nat → Int) (w : World) (hp : 0 < p) (hp' : p ≤ 255) (hn : n ≤ 8) (hF : Bytes 1104 f) (hv : Bytes 8 v) :
    Calls Tryz.prog 77 #[.agg (hop p n f), .agg (row 8 v)] w fun e w' => e = .returned (.agg (row 64 (copS p (coF f) v n n 0))) ∧ Below w.heap.size w w' := by
 have HF := Lib.hid hF; clear hF
 have Hv := Lib.hid hv; clear hv
 go_enter Tryz.func77, Tryz.ntmps77
 go_wp2
 refine atomW fun W1 e1 => ?_
 have hb1 : Below w.heap.size w W1 := by rw [e1]; exact bt
 have q1 := hb1.size
 have R1 : IsRow W1 (w.heap.size) ∧ IsRow W1 (w.heap.size + 1) ∧ IsRow W1 (w.heap.size + 2) ∧ IsRow W1 (w.heap.size + 3) := by rw [e1]; simp [go_sem]
 obtain ⟨r2_1, r3_1, r4_1, r5_1⟩ := R1
 have C1 := (⟨congrArg (blk · (w.heap.size)) e1, congrArg (blk · (w.heap.size + 1)) e1, congrArg (blk · (w.heap.size + 2)) e1, congrArg (blk · (w.heap.size + 3)) e1⟩ : _ ∧ _ ∧ _ ∧ _); simp [go_sem] at C1
 obtain ⟨c2_1, c3_1, c4_1, c5_1⟩ := C1
 have z2_1 := isRow_lt r2_1; have z3_1 := isRow_lt r3_1; have z4_1 := isRow_lt r4_1; have z5_1 := isRow_lt r5_1
 clear e1
 go_loopw [6] (fun s6 wr => ∃ i : Nat, i ≤ n ∧ s6 = .int .i64 i ∧ Below w.heap.size w wr ∧ (IsRow wr (w.heap.size) ∧ blk wr (w.heap.size) = blk W1 (w.heap.size)) ∧ (IsRow wr (w.heap.size + 1) ∧ blk wr (w.heap.size + 1) = blk W1 (w.heap.size + 1)) ∧ (IsRow wr (w.heap.size + 2) ∧ blk wr (w.heap.size + 2) = blk W1 (w.heap.size + 2)) ∧ (IsRow wr (w.heap.size + 3) ∧ blk wr (w.heap.size + 3) = row 64 (copS p (coF f) v n i 0))) (fun s6 _ => n - (intOf s6).toNat)
 case atStart => exact ⟨0, by omega, rfl, hb1, ⟨r2_1, rfl⟩, ⟨r3_1, rfl⟩, ⟨r4_1, rfl⟩, ⟨r5_1, c5_1.trans (copS_start p (coF f) v n)⟩⟩
 case round =>
  obtain ⟨i, hle2, rfl, hb2, ⟨r2_2, c2_2⟩, ⟨r3_2, c3_2⟩, ⟨r4_2, c4_2⟩, ⟨r5_2, c5_2⟩⟩ := hrel
  obtain ⟨W2, rfl⟩ : ∃ W2 : World, W2 = wr := ⟨_, rfl⟩
  have q2 := hb2.size
  have E2_2 := Lib.hid c2_1; replace c2_2 := c2_2.trans c2_1
  have z2_2 := isRow_lt r2_2
  have E3_2 := Lib.hid c3_1; replace c3_2 := c3_2.trans c3_1
  have z3_2 := isRow_lt r3_2
  have E4_2 := Lib.hid c4_1; replace c4_2 := c4_2.trans c4_1
  have z4_2 := isRow_lt r4_2
  have z5_2 := isRow_lt r5_2
  clear r2_1 c2_1 z2_1 r3_1 c3_1 z3_1 r4_1 c4_1 z4_1 r5_1 c5_1 z5_1 hb1
  by_cases hlt2 : i < n
  ·
   have i0_2 : (0 : Int) ≤ (i : Int) := by omega
   have i8_2 : (i : Int) < 8 := by omega
   have k8_2 : i < 8 := by omega
   have m8_2 : i * 8 + 8 ≤ 64 := by omega
   have m64_2 : i * 64 + 64 ≤ 512 := by omega
   have l1_2 : 10 + i * 64 + 64 ≤ 522 := by omega
   by_cases hz : v i = 0
   ·
    have b1 := (Hv.out i (by omega)).1; have b2 := (Hv.out i (by omega)).2
    go_wp2
    go_loopw [7] (fun s7 wr => ∃ j : Nat, j ≤ 0 ∧ s7 = .int .i64 j ∧ Below w.heap.size w wr ∧ (IsRow wr (w.heap.size) ∧ blk wr (w.heap.size) = blk W2 (w.heap.size)) ∧ (IsRow wr (w.heap.size + 1) ∧ blk wr (w.heap.size + 1) = blk W2 (w.heap.size + 1)) ∧ (IsRow wr (w.heap.size + 2) ∧ blk wr (w.heap.size + 2) = blk W2 (w.heap.size + 2)) ∧ (IsRow wr (w.heap.size + 3) ∧ blk wr (w.heap.size + 3) = row 64 (copS p (coF f) v n i 0))) (fun s7 _ => 0 - (intOf s7).toNat)
    case atStart => exact ⟨0, by omega, rfl, hb2, ⟨r2_2, rfl⟩, ⟨r3_2, rfl⟩, ⟨r4_2, rfl⟩, ⟨r5_2, c5_2⟩⟩
    case round =>
     obtain ⟨j, hle3, rfl, hb3, ⟨r2_3, c2_3⟩, ⟨r3_3, c3_3⟩, ⟨r4_3, c4_3⟩, ⟨r5_3, c5_3⟩⟩ := hrel
     obtain ⟨W3, rfl⟩ : ∃ W3 : World, W3 = wr := ⟨_, rfl⟩
     have q3 := hb3.size
     have E2_3 := Lib.hid c2_2; replace c2_3 := c2_3.trans c2_2
     have z2_3 := isRow_lt r2_3
     have E3_3 := Lib.hid c3_2; replace c3_3 := c3_3.trans c3_2
     have z3_3 := isRow_lt r3_3
     have E4_3 := Lib.hid c4_2; replace c4_3 := c4_3.trans c4_2
     have z4_3 := isRow_lt r4_3
     have z5_3 := isRow_lt r5_3
     clear r2_2 c2_2 z2_2 r3_2 c3_2 z3_2 r4_2 c4_2 z4_2 r5_2 c5_2 z5_2 hb2
     by_cases hlt3 : j < 0
     ·
      have i0_3 : (0 : Int) ≤ (j : Int) := by omega
      have i8_3 : (j : Int) < 8 := by omega
      have k8_3 : j < 8 := by omega
      have m8_3 : j * 8 + 8 ≤ 64 := by omega
      have m64_3 : j * 64 + 64 ≤ 512 := by omega
      have l1_3 : 10 + j * 64 + 64 ≤ 522 := by omega
      have l2_3i : 10 + i * 64 + j * 8 + 8 ≤ 522 := by omega
      have l3_3i : 10 + j * 64 + i * 8 + 8 ≤ 522 := by omega
      have l4_3i : i * 64 + j * 8 + 8 ≤ 512 := by omega
      have l5_3i : j * 64 + i * 8 + 8 ≤ 512 := by omega
      have l6_3i : i * 8 + j < 64 := by omega
      have l7_3i : j * 8 + i < 64 := by omega
      omega
     ·
      obtain rfl : j = 0 := by omega
      go_wp2
      go_roundw
      case rel => exact ⟨i + 1, by omega, by go_num, bt, ⟨by simp [go_sem, r2_3, c2_3, r3_3, c3_3, r4_3, c4_3, r5_3, c5_3], (by rw [E2_2.out]; first | exact c2_3 | (simp [go_sem, r2_3, c2_3, r3_3, c3_3, r4_3, c4_3, r5_3, c5_3]; done))⟩, ⟨by simp [go_sem, r2_3, c2_3, r3_3, c3_3, r4_3, c4_3, r5_3, c5_3], (by rw [E3_2.out]; first | exact c3_3 | (simp [go_sem, r2_3, c2_3, r3_3, c3_3, r4_3, c4_3, r5_3, c5_3]; done))⟩, ⟨by simp [go_sem, r2_3, c2_3, r3_3, c3_3, r4_3, c4_3, r5_3, c5_3], (by rw [E4_2.out]; first | exact c4_3 | (simp [go_sem, r2_3, c2_3, r3_3, c3_3, r4_3, c4_3, r5_3, c5_3]; done))⟩, ⟨by simp [go_sem, r2_3, c2_3, r3_3, c3_3, r4_3, c4_3, r5_3, c5_3], (by first | exact (c5_3).trans (copS_skip p (coF f) v n i hz) | (simp [go_sem, r2_3, c2_3, r3_3, c3_3, r4_3, c4_3, r5_3, c5_3]; exact copS_skip p (coF f) v n i hz))⟩⟩
      case measure => simp [intOf]; try omega
   ·
    have b1 := (Hv.out i (by omega)).1; have b2 := (Hv.out i (by omega)).2
    go_wp2
    go_loopw [7] (fun s7 wr => ∃ j : Nat, j ≤ n ∧ s7 = .int .i64 j ∧ Below w.heap.size w wr ∧ (IsRow wr (w.heap.size) ∧ blk wr (w.heap.size) = blk W2 (w.heap.size)) ∧ (IsRow wr (w.heap.size + 1) ∧ blk wr (w.heap.size + 1) = blk W2 (w.heap.size + 1)) ∧ (IsRow wr (w.heap.size + 2) ∧ blk wr (w.heap.size + 2) = blk W2 (w.heap.size + 2)) ∧ (IsRow wr (w.heap.size + 3) ∧ blk wr (w.heap.size + 3) = row 64 (copS p (coF f) v n i j))) (fun s7 _ => n - (intOf s7).toNat)
    case atStart => exact ⟨0, by omega, rfl, hb2, ⟨r2_2, rfl⟩, ⟨r3_2, rfl⟩, ⟨r4_2, rfl⟩, ⟨r5_2, c5_2⟩⟩
    case round =>
     obtain ⟨j, hle4, rfl, hb4, ⟨r2_4, c2_4⟩, ⟨r3_4, c3_4⟩, ⟨r4_4, c4_4⟩, ⟨r5_4, c5_4⟩⟩ := hrel
     obtain ⟨W4, rfl⟩ : ∃ W4 : World, W4 = wr := ⟨_, rfl⟩
     have q4 := hb4.size
     have E2_4 := Lib.hid c2_2; replace c2_4 := c2_4.trans c2_2
     have z2_4 := isRow_lt r2_4
     have E3_4 := Lib.hid c3_2; replace c3_4 := c3_4.trans c3_2
     have z3_4 := isRow_lt r3_4
     have E4_4 := Lib.hid c4_2; replace c4_4 := c4_4.trans c4_2
     have z4_4 := isRow_lt r4_4
     have z5_4 := isRow_lt r5_4
     clear r2_2 c2_2 z2_2 r3_2 c3_2 z3_2 r4_2 c4_2 z4_2 r5_2 c5_2 z5_2 hb2
     by_cases hlt4 : j < n
     ·
      have i0_4 : (0 : Int) ≤ (j : Int) := by omega
      have i8_4 : (j : Int) < 8 := by omega
      have k8_4 : j < 8 := by omega
      have m8_4 : j * 8 + 8 ≤ 64 := by omega
      have m64_4 : j * 64 + 64 ≤ 512 := by omega
      have l1_4 : 10 + j * 64 + 64 ≤ 522 := by omega
      have l2_4i : 10 + i * 64 + j * 8 + 8 ≤ 522 := by omega
      have l3_4i : 10 + j * 64 + i * 8 + 8 ≤ 522 := by omega
      have l4_4i : i * 64 + j * 8 + 8 ≤ 512 := by omega
      have l5_4i : j * 64 + i * 8 + 8 ≤ 512 := by omega
      have l6_4i : i * 8 + j < 64 := by omega
      have l7_4i : j * 8 + i < 64 := by omega
      have HA : Hid (Bytes 8 fun t => copS p (coF f) v n i j (j * 8 + t)) := Lib.hid fun t _ => copS_bytes hp hp' (coF f) v n i j _
      have HB : Hid (Bytes 8 (mtab (coF f) i j)) := Lib.hid (mtab_bytes (co_bytes HF.out) i j (by omega) (by omega))
      have e9 := hop_com8 p n f i j (by omega) (by omega)
      have q1 : IntKind.i64.wrap (v i) = v i := IntWalk.i64_in _ (by omega)
      have l9 : 530 + i * 64 + j * 8 + 8 ≤ 1106 := by omega
      go_wp2
      refine wp_quiet_tail 18 (Below W4.heap.size W4) (by kernel_rfl) (by kernel_rfl) (Below.refl _ _).drew ?_
      simp only [List.take_succ_cons, List.take_zero, List.drop_succ_cons, List.drop_zero]
      iterate 16 (refine q_plain rfl ?_; apply Exists.intro; refine ⟨fun W hW => ?_, ?_⟩; (focus (obtain ⟨x2, y2⟩ := keepB hW z2_4 r2_4 c2_4; obtain ⟨x3, y3⟩ := keepB hW z3_4 r3_4 c3_4; obtain ⟨x4, y4⟩ := keepB hW z4_4 r4_4 c4_4; obtain ⟨x5, y5⟩ := keepB hW z5_4 r5_4 c5_4; go_simp; first | done | rfl)); simp only [Act.put, List.setIfInBounds_toArray, List.set_cons_zero, List.set_cons_succ])
      (refine q_plain rfl ?_; apply Exists.intro; refine ⟨fun W hW => ?_, ?_⟩; (focus (obtain ⟨x2, y2⟩ := keepB hW z2_4 r2_4 c2_4; obtain ⟨x3, y3⟩ := keepB hW z3_4 r3_4 c3_4; obtain ⟨x4, y4⟩ := keepB hW z4_4 r4_4 c4_4; obtain ⟨x5, y5⟩ := keepB hW z5_4 r5_4 c5_4; go_simp; (go_at_call 66; exact (l01Add_any _ _ _ _ _ hp hp' (by omega) (by omega) HA.out HB.out).mono fun e w2 ⟨he, hw2⟩ => ⟨he, hW.trans (hw2.mono hW.size)⟩))); simp only [Act.put, List.setIfInBounds_toArray, List.set_cons_zero, List.set_cons_succ])
      iterate 1 (refine q_plain rfl ?_; apply Exists.intro; refine ⟨fun W hW => ?_, ?_⟩; (focus (obtain ⟨x2, y2⟩ := keepB hW z2_4 r2_4 c2_4; obtain ⟨x3, y3⟩ := keepB hW z3_4 r3_4 c3_4; obtain ⟨x4, y4⟩ := keepB hW z4_4 r4_4 c4_4; obtain ⟨x5, y5⟩ := keepB hW z5_4 r5_4 c5_4; go_simp; first | done | rfl)); simp only [Act.put, List.setIfInBounds_toArray, List.set_cons_zero, List.set_cons_succ])
      refine wpQuiet_nil ?_
      intro W5 hw5
      obtain ⟨r2_5, c2_5, z2_5⟩ := keepZ hw5 z2_4 r2_4 c2_4
      obtain ⟨r3_5, c3_5, z3_5⟩ := keepZ hw5 z3_4 r3_4 c3_4
      obtain ⟨r4_5, c4_5, z4_5⟩ := keepZ hw5 z4_4 r4_4 c4_4
      obtain ⟨r5_5, c5_5, z5_5⟩ := keepZ hw5 z5_4 r5_4 c5_4
      obtain ⟨hb5, q5⟩ := bN hb4 hw5
      clear hw5 r2_4 c2_4 z2_4 r3_4 c3_4 z3_4 r4_4 c4_4 z4_4 r5_4 c5_4 z5_4 hb4
      go_wp2
      go_roundw
      case rel => exact ⟨j + 1, by omega, by go_num, bt, ⟨by simp [go_sem, r2_5, c2_5, r3_5, c3_5, r4_5, c4_5, r5_5, c5_5], (by rw [E2_4.out]; first | exact c2_5 | (simp [go_sem, r2_5, c2_5, r3_5, c3_5, r4_5, c4_5, r5_5, c5_5]; done))⟩, ⟨by simp [go_sem, r2_5, c2_5, r3_5, c3_5, r4_5, c4_5, r5_5, c5_5], (by rw [E3_4.out]; first | exact c3_5 | (simp [go_sem, r2_5, c2_5, r3_5, c3_5, r4_5, c4_5, r5_5, c5_5]; done))⟩, ⟨by simp [go_sem, r2_5, c2_5, r3_5, c3_5, r4_5, c4_5, r5_5, c5_5], (by rw [E4_4.out]; first | exact c4_5 | (simp [go_sem, r2_5, c2_5, r3_5, c3_5, r4_5, c4_5, r5_5, c5_5]; done))⟩, ⟨by simp [go_sem, r2_5, c2_5, r3_5, c3_5, r4_5, c4_5, r5_5, c5_5], (by first | (rw [blk_setRow _ _ _ _ r5_5, if_pos rfl]; exact copS_step p (coF f) v n i j (by omega) hn) | exact (c5_5).trans (copS_step p (coF f) v n i j (by omega) hn) | (simp [go_sem, r2_5, c2_5, r3_5, c3_5, r4_5, c4_5, r5_5, c5_5]; exact copS_step p (coF f) v n i j (by omega) hn))⟩⟩
      case measure => simp [intOf]; try omega
     ·
      obtain rfl : n = j := by omega
      go_wp2
      go_roundw
      case rel => exact ⟨i + 1, by omega, by go_num, bt, ⟨by simp [go_sem, r2_4, c2_4, r3_4, c3_4, r4_4, c4_4, r5_4, c5_4], (by rw [E2_2.out]; first | exact c2_4 | (simp [go_sem, r2_4, c2_4, r3_4, c3_4, r4_4, c4_4, r5_4, c5_4]; done))⟩, ⟨by simp [go_sem, r2_4, c2_4, r3_4, c3_4, r4_4, c4_4, r5_4, c5_4], (by rw [E3_2.out]; first | exact c3_4 | (simp [go_sem, r2_4, c2_4, r3_4, c3_4, r4_4, c4_4, r5_4, c5_4]; done))⟩, ⟨by simp [go_sem, r2_4, c2_4, r3_4, c3_4, r4_4, c4_4, r5_4, c5_4], (by rw [E4_2.out]; first | exact c4_4 | (simp [go_sem, r2_4, c2_4, r3_4, c3_4, r4_4, c4_4, r5_4, c5_4]; done))⟩, ⟨by simp [go_sem, r2_4, c2_4, r3_4, c3_4, r4_4, c4_4, r5_4, c5_4], (by first | exact (c5_4).trans (copS_row p (coF f) v n i) | (simp [go_sem, r2_4, c2_4, r3_4, c3_4, r4_4, c4_4, r5_4, c5_4]; exact copS_row p (coF f) v n i))⟩⟩
      case measure => simp [intOf]; try omega
  ·
   obtain rfl : n = i := by omega
   go_wp2_with fail
   refine bodyPost_ret (result_cell rfl aggLin _ _ (row 64 (copS p (coF f) v n n 0)) _ rfl ?_ ?_) rfl ⟨rfl, ?_⟩
   · simp [go_sem, r2_2, c2_2, r3_2, c3_2, r4_2, c4_2, r5_2, c5_2]
   · simp [go_sem, r2_2, c2_2, r3_2, c3_2, r4_2, c4_2, r5_2, c5_2]
   · exact bt

set_option maxRecDepth 100000 in
set_option maxHeartbeats 1000000 in
theorem l03Counit_any (p : Int) (n : Nat) (f v : Nat → Int) (w : World) (hp : 0 < p) (hp' : p ≤ 255) (hn : n ≤ 8) (hF : Bytes 1104 f) (hv : Bytes 8 v) :
    Calls Tryz.prog 152 #[.agg (hop p n f), .agg (row 8 v)] w fun e w' => e = .returned (.int .i64 (dotF n v (coF f) % p)) ∧ Below w.heap.size w w' := by
 have HF := Lib.hid hF; clear hF
 have Hv := Lib.hid hv; clear hv
 have HC : Hid (Bytes 8 (coF f)) := Lib.hid (unit_bytes (co_bytes HF.out))
 have hp0 : ¬ p = 0 := by omega
 go_enter Tryz.func152, Tryz.ntmps152
 go_wp2
 refine atomW fun W1 e1 => ?_
 have hb1 : Below w.heap.size w W1 := by rw [e1]; exact bt
 have q1 := hb1.size
 have R1 : IsRow W1 (w.heap.size) ∧ IsRow W1 (w.heap.size + 1) := by rw [e1]; simp [go_sem]
 obtain ⟨r2_1, r3_1⟩ := R1
 have C1 := (⟨congrArg (blk · (w.heap.size)) e1, congrArg (blk · (w.heap.size + 1)) e1⟩ : _ ∧ _); simp [go_sem] at C1
 obtain ⟨c2_1, c3_1⟩ := C1
 have z2_1 := isRow_lt r2_1; have z3_1 := isRow_lt r3_1
 clear e1
 go_loopw [5, 6] (fun s5 s6 wr => ∃ i : Nat, i ≤ n ∧ s5 = .int .i64 (dotF i v (coF f)) ∧ s6 = .int .i64 i ∧ Below w.heap.size w wr ∧ (IsRow wr (w.heap.size) ∧ blk wr (w.heap.size) = blk W1 (w.heap.size)) ∧ (IsRow wr (w.heap.size + 1) ∧ blk wr (w.heap.size + 1) = blk W1 (w.heap.size + 1))) (fun _ s6 _ => n - (intOf s6).toNat)
 case atStart => exact ⟨0, by omega, (by first | rfl | (simp; done) | go_num), rfl, hb1, ⟨r2_1, rfl⟩, ⟨r3_1, rfl⟩⟩
 case round =>
  obtain ⟨i, hle2, rfl, rfl, hb2, ⟨r2_2, c2_2⟩, ⟨r3_2, c3_2⟩⟩ := hrel
  obtain ⟨W2, rfl⟩ : ∃ W2 : World, W2 = wr := ⟨_, rfl⟩
  have q2 := hb2.size
  have E2_2 := Lib.hid c2_1; replace c2_2 := c2_2.trans c2_1
  have z2_2 := isRow_lt r2_2
  have E3_2 := Lib.hid c3_1; replace c3_2 := c3_2.trans c3_1
  have z3_2 := isRow_lt r3_2
  clear r2_1 c2_1 z2_1 r3_1 c3_1 z3_1 hb1
  have d1 := (dot_range 8 Hv.out HC.out i (by omega)).1; have d2 := (dot_range 8 Hv.out HC.out i (by omega)).2
  by_cases hlt2 : i < n
  ·
   have i0_2 : (0 : Int) ≤ (i : Int) := by omega
   have i8_2 : (i : Int) < 8 := by omega
   have k8_2 : i < 8 := by omega
   have m8_2 : i * 8 + 8 ≤ 64 := by omega
   have m64_2 : i * 64 + 64 ≤ 512 := by omega
   have l1_2 : 10 + i * 64 + 64 ≤ 522 := by omega
   have b1 := (Hv.out i (by omega)).1; have b2 := (Hv.out i (by omega)).2; have b3 := (HC.out i (by omega)).1; have b4 := (HC.out i (by omega)).2; have b5 := (prod_le (v i) (coF f i) 255 255 b1 b3 b2 b4).1; have b6 := (prod_le (v i) (coF f i) 255 255 b1 b3 b2 b4).2
   have q1 : IntKind.i64.wrap (v i * coF f i) = v i * coF f i := IntWalk.i64_in _ (by omega)
   have q2 : IntKind.i64.wrap (dotF i v (coF f) + v i * coF f i) = dotF i v (coF f) + v i * coF f i := IntWalk.i64_in _ (by omega)
   have q3 : IntKind.i64.wrap (v i) = v i := IntWalk.i64_in _ (by omega)
   have q4 : IntKind.i64.wrap (coF f i) = coF f i := IntWalk.i64_in _ (by omega)
   have e9 := hop_cq p n f i (by omega)
   go_wp2
   refine wp_quiet_all (Below W2.heap.size W2) (by kernel_rfl) (by kernel_rfl) (Below.refl _ _).drew ?_
   iterate 13 (refine q_plain rfl ?_; apply Exists.intro; refine ⟨fun W hW => ?_, ?_⟩; (focus (obtain ⟨x2, y2⟩ := keepB hW z2_2 r2_2 c2_2; obtain ⟨x3, y3⟩ := keepB hW z3_2 r3_2 c3_2; go_simp; first | done | rfl)); simp only [Act.put, List.setIfInBounds_toArray, List.set_cons_zero, List.set_cons_succ])
   refine wpQuiet_nil ?_
   intro W3 hw3
   obtain ⟨r2_3, c2_3, z2_3⟩ := keepZ hw3 z2_2 r2_2 c2_2
   obtain ⟨r3_3, c3_3, z3_3⟩ := keepZ hw3 z3_2 r3_2 c3_2
   obtain ⟨hb3, q3⟩ := bN hb2 hw3
   clear hw3 r2_2 c2_2 z2_2 r3_2 c3_2 z3_2 hb2
   go_wp2
   go_roundw
   case rel => exact ⟨i + 1, by omega, (by first | rfl | go_num | (simp; done)), by go_num, bt, ⟨by simp [go_sem, r2_3, c2_3, r3_3, c3_3], (by rw [E2_2.out]; first | exact c2_3 | (simp [go_sem, r2_3, c2_3, r3_3, c3_3]; done))⟩, ⟨by simp [go_sem, r2_3, c2_3, r3_3, c3_3], (by rw [E3_2.out]; first | exact c3_3 | (simp [go_sem, r2_3, c2_3, r3_3, c3_3]; done))⟩⟩
   case measure => simp [intOf]; try omega
  ·
   obtain rfl : n = i := by omega
   have t1 : (dotF n v (coF f)).tmod p = dotF n v (coF f) % p := Int.tmod_eq_emod_of_nonneg d1
   go_wp2_with fail
   go_ret
   exact ⟨rfl, bt⟩
end
section
open Go.RowKit
set_option linter.unusedSimpArgs false
set_option linter.unusedVariables false
attribute [local irreducible] wpQuiet wpQE

/-! ### products of pairs by the reference model -/
def ppS (p : Int) (n : Nat) (f m q : Nat → Int) (i j : Nat) : Nat → Int := fun t => if t / 8 < n then ppK p n f m q i j t else 0
/-- x rows have the pair i, j too -/
def sxK (p : Int) (n : Nat) (f m q : Nat → Int) (i j x : Nat) : Nat → Int := fun t => if t / 8 < x then ppS p n f m q i (j + 1) t else ppS p n f m q i j t
theorem ppS_zero (p : Int) (n : Nat) (f m q : Nat → Int) : row 64 zf = row 64 (ppS p n f m q 0 0) := row_congr fun t _ => by unfold ppS ppK zf; rw [dsum_zero]; simp
theorem ppS_row (p : Int) (n : Nat) (f m q : Nat → Int) (i : Nat) : row 64 (ppS p n f m q i n) = row 64 (ppS p n f m q (i + 1) 0) := row_congr fun t _ => by unfold ppS ppK; rw [dsum_row]
theorem pp_none (p : Int) (n : Nat) (f m q : Nat → Int) (i j t : Nat) (h : ppT p n f m q (t / 8) (t % 8) i j = 0) : ppK p n f m q i (j + 1) t = ppK p n f m q i j t := by unfold ppK; rw [dsum_step, h, Int.add_zero]
theorem ppS_skip (p : Int) (n : Nat) (f m q : Nat → Int) (i j : Nat) (h : segEq 0 8 (mulF p n (mtab f) (fun t => m (i * 8 + t)) (fun t => q (j * 8 + t))) zf = true) : row 64 (ppS p n f m q i j) = row 64 (ppS p n f m q i (j + 1)) := row_congr fun t _ => by
  unfold ppS
  split
  · rw [pp_none]
    unfold ppT
    have := (segEq_iff 0 8 _ _).1 h (t % 8) (by omega)
    rw [Nat.zero_add] at this
    rw [this]; unfold zf; rw [Int.mul_zero]
  · rfl
theorem sx_zero (p : Int) (n : Nat) (f m q : Nat → Int) (i j : Nat) : row 64 (ppS p n f m q i j) = row 64 (sxK p n f m q i j 0) := row_congr fun t _ => by unfold sxK; rw [if_neg (by omega)]
theorem sx_end (p : Int) (n : Nat) (f m q : Nat → Int) (i j : Nat) : row 64 (sxK p n f m q i j n) = row 64 (ppS p n f m q i (j + 1)) := row_congr fun t _ => by
  unfold sxK
  split
  · rfl
  · rename_i h
    unfold ppS; rw [if_neg h, if_neg h]
theorem sx_skip (p : Int) (n : Nat) (f m q : Nat → Int) (i j x : Nat) (h : mtab f i j x = 0) : row 64 (sxK p n f m q i j x) = row 64 (sxK p n f m q i j (x + 1)) := row_congr fun t _ => by
  unfold sxK
  by_cases h1 : t / 8 < x
  · rw [if_pos h1, if_pos (by omega)]
  · rw [if_neg h1]
    by_cases h2 : t / 8 = x
    · rw [if_pos (by omega)]
      unfold ppS
      rw [pp_none]
      unfold ppT
      rw [h2, h, Int.zero_mul]
    · rw [if_neg (by omega)]
theorem sx_step (p : Int) (n : Nat) (f m q : Nat → Int) (i j x : Nat) (hx : x < n) (hn : n ≤ 8) :
    lay (row 64 (sxK p n f m q i j x)) (x * 8) (row 8 (addm p 0 8 (mtab f i j x) (fun t => sxK p n f m q i j x (x * 8 + t)) (mulF p n (mtab f) (fun t => m (i * 8 + t)) (fun t => q (j * 8 + t))))) = row 64 (sxK p n f m q i j (x + 1)) := by
  rw [lay_row _ _ _ _ _ (by omega)]
  refine row_congr fun t ht => ?_
  by_cases h : x * 8 ≤ t ∧ t < x * 8 + 8
  · rw [if_pos h]
    unfold addm
    rw [if_pos (by omega)]
    dsimp only
    rw [Nat.sub_zero, show x * 8 + (t - x * 8) = t by omega, show t - x * 8 = t % 8 by omega]
    unfold sxK ppS
    rw [if_neg (show ¬ t / 8 < x by omega), if_pos (show t / 8 < x + 1 by omega), if_pos (show t / 8 < n by omega), if_pos (show t / 8 < n by omega)]
    unfold ppK
    rw [Int.emod_add_emod, dsum_step]
    unfold ppT
    rw [show t / 8 = x by omega]
  · rw [if_neg h]
    unfold sxK
    by_cases h2 : t / 8 < x
    · rw [if_pos h2, if_pos (by omega)]
    · rw [if_neg h2, if_neg (by omega)]
theorem ppS_bytes {p : Int} (hp : 0 < p) (hp' : p ≤ 255) (n : Nat) (f m q : Nat → Int) (i j t : Nat) : 0 ≤ ppS p n f m q i j t ∧ ppS p n f m q i j t ≤ 255 := by
  unfold ppS
  split
  · have := pp_range hp n f m q i j t; omega
  · omega
theorem sx_bytes {p : Int} (hp : 0 < p) (hp' : p ≤ 255) (n : Nat) (f m q : Nat → Int) (i j x : Nat) : Bytes 8 fun t => sxK p n f m q i j x (x * 8 + t) := fun t _ => by
  show 0 ≤ sxK p n f m q i j x (x * 8 + t) ∧ sxK p n f m q i j x (x * 8 + t) ≤ 255
  unfold sxK
  split
  · exact ppS_bytes hp hp' n f m q i (j + 1) _
  · exact ppS_bytes hp hp' n f m q i j _

set_option maxRecDepth 100000 in
set_option maxHeartbeats 4000000 in
theorem l03Pairs_any (p : Int) (n : Nat) (f m q : Nat → Int) (w : World) (hp : 0 < p) (hp' : p ≤ 255) (hn : n ≤ 8) (hF : Bytes 1104 f) (hm : Bytes 64 m) (hq : Bytes 64 q) :
    Calls Tryz.prog 151 #[.agg (hop p n f), .agg (row 64 m), .agg (row 64 q)] w fun e w' => e = .returned (.agg (row 64 (ppS p n f m q n 0))) ∧ Below w.heap.size w w' := by
 have HF := Lib.hid hF; clear hF
 have Hm := Lib.hid hm; clear hm
 have Hq := Lib.hid hq; clear hq
 go_enter Tryz.func151, Tryz.ntmps151
 go_wp2
 refine atomW fun W1 e1 => ?_
 have hb1 : Below w.heap.size w W1 := by rw [e1]; exact bt
 have q1 := hb1.size
 have R1 : IsRow W1 (w.heap.size) ∧ IsRow W1 (w.heap.size + 1) ∧ IsRow W1 (w.heap.size + 2) ∧ IsRow W1 (w.heap.size + 3) := by rw [e1]; simp [go_sem]
 obtain ⟨r3_1, r4_1, r5_1, r6_1⟩ := R1
 have C1 := (⟨congrArg (blk · (w.heap.size)) e1, congrArg (blk · (w.heap.size + 1)) e1, congrArg (blk · (w.heap.size + 2)) e1, congrArg (blk · (w.heap.size + 3)) e1⟩ : _ ∧ _ ∧ _ ∧ _); simp [go_sem] at C1
 obtain ⟨c3_1, c4_1, c5_1, c6_1⟩ := C1
 have z3_1 := isRow_lt r3_1; have z4_1 := isRow_lt r4_1; have z5_1 := isRow_lt r5_1; have z6_1 := isRow_lt r6_1
 clear e1
 refine wp_quiet_made1 5 8 _ (row 64 zf) 34 (by kernel_rfl) rfl rfl (by omega) (by kernel_rfl) (fun a W => (xallocLin _ _ _ _ _ _ _).trans (allocLin W)) ?_
 simp only [List.take_succ_cons, List.take_zero, List.drop_succ_cons, List.drop_zero, List.eraseIdx_cons_succ, List.eraseIdx_cons_zero]
 iterate 7 (refine e_plain rfl ?_; apply Exists.intro; refine ⟨fun D hD hK W hW => ?_, ?_⟩; (focus (obtain ⟨x3, y3⟩ := keepB (hD W hW) z3_1 r3_1 c3_1; obtain ⟨x4, y4⟩ := keepB (hD W hW) z4_1 r4_1 c4_1; obtain ⟨x5, y5⟩ := keepB (hD W hW) z5_1 r5_1 c5_1; obtain ⟨x6, y6⟩ := keepB (hD W hW) z6_1 r6_1 c6_1; unfold Oper.quietAt; go_simp; first | done | rfl)); simp only [Act.put, List.setIfInBounds_toArray, List.set_cons_zero, List.set_cons_succ])
 refine e_nil ?_
 intro a2 W2 hW2
 obtain ⟨hw2, hl2, m1_2, m2_2⟩ := hW2
 have n3_9 : (w.heap.size) ≠ (a2) := by have := z3_1; omega
 have n9_3 : (a2) ≠ (w.heap.size) := by have := z3_1; omega
 have n4_9 : (w.heap.size + 1) ≠ (a2) := by have := z4_1; omega
 have n9_4 : (a2) ≠ (w.heap.size + 1) := by have := z4_1; omega
 have n5_9 : (w.heap.size + 2) ≠ (a2) := by have := z5_1; omega
 have n9_5 : (a2) ≠ (w.heap.size + 2) := by have := z5_1; omega
 have n6_9 : (w.heap.size + 3) ≠ (a2) := by have := z6_1; omega
 have n9_6 : (a2) ≠ (w.heap.size + 3) := by have := z6_1; omega
 obtain ⟨r3_2, c3_2, z3_2⟩ := keepZ hw2 z3_1 r3_1 c3_1
 obtain ⟨r4_2, c4_2, z4_2⟩ := keepZ hw2 z4_1 r4_1 c4_1
 obtain ⟨r5_2, c5_2, z5_2⟩ := keepZ hw2 z5_1 r5_1 c5_1
 obtain ⟨r6_2, c6_2, z6_2⟩ := keepZ hw2 z6_1 r6_1 c6_1
 obtain ⟨hb2, q2⟩ := bN hb1 hw2
 clear hw2 r3_1 c3_1 z3_1 r4_1 c4_1 z4_1 r5_1 c5_1 z5_1 r6_1 c6_1 z6_1 hb1
 have z9_2 := isRow_lt m1_2
 simp only [Act.put, List.setIfInBounds_toArray, List.set_cons_zero, List.set_cons_succ]
 go_wp2
 refine atomW fun W3 e3 => ?_
 have hb3 : Below w.heap.size w W3 := by rw [e3]; exact bt
 have q3 := hb3.size
 have R3 : IsRow W3 (w.heap.size) ∧ IsRow W3 (w.heap.size + 1) ∧ IsRow W3 (w.heap.size + 2) ∧ IsRow W3 (w.heap.size + 3) ∧ IsRow W3 (a2) := by rw [e3]; simp [go_sem, r3_2, c3_2, n3_9, r4_2, c4_2, n4_9, r5_2, c5_2, n5_9, r6_2, c6_2, n6_9, m1_2, m2_2, n9_3, n9_4, n9_5, n9_6]
 obtain ⟨r3_3, r4_3, r5_3, r6_3, r9_3⟩ := R3
 have C3 := (⟨congrArg (blk · (w.heap.size)) e3, congrArg (blk · (w.heap.size + 1)) e3, congrArg (blk · (w.heap.size + 2)) e3, congrArg (blk · (w.heap.size + 3)) e3, congrArg (blk · (a2)) e3⟩ : _ ∧ _ ∧ _ ∧ _ ∧ _); simp [go_sem, r3_2, c3_2, n3_9, r4_2, c4_2, n4_9, r5_2, c5_2, n5_9, r6_2, c6_2, n6_9, m1_2, m2_2, n9_3, n9_4, n9_5, n9_6] at C3
 obtain ⟨c3_3, c4_3, c5_3, c6_3, c9_3⟩ := C3
 have z3_3 := isRow_lt r3_3; have z4_3 := isRow_lt r4_3; have z5_3 := isRow_lt r5_3; have z6_3 := isRow_lt r6_3; have z9_3 := isRow_lt r9_3
 clear e3 r3_2 c3_2 z3_2 r4_2 c4_2 z4_2 r5_2 c5_2 z5_2 r6_2 c6_2 z6_2 m1_2 m2_2 z9_2 hb2
 go_loopw [10] (fun s10 wr => ∃ i : Nat, i ≤ n ∧ s10 = .int .i64 i ∧ Below w.heap.size w wr ∧ (IsRow wr (w.heap.size) ∧ blk wr (w.heap.size) = blk W3 (w.heap.size)) ∧ (IsRow wr (w.heap.size + 1) ∧ blk wr (w.heap.size + 1) = blk W3 (w.heap.size + 1)) ∧ (IsRow wr (w.heap.size + 2) ∧ blk wr (w.heap.size + 2) = blk W3 (w.heap.size + 2)) ∧ (IsRow wr (w.heap.size + 3) ∧ blk wr (w.heap.size + 3) = blk W3 (w.heap.size + 3)) ∧ (IsRow wr (a2) ∧ blk wr (a2) = row 64 (ppS p n f m q i 0))) (fun s10 _ => n - (intOf s10).toNat)
 case atStart => exact ⟨0, by omega, rfl, hb3, ⟨r3_3, rfl⟩, ⟨r4_3, rfl⟩, ⟨r5_3, rfl⟩, ⟨r6_3, rfl⟩, ⟨r9_3, c9_3.trans (ppS_zero p n f m q)⟩⟩
 case round =>
  obtain ⟨i, hle4, rfl, hb4, ⟨r3_4, c3_4⟩, ⟨r4_4, c4_4⟩, ⟨r5_4, c5_4⟩, ⟨r6_4, c6_4⟩, ⟨r9_4, c9_4⟩⟩ := hrel
  obtain ⟨W4, rfl⟩ : ∃ W4 : World, W4 = wr := ⟨_, rfl⟩
  have q4 := hb4.size
  have E3_4 := Lib.hid c3_3; replace c3_4 := c3_4.trans c3_3
  have z3_4 := isRow_lt r3_4
  have E4_4 := Lib.hid c4_3; replace c4_4 := c4_4.trans c4_3
  have z4_4 := isRow_lt r4_4
  have E5_4 := Lib.hid c5_3; replace c5_4 := c5_4.trans c5_3
  have z5_4 := isRow_lt r5_4
  have E6_4 := Lib.hid c6_3; replace c6_4 := c6_4.trans c6_3
  have z6_4 := isRow_lt r6_4
  have z9_4 := isRow_lt r9_4
  clear r3_3 c3_3 z3_3 r4_3 c4_3 z4_3 r5_3 c5_3 z5_3 r6_3 c6_3 z6_3 r9_3 c9_3 z9_3 hb3
  by_cases hlt4 : i < n
  ·
   have i0_4 : (0 : Int) ≤ (i : Int) := by omega
   have i8_4 : (i : Int) < 8 := by omega
   have k8_4 : i < 8 := by omega
   have m8_4 : i * 8 + 8 ≤ 64 := by omega
   have m64_4 : i * 64 + 64 ≤ 512 := by omega
   have l1_4 : 10 + i * 64 + 64 ≤ 522 := by omega
   go_wp2
   go_loopw [11] (fun s11 wr => ∃ j : Nat, j ≤ n ∧ s11 = .int .i64 j ∧ Below w.heap.size w wr ∧ (IsRow wr (w.heap.size) ∧ blk wr (w.heap.size) = blk W4 (w.heap.size)) ∧ (IsRow wr (w.heap.size + 1) ∧ blk wr (w.heap.size + 1) = blk W4 (w.heap.size + 1)) ∧ (IsRow wr (w.heap.size + 2) ∧ blk wr (w.heap.size + 2) = blk W4 (w.heap.size + 2)) ∧ (IsRow wr (w.heap.size + 3) ∧ blk wr (w.heap.size + 3) = blk W4 (w.heap.size + 3)) ∧ (IsRow wr (a2) ∧ blk wr (a2) = row 64 (ppS p n f m q i j))) (fun s11 _ => n - (intOf s11).toNat)
   case atStart => exact ⟨0, by omega, rfl, hb4, ⟨r3_4, rfl⟩, ⟨r4_4, rfl⟩, ⟨r5_4, rfl⟩, ⟨r6_4, rfl⟩, ⟨r9_4, c9_4⟩⟩
   case round =>
    obtain ⟨j, hle5, rfl, hb5, ⟨r3_5, c3_5⟩, ⟨r4_5, c4_5⟩, ⟨r5_5, c5_5⟩, ⟨r6_5, c6_5⟩, ⟨r9_5, c9_5⟩⟩ := hrel
    obtain ⟨W5, rfl⟩ : ∃ W5 : World, W5 = wr := ⟨_, rfl⟩
    have q5 := hb5.size
    have E3_5 := Lib.hid c3_4; replace c3_5 := c3_5.trans c3_4
    have z3_5 := isRow_lt r3_5
    have E4_5 := Lib.hid c4_4; replace c4_5 := c4_5.trans c4_4
    have z4_5 := isRow_lt r4_5
    have E5_5 := Lib.hid c5_4; replace c5_5 := c5_5.trans c5_4
    have z5_5 := isRow_lt r5_5
    have E6_5 := Lib.hid c6_4; replace c6_5 := c6_5.trans c6_4
    have z6_5 := isRow_lt r6_5
    have z9_5 := isRow_lt r9_5
    clear r3_4 c3_4 z3_4 r4_4 c4_4 z4_4 r5_4 c5_4 z5_4 r6_4 c6_4 z6_4 r9_4 c9_4 z9_4 hb4
    by_cases hlt5 : j < n
    ·
     have i0_5 : (0 : Int) ≤ (j : Int) := by omega
     have i8_5 : (j : Int) < 8 := by omega
     have k8_5 : j < 8 := by omega
     have m8_5 : j * 8 + 8 ≤ 64 := by omega
     have m64_5 : j * 64 + 64 ≤ 512 := by omega
     have l1_5 : 10 + j * 64 + 64 ≤ 522 := by omega
     have l2_5i : 10 + i * 64 + j * 8 + 8 ≤ 522 := by omega
     have l3_5i : 10 + j * 64 + i * 8 + 8 ≤ 522 := by omega
     have l4_5i : i * 64 + j * 8 + 8 ≤ 512 := by omega
     have l5_5i : j * 64 + i * 8 + 8 ≤ 512 := by omega
     have l6_5i : i * 8 + j < 64 := by omega
     have l7_5i : j * 8 + i < 64 := by omega
     cases hz : segEq 0 8 (mulF p n (mtab f) (fun t => m (i * 8 + t)) (fun t => q (j * 8 + t))) zf
     ·
      have HV : Hid (Bytes 8 fun t => m (i * 8 + t)) := Lib.hid (part_bytes Hm.out i (by omega))
      have HQ : Hid (Bytes 8 fun t => q (j * 8 + t)) := Lib.hid (part_bytes Hq.out j (by omega))
      have HW : Hid (Bytes 8 (mulF p n (mtab f) (fun t => m (i * 8 + t)) (fun t => q (j * 8 + t)))) := Lib.hid (mulF_bytes hp hp' n (mtab f) _ _)
      go_wp2
      refine wp_quiet_alloc 9 _ (.cells (row 8 zf) 32) (Below W5.heap.size W5) (Made W5 (row 8 zf)) (by kernel_rfl) rfl rfl (by kernel_rfl) (fun a W => (xallocVec _ _ _ _ _ _ _).trans (allocVec W)) (closed_below W5) (closed_made W5 _) (fun b W h => h.1) (fun W h => made_new W5 _ _ W h) (Below.refl _ _).drew ?_
      simp only [List.take_succ_cons, List.take_zero, List.drop_succ_cons, List.drop_zero]
      iterate 1 (refine e_plain rfl ?_; apply Exists.intro; refine ⟨fun D hD hK W hW => ?_, ?_⟩; (focus (obtain ⟨x3, y3⟩ := keepB (hD W hW) z3_5 r3_5 c3_5; obtain ⟨x4, y4⟩ := keepB (hD W hW) z4_5 r4_5 c4_5; obtain ⟨x5, y5⟩ := keepB (hD W hW) z5_5 r5_5 c5_5; obtain ⟨x6, y6⟩ := keepB (hD W hW) z6_5 r6_5 c6_5; obtain ⟨x9, y9⟩ := keepB (hD W hW) z9_5 r9_5 c9_5; unfold Oper.quietAt; go_simp; first | done | rfl)); simp only [Act.put, List.setIfInBounds_toArray, List.set_cons_zero, List.set_cons_succ])
      (refine e_plain rfl ?_; apply Exists.intro; refine ⟨fun D hD hK W hW => ?_, ?_⟩; (focus (obtain ⟨x3, y3⟩ := keepB (hD W hW) z3_5 r3_5 c3_5; obtain ⟨x4, y4⟩ := keepB (hD W hW) z4_5 r4_5 c4_5; obtain ⟨x5, y5⟩ := keepB (hD W hW) z5_5 r5_5 c5_5; obtain ⟨x6, y6⟩ := keepB (hD W hW) z6_5 r6_5 c6_5; obtain ⟨x9, y9⟩ := keepB (hD W hW) z9_5 r9_5 c9_5; unfold Oper.quietAt; go_simp; (go_at_call 86; exact (l03Algebra_any _ _ _ _).mono fun e w2 ⟨he, hw2⟩ => ⟨he, hK _ _ hW hw2⟩))); simp only [Act.put, List.setIfInBounds_toArray, List.set_cons_zero, List.set_cons_succ])
      iterate 6 (refine e_plain rfl ?_; apply Exists.intro; refine ⟨fun D hD hK W hW => ?_, ?_⟩; (focus (obtain ⟨x3, y3⟩ := keepB (hD W hW) z3_5 r3_5 c3_5; obtain ⟨x4, y4⟩ := keepB (hD W hW) z4_5 r4_5 c4_5; obtain ⟨x5, y5⟩ := keepB (hD W hW) z5_5 r5_5 c5_5; obtain ⟨x6, y6⟩ := keepB (hD W hW) z6_5 r6_5 c6_5; obtain ⟨x9, y9⟩ := keepB (hD W hW) z9_5 r9_5 c9_5; unfold Oper.quietAt; go_simp; first | done | rfl)); simp only [Act.put, List.setIfInBounds_toArray, List.set_cons_zero, List.set_cons_succ])
      (refine e_plain rfl ?_; apply Exists.intro; refine ⟨fun D hD hK W hW => ?_, ?_⟩; (focus (obtain ⟨x3, y3⟩ := keepB (hD W hW) z3_5 r3_5 c3_5; obtain ⟨x4, y4⟩ := keepB (hD W hW) z4_5 r4_5 c4_5; obtain ⟨x5, y5⟩ := keepB (hD W hW) z5_5 r5_5 c5_5; obtain ⟨x6, y6⟩ := keepB (hD W hW) z6_5 r6_5 c6_5; obtain ⟨x9, y9⟩ := keepB (hD W hW) z9_5 r9_5 c9_5; unfold Oper.quietAt; go_simp; (go_at_call 85; exact (l01Times_any p n f _ _ _ hp hp' hn (hop_bytes HF.out) HV.out HQ.out).mono fun e w2 ⟨he, hw2⟩ => ⟨he, hK _ _ hW hw2⟩))); simp only [Act.put, List.setIfInBounds_toArray, List.set_cons_zero, List.set_cons_succ])
      refine e_nil ?_
      intro a6 W6 hW6
      obtain ⟨hw6, hl6, m1_6, m2_6⟩ := hW6
      have n3_12 : (w.heap.size) ≠ (a6) := by have := z3_5; omega
      have n12_3 : (a6) ≠ (w.heap.size) := by have := z3_5; omega
      have n4_12 : (w.heap.size + 1) ≠ (a6) := by have := z4_5; omega
      have n12_4 : (a6) ≠ (w.heap.size + 1) := by have := z4_5; omega
      have n5_12 : (w.heap.size + 2) ≠ (a6) := by have := z5_5; omega
      have n12_5 : (a6) ≠ (w.heap.size + 2) := by have := z5_5; omega
      have n6_12 : (w.heap.size + 3) ≠ (a6) := by have := z6_5; omega
      have n12_6 : (a6) ≠ (w.heap.size + 3) := by have := z6_5; omega
      have n9_12 : (a2) ≠ (a6) := by have := z9_5; omega
      have n12_9 : (a6) ≠ (a2) := by have := z9_5; omega
      obtain ⟨r3_6, c3_6, z3_6⟩ := keepZ hw6 z3_5 r3_5 c3_5
      obtain ⟨r4_6, c4_6, z4_6⟩ := keepZ hw6 z4_5 r4_5 c4_5
      obtain ⟨r5_6, c5_6, z5_6⟩ := keepZ hw6 z5_5 r5_5 c5_5
      obtain ⟨r6_6, c6_6, z6_6⟩ := keepZ hw6 z6_5 r6_5 c6_5
      obtain ⟨r9_6, c9_6, z9_6⟩ := keepZ hw6 z9_5 r9_5 c9_5
      obtain ⟨hb6, q6⟩ := bN hb5 hw6
      clear hw6 r3_5 c3_5 z3_5 r4_5 c4_5 z4_5 r5_5 c5_5 z5_5 r6_5 c6_5 z6_5 r9_5 c9_5 z9_5 hb5
      have z12_6 := isRow_lt m1_6
      simp only [Act.put, List.setIfInBounds_toArray, List.set_cons_zero, List.set_cons_succ]
      go_wp2_with fail
      refine atomC fun W7 e7 => ?_
      have hb7 : Below w.heap.size w W7 := by rw [e7]; exact bt
      have q7 := hb7.size
      have R7 : IsRow W7 (w.heap.size) ∧ IsRow W7 (w.heap.size + 1) ∧ IsRow W7 (w.heap.size + 2) ∧ IsRow W7 (w.heap.size + 3) ∧ IsRow W7 (a2) ∧ IsRow W7 (a6) := by rw [e7]; simp [go_sem, r3_6, c3_6, n3_9, n3_12, r4_6, c4_6, n4_9, n4_12, r5_6, c5_6, n5_9, n5_12, r6_6, c6_6, n6_9, n6_12, r9_6, c9_6, n9_3, n9_4, n9_5, n9_6, n9_12, m1_6, m2_6, n12_3, n12_4, n12_5, n12_6, n12_9]
      obtain ⟨r3_7, r4_7, r5_7, r6_7, r9_7, r12_7⟩ := R7
      have C7 := (⟨congrArg (blk · (w.heap.size)) e7, congrArg (blk · (w.heap.size + 1)) e7, congrArg (blk · (w.heap.size + 2)) e7, congrArg (blk · (w.heap.size + 3)) e7, congrArg (blk · (a2)) e7, congrArg (blk · (a6)) e7⟩ : _ ∧ _ ∧ _ ∧ _ ∧ _ ∧ _); simp [go_sem, r3_6, c3_6, n3_9, n3_12, r4_6, c4_6, n4_9, n4_12, r5_6, c5_6, n5_9, n5_12, r6_6, c6_6, n6_9, n6_12, r9_6, c9_6, n9_3, n9_4, n9_5, n9_6, n9_12, m1_6, m2_6, n12_3, n12_4, n12_5, n12_6, n12_9] at C7
      obtain ⟨c3_7, c4_7, c5_7, c6_7, c9_7, c12_7⟩ := C7
      have z3_7 := isRow_lt r3_7; have z4_7 := isRow_lt r4_7; have z5_7 := isRow_lt r5_7; have z6_7 := isRow_lt r6_7; have z9_7 := isRow_lt r9_7; have z12_7 := isRow_lt r12_7
      clear e7 r3_6 c3_6 z3_6 r4_6 c4_6 z4_6 r5_6 c5_6 z5_6 r6_6 c6_6 z6_6 r9_6 c9_6 z9_6 m1_6 m2_6 z12_6 hb6
      refine (l01Zero_any _ _).mono ?_; rintro _ W8 ⟨rfl, hw8⟩
      obtain ⟨r3_8, c3_8, z3_8⟩ := keepZ hw8 z3_7 r3_7 c3_7
      obtain ⟨r4_8, c4_8, z4_8⟩ := keepZ hw8 z4_7 r4_7 c4_7
      obtain ⟨r5_8, c5_8, z5_8⟩ := keepZ hw8 z5_7 r5_7 c5_7
      obtain ⟨r6_8, c6_8, z6_8⟩ := keepZ hw8 z6_7 r6_7 c6_7
      obtain ⟨r9_8, c9_8, z9_8⟩ := keepZ hw8 z9_7 r9_7 c9_7
      obtain ⟨r12_8, c12_8, z12_8⟩ := keepZ hw8 z12_7 r12_7 c12_7
      obtain ⟨hb8, q8⟩ := bN hb7 hw8
      clear hw8 r3_7 c3_7 z3_7 r4_7 c4_7 z4_7 r5_7 c5_7 z5_7 r6_7 c6_7 z6_7 r9_7 c9_7 z9_7 r12_7 c12_7 z12_7 hb7
      go_wp2
      go_loopw [13] (fun s13 wr => ∃ x : Nat, x ≤ n ∧ s13 = .int .i64 x ∧ Below w.heap.size w wr ∧ (IsRow wr (w.heap.size) ∧ blk wr (w.heap.size) = blk W8 (w.heap.size)) ∧ (IsRow wr (w.heap.size + 1) ∧ blk wr (w.heap.size + 1) = blk W8 (w.heap.size + 1)) ∧ (IsRow wr (w.heap.size + 2) ∧ blk wr (w.heap.size + 2) = blk W8 (w.heap.size + 2)) ∧ (IsRow wr (w.heap.size + 3) ∧ blk wr (w.heap.size + 3) = blk W8 (w.heap.size + 3)) ∧ (IsRow wr (a2) ∧ blk wr (a2) = row 64 (sxK p n f m q i j x)) ∧ (IsRow wr (a6) ∧ blk wr (a6) = blk W8 (a6))) (fun s13 _ => n - (intOf s13).toNat)
      case atStart => exact ⟨0, by omega, rfl, hb8, ⟨r3_8, rfl⟩, ⟨r4_8, rfl⟩, ⟨r5_8, rfl⟩, ⟨r6_8, rfl⟩, ⟨r9_8, c9_8.trans (sx_zero p n f m q i j)⟩, ⟨r12_8, rfl⟩⟩
      case round =>
       obtain ⟨x, hle9, rfl, hb9, ⟨r3_9, c3_9⟩, ⟨r4_9, c4_9⟩, ⟨r5_9, c5_9⟩, ⟨r6_9, c6_9⟩, ⟨r9_9, c9_9⟩, ⟨r12_9, c12_9⟩⟩ := hrel
       obtain ⟨W9, rfl⟩ : ∃ W9 : World, W9 = wr := ⟨_, rfl⟩
       have q9 := hb9.size
       have E3_9 := Lib.hid c3_8; replace c3_9 := c3_9.trans c3_8
       have z3_9 := isRow_lt r3_9
       have E4_9 := Lib.hid c4_8; replace c4_9 := c4_9.trans c4_8
       have z4_9 := isRow_lt r4_9
       have E5_9 := Lib.hid c5_8; replace c5_9 := c5_9.trans c5_8
       have z5_9 := isRow_lt r5_9
       have E6_9 := Lib.hid c6_8; replace c6_9 := c6_9.trans c6_8
       have z6_9 := isRow_lt r6_9
       have z9_9 := isRow_lt r9_9
       have E12_9 := Lib.hid c12_8; replace c12_9 := c12_9.trans c12_8
       have z12_9 := isRow_lt r12_9
       clear r3_8 c3_8 z3_8 r4_8 c4_8 z4_8 r5_8 c5_8 z5_8 r6_8 c6_8 z6_8 r9_8 c9_8 z9_8 r12_8 c12_8 z12_8 hb8
       by_cases hlt9 : x < n
       ·
        have i0_9 : (0 : Int) ≤ (x : Int) := by omega
        have i8_9 : (x : Int) < 8 := by omega
        have k8_9 : x < 8 := by omega
        have m8_9 : x * 8 + 8 ≤ 64 := by omega
        have m64_9 : x * 64 + 64 ≤ 512 := by omega
        have l1_9 : 10 + x * 64 + 64 ≤ 522 := by omega
        have l2_9i : 10 + i * 64 + x * 8 + 8 ≤ 522 := by omega
        have l3_9i : 10 + x * 64 + i * 8 + 8 ≤ 522 := by omega
        have l4_9i : i * 64 + x * 8 + 8 ≤ 512 := by omega
        have l5_9i : x * 64 + i * 8 + 8 ≤ 512 := by omega
        have l6_9i : i * 8 + x < 64 := by omega
        have l7_9i : x * 8 + i < 64 := by omega
        have l2_9j : 10 + j * 64 + x * 8 + 8 ≤ 522 := by omega
        have l3_9j : 10 + x * 64 + j * 8 + 8 ≤ 522 := by omega
        have l4_9j : j * 64 + x * 8 + 8 ≤ 512 := by omega
        have l5_9j : x * 64 + j * 8 + 8 ≤ 512 := by omega
        have l6_9j : j * 8 + x < 64 := by omega
        have l7_9j : x * 8 + j < 64 := by omega
        by_cases hk : mtab f i j x = 0
        ·
         have e9 := hop_me p n f i j x (by omega) (by omega) (by omega)
         have l9 : 10 + i * 64 + j * 8 + x < 1106 := by omega
         go_wp2
         go_roundw
         case rel => exact ⟨x + 1, by omega, by go_num, bt, ⟨by simp [go_sem, r3_9, c3_9, n3_9, n3_12, r4_9, c4_9, n4_9, n4_12, r5_9, c5_9, n5_9, n5_12, r6_9, c6_9, n6_9, n6_12, r9_9, c9_9, n9_3, n9_4, n9_5, n9_6, n9_12, r12_9, c12_9, n12_3, n12_4, n12_5, n12_6, n12_9], (by rw [E3_9.out]; first | exact c3_9 | (simp [go_sem, r3_9, c3_9, n3_9, n3_12, r4_9, c4_9, n4_9, n4_12, r5_9, c5_9, n5_9, n5_12, r6_9, c6_9, n6_9, n6_12, r9_9, c9_9, n9_3, n9_4, n9_5, n9_6, n9_12, r12_9, c12_9, n12_3, n12_4, n12_5, n12_6, n12_9]; done))⟩, ⟨by simp [go_sem, r3_9, c3_9, n3_9, n3_12, r4_9, c4_9, n4_9, n4_12, r5_9, c5_9, n5_9, n5_12, r6_9, c6_9, n6_9, n6_12, r9_9, c9_9, n9_3, n9_4, n9_5, n9_6, n9_12, r12_9, c12_9, n12_3, n12_4, n12_5, n12_6, n12_9], (by rw [E4_9.out]; first | exact c4_9 | (simp [go_sem, r3_9, c3_9, n3_9, n3_12, r4_9, c4_9, n4_9, n4_12, r5_9, c5_9, n5_9, n5_12, r6_9, c6_9, n6_9, n6_12, r9_9, c9_9, n9_3, n9_4, n9_5, n9_6, n9_12, r12_9, c12_9, n12_3, n12_4, n12_5, n12_6, n12_9]; done))⟩, ⟨by simp [go_sem, r3_9, c3_9, n3_9, n3_12, r4_9, c4_9, n4_9, n4_12, r5_9, c5_9, n5_9, n5_12, r6_9, c6_9, n6_9, n6_12, r9_9, c9_9, n9_3, n9_4, n9_5, n9_6, n9_12, r12_9, c12_9, n12_3, n12_4, n12_5, n12_6, n12_9], (by rw [E5_9.out]; first | exact c5_9 | (simp [go_sem, r3_9, c3_9, n3_9, n3_12, r4_9, c4_9, n4_9, n4_12, r5_9, c5_9, n5_9, n5_12, r6_9, c6_9, n6_9, n6_12, r9_9, c9_9, n9_3, n9_4, n9_5, n9_6, n9_12, r12_9, c12_9, n12_3, n12_4, n12_5, n12_6, n12_9]; done))⟩, ⟨by simp [go_sem, r3_9, c3_9, n3_9, n3_12, r4_9, c4_9, n4_9, n4_12, r5_9, c5_9, n5_9, n5_12, r6_9, c6_9, n6_9, n6_12, r9_9, c9_9, n9_3, n9_4, n9_5, n9_6, n9_12, r12_9, c12_9, n12_3, n12_4, n12_5, n12_6, n12_9], (by rw [E6_9.out]; first | exact c6_9 | (simp [go_sem, r3_9, c3_9, n3_9, n3_12, r4_9, c4_9, n4_9, n4_12, r5_9, c5_9, n5_9, n5_12, r6_9, c6_9, n6_9, n6_12, r9_9, c9_9, n9_3, n9_4, n9_5, n9_6, n9_12, r12_9, c12_9, n12_3, n12_4, n12_5, n12_6, n12_9]; done))⟩, ⟨by simp [go_sem, r3_9, c3_9, n3_9, n3_12, r4_9, c4_9, n4_9, n4_12, r5_9, c5_9, n5_9, n5_12, r6_9, c6_9, n6_9, n6_12, r9_9, c9_9, n9_3, n9_4, n9_5, n9_6, n9_12, r12_9, c12_9, n12_3, n12_4, n12_5, n12_6, n12_9], (by first | exact (c9_9).trans (sx_skip p n f m q i j x hk) | (simp [go_sem, r3_9, c3_9, n3_9, n3_12, r4_9, c4_9, n4_9, n4_12, r5_9, c5_9, n5_9, n5_12, r6_9, c6_9, n6_9, n6_12, r9_9, c9_9, n9_3, n9_4, n9_5, n9_6, n9_12, r12_9, c12_9, n12_3, n12_4, n12_5, n12_6, n12_9]; exact sx_skip p n f m q i j x hk))⟩, ⟨by simp [go_sem, r3_9, c3_9, n3_9, n3_12, r4_9, c4_9, n4_9, n4_12, r5_9, c5_9, n5_9, n5_12, r6_9, c6_9, n6_9, n6_12, r9_9, c9_9, n9_3, n9_4, n9_5, n9_6, n9_12, r12_9, c12_9, n12_3, n12_4, n12_5, n12_6, n12_9], (by rw [E12_9.out]; first | exact c12_9 | (simp [go_sem, r3_9, c3_9, n3_9, n3_12, r4_9, c4_9, n4_9, n4_12, r5_9, c5_9, n5_9, n5_12, r6_9, c6_9, n6_9, n6_12, r9_9, c9_9, n9_3, n9_4, n9_5, n9_6, n9_12, r12_9, c12_9, n12_3, n12_4, n12_5, n12_6, n12_9]; done))⟩⟩
         case measure => simp [intOf]; try omega
        ·
         have e9 := hop_me p n f i j x (by omega) (by omega) (by omega)
         have l9 : 10 + i * 64 + j * 8 + x < 1106 := by omega
         have b1 := (mtab_range (hop_bytes HF.out) i j x (by omega) (by omega) (by omega)).1; have b2 := (mtab_range (hop_bytes HF.out) i j x (by omega) (by omega) (by omega)).2
         have q1 : IntKind.i64.wrap (mtab f i j x) = mtab f i j x := IntWalk.i64_in _ (by omega)
         have HX : Hid (Bytes 8 fun t => sxK p n f m q i j x (x * 8 + t)) := Lib.hid (sx_bytes hp hp' n f m q i j x)
         go_wp2
         refine wp_quiet_tail 10 (Below W9.heap.size W9) (by kernel_rfl) (by kernel_rfl) (Below.refl _ _).drew ?_
         simp only [List.take_succ_cons, List.take_zero, List.drop_succ_cons, List.drop_zero]
         iterate 8 (refine q_plain rfl ?_; apply Exists.intro; refine ⟨fun W hW => ?_, ?_⟩; (focus (obtain ⟨x3, y3⟩ := keepB hW z3_9 r3_9 c3_9; obtain ⟨x4, y4⟩ := keepB hW z4_9 r4_9 c4_9; obtain ⟨x5, y5⟩ := keepB hW z5_9 r5_9 c5_9; obtain ⟨x6, y6⟩ := keepB hW z6_9 r6_9 c6_9; obtain ⟨x9, y9⟩ := keepB hW z9_9 r9_9 c9_9; obtain ⟨x12, y12⟩ := keepB hW z12_9 r12_9 c12_9; go_simp; first | done | rfl)); simp only [Act.put, List.setIfInBounds_toArray, List.set_cons_zero, List.set_cons_succ])
         (refine q_plain rfl ?_; apply Exists.intro; refine ⟨fun W hW => ?_, ?_⟩; (focus (obtain ⟨x3, y3⟩ := keepB hW z3_9 r3_9 c3_9; obtain ⟨x4, y4⟩ := keepB hW z4_9 r4_9 c4_9; obtain ⟨x5, y5⟩ := keepB hW z5_9 r5_9 c5_9; obtain ⟨x6, y6⟩ := keepB hW z6_9 r6_9 c6_9; obtain ⟨x9, y9⟩ := keepB hW z9_9 r9_9 c9_9; obtain ⟨x12, y12⟩ := keepB hW z12_9 r12_9 c12_9; go_simp; (go_at_call 66; exact (l01Add_any _ _ _ _ _ hp hp' (by omega) (by omega) HX.out HW.out).mono fun e w2 ⟨he, hw2⟩ => ⟨he, hW.trans (hw2.mono hW.size)⟩))); simp only [Act.put, List.setIfInBounds_toArray, List.set_cons_zero, List.set_cons_succ])
         iterate 1 (refine q_plain rfl ?_; apply Exists.intro; refine ⟨fun W hW => ?_, ?_⟩; (focus (obtain ⟨x3, y3⟩ := keepB hW z3_9 r3_9 c3_9; obtain ⟨x4, y4⟩ := keepB hW z4_9 r4_9 c4_9; obtain ⟨x5, y5⟩ := keepB hW z5_9 r5_9 c5_9; obtain ⟨x6, y6⟩ := keepB hW z6_9 r6_9 c6_9; obtain ⟨x9, y9⟩ := keepB hW z9_9 r9_9 c9_9; obtain ⟨x12, y12⟩ := keepB hW z12_9 r12_9 c12_9; go_simp; first | done | rfl)); simp only [Act.put, List.setIfInBounds_toArray, List.set_cons_zero, List.set_cons_succ])
         refine wpQuiet_nil ?_
         intro W10 hw10
         obtain ⟨r3_10, c3_10, z3_10⟩ := keepZ hw10 z3_9 r3_9 c3_9
         obtain ⟨r4_10, c4_10, z4_10⟩ := keepZ hw10 z4_9 r4_9 c4_9
         obtain ⟨r5_10, c5_10, z5_10⟩ := keepZ hw10 z5_9 r5_9 c5_9
         obtain ⟨r6_10, c6_10, z6_10⟩ := keepZ hw10 z6_9 r6_9 c6_9
         obtain ⟨r9_10, c9_10, z9_10⟩ := keepZ hw10 z9_9 r9_9 c9_9
         obtain ⟨r12_10, c12_10, z12_10⟩ := keepZ hw10 z12_9 r12_9 c12_9
         obtain ⟨hb10, q10⟩ := bN hb9 hw10
         clear hw10 r3_9 c3_9 z3_9 r4_9 c4_9 z4_9 r5_9 c5_9 z5_9 r6_9 c6_9 z6_9 r9_9 c9_9 z9_9 r12_9 c12_9 z12_9 hb9
         go_wp2
         go_roundw
         case rel => exact ⟨x + 1, by omega, by go_num, bt, ⟨by simp [go_sem, r3_10, c3_10, n3_9, n3_12, r4_10, c4_10, n4_9, n4_12, r5_10, c5_10, n5_9, n5_12, r6_10, c6_10, n6_9, n6_12, r9_10, c9_10, n9_3, n9_4, n9_5, n9_6, n9_12, r12_10, c12_10, n12_3, n12_4, n12_5, n12_6, n12_9], (by rw [E3_9.out]; first | exact c3_10 | (simp [go_sem, r3_10, c3_10, n3_9, n3_12, r4_10, c4_10, n4_9, n4_12, r5_10, c5_10, n5_9, n5_12, r6_10, c6_10, n6_9, n6_12, r9_10, c9_10, n9_3, n9_4, n9_5, n9_6, n9_12, r12_10, c12_10, n12_3, n12_4, n12_5, n12_6, n12_9]; done))⟩, ⟨by simp [go_sem, r3_10, c3_10, n3_9, n3_12, r4_10, c4_10, n4_9, n4_12, r5_10, c5_10, n5_9, n5_12, r6_10, c6_10, n6_9, n6_12, r9_10, c9_10, n9_3, n9_4, n9_5, n9_6, n9_12, r12_10, c12_10, n12_3, n12_4, n12_5, n12_6, n12_9], (by rw [E4_9.out]; first | exact c4_10 | (simp [go_sem, r3_10, c3_10, n3_9, n3_12, r4_10, c4_10, n4_9, n4_12, r5_10, c5_10, n5_9, n5_12, r6_10, c6_10, n6_9, n6_12, r9_10, c9_10, n9_3, n9_4, n9_5, n9_6, n9_12, r12_10, c12_10, n12_3, n12_4, n12_5, n12_6, n12_9]; done))⟩, ⟨by simp [go_sem, r3_10, c3_10, n3_9, n3_12, r4_10, c4_10, n4_9, n4_12, r5_10, c5_10, n5_9, n5_12, r6_10, c6_10, n6_9, n6_12, r9_10, c9_10, n9_3, n9_4, n9_5, n9_6, n9_12, r12_10, c12_10, n12_3, n12_4, n12_5, n12_6, n12_9], (by rw [E5_9.out]; first | exact c5_10 | (simp [go_sem, r3_10, c3_10, n3_9, n3_12, r4_10, c4_10, n4_9, n4_12, r5_10, c5_10, n5_9, n5_12, r6_10, c6_10, n6_9, n6_12, r9_10, c9_10, n9_3, n9_4, n9_5, n9_6, n9_12, r12_10, c12_10, n12_3, n12_4, n12_5, n12_6, n12_9]; done))⟩, ⟨by simp [go_sem, r3_10, c3_10, n3_9, n3_12, r4_10, c4_10, n4_9, n4_12, r5_10, c5_10, n5_9, n5_12, r6_10, c6_10, n6_9, n6_12, r9_10, c9_10, n9_3, n9_4, n9_5, n9_6, n9_12, r12_10, c12_10, n12_3, n12_4, n12_5, n12_6, n12_9], (by rw [E6_9.out]; first | exact c6_10 | (simp [go_sem, r3_10, c3_10, n3_9, n3_12, r4_10, c4_10, n4_9, n4_12, r5_10, c5_10, n5_9, n5_12, r6_10, c6_10, n6_9, n6_12, r9_10, c9_10, n9_3, n9_4, n9_5, n9_6, n9_12, r12_10, c12_10, n12_3, n12_4, n12_5, n12_6, n12_9]; done))⟩, ⟨by simp [go_sem, r3_10, c3_10, n3_9, n3_12, r4_10, c4_10, n4_9, n4_12, r5_10, c5_10, n5_9, n5_12, r6_10, c6_10, n6_9, n6_12, r9_10, c9_10, n9_3, n9_4, n9_5, n9_6, n9_12, r12_10, c12_10, n12_3, n12_4, n12_5, n12_6, n12_9], (by first | (rw [blk_setRow _ _ _ _ r9_10, if_pos rfl]; exact sx_step p n f m q i j x (by omega) hn) | exact (c9_10).trans (sx_step p n f m q i j x (by omega) hn) | (simp [go_sem, r3_10, c3_10, n3_9, n3_12, r4_10, c4_10, n4_9, n4_12, r5_10, c5_10, n5_9, n5_12, r6_10, c6_10, n6_9, n6_12, r9_10, c9_10, n9_3, n9_4, n9_5, n9_6, n9_12, r12_10, c12_10, n12_3, n12_4, n12_5, n12_6, n12_9]; exact sx_step p n f m q i j x (by omega) hn))⟩, ⟨by simp [go_sem, r3_10, c3_10, n3_9, n3_12, r4_10, c4_10, n4_9, n4_12, r5_10, c5_10, n5_9, n5_12, r6_10, c6_10, n6_9, n6_12, r9_10, c9_10, n9_3, n9_4, n9_5, n9_6, n9_12, r12_10, c12_10, n12_3, n12_4, n12_5, n12_6, n12_9], (by rw [E12_9.out]; first | exact c12_10 | (simp [go_sem, r3_10, c3_10, n3_9, n3_12, r4_10, c4_10, n4_9, n4_12, r5_10, c5_10, n5_9, n5_12, r6_10, c6_10, n6_9, n6_12, r9_10, c9_10, n9_3, n9_4, n9_5, n9_6, n9_12, r12_10, c12_10, n12_3, n12_4, n12_5, n12_6, n12_9]; done))⟩⟩
         case measure => simp [intOf]; try omega
       ·
        obtain rfl : n = x := by omega
        go_wp2
        go_roundw
        case rel => exact ⟨j + 1, by omega, by go_num, bt, ⟨by simp [go_sem, r3_9, c3_9, n3_9, n3_12, r4_9, c4_9, n4_9, n4_12, r5_9, c5_9, n5_9, n5_12, r6_9, c6_9, n6_9, n6_12, r9_9, c9_9, n9_3, n9_4, n9_5, n9_6, n9_12, r12_9, c12_9, n12_3, n12_4, n12_5, n12_6, n12_9], (by rw [E3_5.out]; first | exact c3_9 | (simp [go_sem, r3_9, c3_9, n3_9, n3_12, r4_9, c4_9, n4_9, n4_12, r5_9, c5_9, n5_9, n5_12, r6_9, c6_9, n6_9, n6_12, r9_9, c9_9, n9_3, n9_4, n9_5, n9_6, n9_12, r12_9, c12_9, n12_3, n12_4, n12_5, n12_6, n12_9]; done))⟩, ⟨by simp [go_sem, r3_9, c3_9, n3_9, n3_12, r4_9, c4_9, n4_9, n4_12, r5_9, c5_9, n5_9, n5_12, r6_9, c6_9, n6_9, n6_12, r9_9, c9_9, n9_3, n9_4, n9_5, n9_6, n9_12, r12_9, c12_9, n12_3, n12_4, n12_5, n12_6, n12_9], (by rw [E4_5.out]; first | exact c4_9 | (simp [go_sem, r3_9, c3_9, n3_9, n3_12, r4_9, c4_9, n4_9, n4_12, r5_9, c5_9, n5_9, n5_12, r6_9, c6_9, n6_9, n6_12, r9_9, c9_9, n9_3, n9_4, n9_5, n9_6, n9_12, r12_9, c12_9, n12_3, n12_4, n12_5, n12_6, n12_9]; done))⟩, ⟨by simp [go_sem, r3_9, c3_9, n3_9, n3_12, r4_9, c4_9, n4_9, n4_12, r5_9, c5_9, n5_9, n5_12, r6_9, c6_9, n6_9, n6_12, r9_9, c9_9, n9_3, n9_4, n9_5, n9_6, n9_12, r12_9, c12_9, n12_3, n12_4, n12_5, n12_6, n12_9], (by rw [E5_5.out]; first | exact c5_9 | (simp [go_sem, r3_9, c3_9, n3_9, n3_12, r4_9, c4_9, n4_9, n4_12, r5_9, c5_9, n5_9, n5_12, r6_9, c6_9, n6_9, n6_12, r9_9, c9_9, n9_3, n9_4, n9_5, n9_6, n9_12, r12_9, c12_9, n12_3, n12_4, n12_5, n12_6, n12_9]; done))⟩, ⟨by simp [go_sem, r3_9, c3_9, n3_9, n3_12, r4_9, c4_9, n4_9, n4_12, r5_9, c5_9, n5_9, n5_12, r6_9, c6_9, n6_9, n6_12, r9_9, c9_9, n9_3, n9_4, n9_5, n9_6, n9_12, r12_9, c12_9, n12_3, n12_4, n12_5, n12_6, n12_9], (by rw [E6_5.out]; first | exact c6_9 | (simp [go_sem, r3_9, c3_9, n3_9, n3_12, r4_9, c4_9, n4_9, n4_12, r5_9, c5_9, n5_9, n5_12, r6_9, c6_9, n6_9, n6_12, r9_9, c9_9, n9_3, n9_4, n9_5, n9_6, n9_12, r12_9, c12_9, n12_3, n12_4, n12_5, n12_6, n12_9]; done))⟩, ⟨by simp [go_sem, r3_9, c3_9, n3_9, n3_12, r4_9, c4_9, n4_9, n4_12, r5_9, c5_9, n5_9, n5_12, r6_9, c6_9, n6_9, n6_12, r9_9, c9_9, n9_3, n9_4, n9_5, n9_6, n9_12, r12_9, c12_9, n12_3, n12_4, n12_5, n12_6, n12_9], (by first | exact (c9_9).trans (sx_end p n f m q i j) | (simp [go_sem, r3_9, c3_9, n3_9, n3_12, r4_9, c4_9, n4_9, n4_12, r5_9, c5_9, n5_9, n5_12, r6_9, c6_9, n6_9, n6_12, r9_9, c9_9, n9_3, n9_4, n9_5, n9_6, n9_12, r12_9, c12_9, n12_3, n12_4, n12_5, n12_6, n12_9]; exact sx_end p n f m q i j))⟩⟩
        case measure => simp [intOf]; try omega
     ·
      have HV : Hid (Bytes 8 fun t => m (i * 8 + t)) := Lib.hid (part_bytes Hm.out i (by omega))
      have HQ : Hid (Bytes 8 fun t => q (j * 8 + t)) := Lib.hid (part_bytes Hq.out j (by omega))
      have HW : Hid (Bytes 8 (mulF p n (mtab f) (fun t => m (i * 8 + t)) (fun t => q (j * 8 + t)))) := Lib.hid (mulF_bytes hp hp' n (mtab f) _ _)
      go_wp2
      refine wp_quiet_alloc 9 _ (.cells (row 8 zf) 32) (Below W5.heap.size W5) (Made W5 (row 8 zf)) (by kernel_rfl) rfl rfl (by kernel_rfl) (fun a W => (xallocVec _ _ _ _ _ _ _).trans (allocVec W)) (closed_below W5) (closed_made W5 _) (fun b W h => h.1) (fun W h => made_new W5 _ _ W h) (Below.refl _ _).drew ?_
      simp only [List.take_succ_cons, List.take_zero, List.drop_succ_cons, List.drop_zero]
      iterate 1 (refine e_plain rfl ?_; apply Exists.intro; refine ⟨fun D hD hK W hW => ?_, ?_⟩; (focus (obtain ⟨x3, y3⟩ := keepB (hD W hW) z3_5 r3_5 c3_5; obtain ⟨x4, y4⟩ := keepB (hD W hW) z4_5 r4_5 c4_5; obtain ⟨x5, y5⟩ := keepB (hD W hW) z5_5 r5_5 c5_5; obtain ⟨x6, y6⟩ := keepB (hD W hW) z6_5 r6_5 c6_5; obtain ⟨x9, y9⟩ := keepB (hD W hW) z9_5 r9_5 c9_5; unfold Oper.quietAt; go_simp; first | done | rfl)); simp only [Act.put, List.setIfInBounds_toArray, List.set_cons_zero, List.set_cons_succ])
      (refine e_plain rfl ?_; apply Exists.intro; refine ⟨fun D hD hK W hW => ?_, ?_⟩; (focus (obtain ⟨x3, y3⟩ := keepB (hD W hW) z3_5 r3_5 c3_5; obtain ⟨x4, y4⟩ := keepB (hD W hW) z4_5 r4_5 c4_5; obtain ⟨x5, y5⟩ := keepB (hD W hW) z5_5 r5_5 c5_5; obtain ⟨x6, y6⟩ := keepB (hD W hW) z6_5 r6_5 c6_5; obtain ⟨x9, y9⟩ := keepB (hD W hW) z9_5 r9_5 c9_5; unfold Oper.quietAt; go_simp; (go_at_call 86; exact (l03Algebra_any _ _ _ _).mono fun e w2 ⟨he, hw2⟩ => ⟨he, hK _ _ hW hw2⟩))); simp only [Act.put, List.setIfInBounds_toArray, List.set_cons_zero, List.set_cons_succ])
      iterate 6 (refine e_plain rfl ?_; apply Exists.intro; refine ⟨fun D hD hK W hW => ?_, ?_⟩; (focus (obtain ⟨x3, y3⟩ := keepB (hD W hW) z3_5 r3_5 c3_5; obtain ⟨x4, y4⟩ := keepB (hD W hW) z4_5 r4_5 c4_5; obtain ⟨x5, y5⟩ := keepB (hD W hW) z5_5 r5_5 c5_5; obtain ⟨x6, y6⟩ := keepB (hD W hW) z6_5 r6_5 c6_5; obtain ⟨x9, y9⟩ := keepB (hD W hW) z9_5 r9_5 c9_5; unfold Oper.quietAt; go_simp; first | done | rfl)); simp only [Act.put, List.setIfInBounds_toArray, List.set_cons_zero, List.set_cons_succ])
      (refine e_plain rfl ?_; apply Exists.intro; refine ⟨fun D hD hK W hW => ?_, ?_⟩; (focus (obtain ⟨x3, y3⟩ := keepB (hD W hW) z3_5 r3_5 c3_5; obtain ⟨x4, y4⟩ := keepB (hD W hW) z4_5 r4_5 c4_5; obtain ⟨x5, y5⟩ := keepB (hD W hW) z5_5 r5_5 c5_5; obtain ⟨x6, y6⟩ := keepB (hD W hW) z6_5 r6_5 c6_5; obtain ⟨x9, y9⟩ := keepB (hD W hW) z9_5 r9_5 c9_5; unfold Oper.quietAt; go_simp; (go_at_call 85; exact (l01Times_any p n f _ _ _ hp hp' hn (hop_bytes HF.out) HV.out HQ.out).mono fun e w2 ⟨he, hw2⟩ => ⟨he, hK _ _ hW hw2⟩))); simp only [Act.put, List.setIfInBounds_toArray, List.set_cons_zero, List.set_cons_succ])
      refine e_nil ?_
      intro a11 W11 hW11
      obtain ⟨hw11, hl11, m1_11, m2_11⟩ := hW11
      have n3_12 : (w.heap.size) ≠ (a11) := by have := z3_5; omega
      have n12_3 : (a11) ≠ (w.heap.size) := by have := z3_5; omega
      have n4_12 : (w.heap.size + 1) ≠ (a11) := by have := z4_5; omega
      have n12_4 : (a11) ≠ (w.heap.size + 1) := by have := z4_5; omega
      have n5_12 : (w.heap.size + 2) ≠ (a11) := by have := z5_5; omega
      have n12_5 : (a11) ≠ (w.heap.size + 2) := by have := z5_5; omega
      have n6_12 : (w.heap.size + 3) ≠ (a11) := by have := z6_5; omega
      have n12_6 : (a11) ≠ (w.heap.size + 3) := by have := z6_5; omega
      have n9_12 : (a2) ≠ (a11) := by have := z9_5; omega
      have n12_9 : (a11) ≠ (a2) := by have := z9_5; omega
      obtain ⟨r3_11, c3_11, z3_11⟩ := keepZ hw11 z3_5 r3_5 c3_5
      obtain ⟨r4_11, c4_11, z4_11⟩ := keepZ hw11 z4_5 r4_5 c4_5
      obtain ⟨r5_11, c5_11, z5_11⟩ := keepZ hw11 z5_5 r5_5 c5_5
      obtain ⟨r6_11, c6_11, z6_11⟩ := keepZ hw11 z6_5 r6_5 c6_5
      obtain ⟨r9_11, c9_11, z9_11⟩ := keepZ hw11 z9_5 r9_5 c9_5
      obtain ⟨hb11, q11⟩ := bN hb5 hw11
      clear hw11 r3_5 c3_5 z3_5 r4_5 c4_5 z4_5 r5_5 c5_5 z5_5 r6_5 c6_5 z6_5 r9_5 c9_5 z9_5 hb5
      have z12_11 := isRow_lt m1_11
      simp only [Act.put, List.setIfInBounds_toArray, List.set_cons_zero, List.set_cons_succ]
      go_wp2_with fail
      refine atomC fun W12 e12 => ?_
      have hb12 : Below w.heap.size w W12 := by rw [e12]; exact bt
      have q12 := hb12.size
      have R12 : IsRow W12 (w.heap.size) ∧ IsRow W12 (w.heap.size + 1) ∧ IsRow W12 (w.heap.size + 2) ∧ IsRow W12 (w.heap.size + 3) ∧ IsRow W12 (a2) ∧ IsRow W12 (a11) := by rw [e12]; simp [go_sem, r3_11, c3_11, n3_9, n3_12, r4_11, c4_11, n4_9, n4_12, r5_11, c5_11, n5_9, n5_12, r6_11, c6_11, n6_9, n6_12, r9_11, c9_11, n9_3, n9_4, n9_5, n9_6, n9_12, m1_11, m2_11, n12_3, n12_4, n12_5, n12_6, n12_9]
      obtain ⟨r3_12, r4_12, r5_12, r6_12, r9_12, r12_12⟩ := R12
      have C12 := (⟨congrArg (blk · (w.heap.size)) e12, congrArg (blk · (w.heap.size + 1)) e12, congrArg (blk · (w.heap.size + 2)) e12, congrArg (blk · (w.heap.size + 3)) e12, congrArg (blk · (a2)) e12, congrArg (blk · (a11)) e12⟩ : _ ∧ _ ∧ _ ∧ _ ∧ _ ∧ _); simp [go_sem, r3_11, c3_11, n3_9, n3_12, r4_11, c4_11, n4_9, n4_12, r5_11, c5_11, n5_9, n5_12, r6_11, c6_11, n6_9, n6_12, r9_11, c9_11, n9_3, n9_4, n9_5, n9_6, n9_12, m1_11, m2_11, n12_3, n12_4, n12_5, n12_6, n12_9] at C12
      obtain ⟨c3_12, c4_12, c5_12, c6_12, c9_12, c12_12⟩ := C12
      have z3_12 := isRow_lt r3_12; have z4_12 := isRow_lt r4_12; have z5_12 := isRow_lt r5_12; have z6_12 := isRow_lt r6_12; have z9_12 := isRow_lt r9_12; have z12_12 := isRow_lt r12_12
      clear e12 r3_11 c3_11 z3_11 r4_11 c4_11 z4_11 r5_11 c5_11 z5_11 r6_11 c6_11 z6_11 r9_11 c9_11 z9_11 m1_11 m2_11 z12_11 hb11
      refine (l01Zero_any _ _).mono ?_; rintro _ W13 ⟨rfl, hw13⟩
      obtain ⟨r3_13, c3_13, z3_13⟩ := keepZ hw13 z3_12 r3_12 c3_12
      obtain ⟨r4_13, c4_13, z4_13⟩ := keepZ hw13 z4_12 r4_12 c4_12
      obtain ⟨r5_13, c5_13, z5_13⟩ := keepZ hw13 z5_12 r5_12 c5_12
      obtain ⟨r6_13, c6_13, z6_13⟩ := keepZ hw13 z6_12 r6_12 c6_12
      obtain ⟨r9_13, c9_13, z9_13⟩ := keepZ hw13 z9_12 r9_12 c9_12
      obtain ⟨r12_13, c12_13, z12_13⟩ := keepZ hw13 z12_12 r12_12 c12_12
      obtain ⟨hb13, q13⟩ := bN hb12 hw13
      clear hw13 r3_12 c3_12 z3_12 r4_12 c4_12 z4_12 r5_12 c5_12 z5_12 r6_12 c6_12 z6_12 r9_12 c9_12 z9_12 r12_12 c12_12 z12_12 hb12
      go_wp2
      go_roundw
      case rel => exact ⟨j + 1, by omega, by go_num, bt, ⟨by simp [go_sem, r3_13, c3_13, n3_9, n3_12, r4_13, c4_13, n4_9, n4_12, r5_13, c5_13, n5_9, n5_12, r6_13, c6_13, n6_9, n6_12, r9_13, c9_13, n9_3, n9_4, n9_5, n9_6, n9_12, r12_13, c12_13, n12_3, n12_4, n12_5, n12_6, n12_9], (by rw [E3_5.out]; first | exact c3_13 | (simp [go_sem, r3_13, c3_13, n3_9, n3_12, r4_13, c4_13, n4_9, n4_12, r5_13, c5_13, n5_9, n5_12, r6_13, c6_13, n6_9, n6_12, r9_13, c9_13, n9_3, n9_4, n9_5, n9_6, n9_12, r12_13, c12_13, n12_3, n12_4, n12_5, n12_6, n12_9]; done))⟩, ⟨by simp [go_sem, r3_13, c3_13, n3_9, n3_12, r4_13, c4_13, n4_9, n4_12, r5_13, c5_13, n5_9, n5_12, r6_13, c6_13, n6_9, n6_12, r9_13, c9_13, n9_3, n9_4, n9_5, n9_6, n9_12, r12_13, c12_13, n12_3, n12_4, n12_5, n12_6, n12_9], (by rw [E4_5.out]; first | exact c4_13 | (simp [go_sem, r3_13, c3_13, n3_9, n3_12, r4_13, c4_13, n4_9, n4_12, r5_13, c5_13, n5_9, n5_12, r6_13, c6_13, n6_9, n6_12, r9_13, c9_13, n9_3, n9_4, n9_5, n9_6, n9_12, r12_13, c12_13, n12_3, n12_4, n12_5, n12_6, n12_9]; done))⟩, ⟨by simp [go_sem, r3_13, c3_13, n3_9, n3_12, r4_13, c4_13, n4_9, n4_12, r5_13, c5_13, n5_9, n5_12, r6_13, c6_13, n6_9, n6_12, r9_13, c9_13, n9_3, n9_4, n9_5, n9_6, n9_12, r12_13, c12_13, n12_3, n12_4, n12_5, n12_6, n12_9], (by rw [E5_5.out]; first | exact c5_13 | (simp [go_sem, r3_13, c3_13, n3_9, n3_12, r4_13, c4_13, n4_9, n4_12, r5_13, c5_13, n5_9, n5_12, r6_13, c6_13, n6_9, n6_12, r9_13, c9_13, n9_3, n9_4, n9_5, n9_6, n9_12, r12_13, c12_13, n12_3, n12_4, n12_5, n12_6, n12_9]; done))⟩, ⟨by simp [go_sem, r3_13, c3_13, n3_9, n3_12, r4_13, c4_13, n4_9, n4_12, r5_13, c5_13, n5_9, n5_12, r6_13, c6_13, n6_9, n6_12, r9_13, c9_13, n9_3, n9_4, n9_5, n9_6, n9_12, r12_13, c12_13, n12_3, n12_4, n12_5, n12_6, n12_9], (by rw [E6_5.out]; first | exact c6_13 | (simp [go_sem, r3_13, c3_13, n3_9, n3_12, r4_13, c4_13, n4_9, n4_12, r5_13, c5_13, n5_9, n5_12, r6_13, c6_13, n6_9, n6_12, r9_13, c9_13, n9_3, n9_4, n9_5, n9_6, n9_12, r12_13, c12_13, n12_3, n12_4, n12_5, n12_6, n12_9]; done))⟩, ⟨by simp [go_sem, r3_13, c3_13, n3_9, n3_12, r4_13, c4_13, n4_9, n4_12, r5_13, c5_13, n5_9, n5_12, r6_13, c6_13, n6_9, n6_12, r9_13, c9_13, n9_3, n9_4, n9_5, n9_6, n9_12, r12_13, c12_13, n12_3, n12_4, n12_5, n12_6, n12_9], (by first | exact (c9_13).trans (ppS_skip p n f m q i j hz) | (simp [go_sem, r3_13, c3_13, n3_9, n3_12, r4_13, c4_13, n4_9, n4_12, r5_13, c5_13, n5_9, n5_12, r6_13, c6_13, n6_9, n6_12, r9_13, c9_13, n9_3, n9_4, n9_5, n9_6, n9_12, r12_13, c12_13, n12_3, n12_4, n12_5, n12_6, n12_9]; exact ppS_skip p n f m q i j hz))⟩⟩
      case measure => simp [intOf]; try omega
    ·
     obtain rfl : n = j := by omega
     go_wp2
     go_roundw
     case rel => exact ⟨i + 1, by omega, by go_num, bt, ⟨by simp [go_sem, r3_5, c3_5, n3_9, r4_5, c4_5, n4_9, r5_5, c5_5, n5_9, r6_5, c6_5, n6_9, r9_5, c9_5, n9_3, n9_4, n9_5, n9_6], (by rw [E3_4.out]; first | exact c3_5 | (simp [go_sem, r3_5, c3_5, n3_9, r4_5, c4_5, n4_9, r5_5, c5_5, n5_9, r6_5, c6_5, n6_9, r9_5, c9_5, n9_3, n9_4, n9_5, n9_6]; done))⟩, ⟨by simp [go_sem, r3_5, c3_5, n3_9, r4_5, c4_5, n4_9, r5_5, c5_5, n5_9, r6_5, c6_5, n6_9, r9_5, c9_5, n9_3, n9_4, n9_5, n9_6], (by rw [E4_4.out]; first | exact c4_5 | (simp [go_sem, r3_5, c3_5, n3_9, r4_5, c4_5, n4_9, r5_5, c5_5, n5_9, r6_5, c6_5, n6_9, r9_5, c9_5, n9_3, n9_4, n9_5, n9_6]; done))⟩, ⟨by simp [go_sem, r3_5, c3_5, n3_9, r4_5, c4_5, n4_9, r5_5, c5_5, n5_9, r6_5, c6_5, n6_9, r9_5, c9_5, n9_3, n9_4, n9_5, n9_6], (by rw [E5_4.out]; first | exact c5_5 | (simp [go_sem, r3_5, c3_5, n3_9, r4_5, c4_5, n4_9, r5_5, c5_5, n5_9, r6_5, c6_5, n6_9, r9_5, c9_5, n9_3, n9_4, n9_5, n9_6]; done))⟩, ⟨by simp [go_sem, r3_5, c3_5, n3_9, r4_5, c4_5, n4_9, r5_5, c5_5, n5_9, r6_5, c6_5, n6_9, r9_5, c9_5, n9_3, n9_4, n9_5, n9_6], (by rw [E6_4.out]; first | exact c6_5 | (simp [go_sem, r3_5, c3_5, n3_9, r4_5, c4_5, n4_9, r5_5, c5_5, n5_9, r6_5, c6_5, n6_9, r9_5, c9_5, n9_3, n9_4, n9_5, n9_6]; done))⟩, ⟨by simp [go_sem, r3_5, c3_5, n3_9, r4_5, c4_5, n4_9, r5_5, c5_5, n5_9, r6_5, c6_5, n6_9, r9_5, c9_5, n9_3, n9_4, n9_5, n9_6], (by first | exact (c9_5).trans (ppS_row p n f m q i) | (simp [go_sem, r3_5, c3_5, n3_9, r4_5, c4_5, n4_9, r5_5, c5_5, n5_9, r6_5, c6_5, n6_9, r9_5, c9_5, n9_3, n9_4, n9_5, n9_6]; exact ppS_row p n f m q i))⟩⟩
     case measure => simp [intOf]; try omega
  ·
   obtain rfl : n = i := by omega
   go_wp2_with fail
   refine bodyPost_ret (result_cell rfl aggLin _ _ (row 64 (ppS p n f m q n 0)) _ rfl ?_ ?_) rfl ⟨rfl, ?_⟩
   · simp [go_sem, r3_4, c3_4, n3_9, r4_4, c4_4, n4_9, r5_4, c5_4, n5_9, r6_4, c6_4, n6_9, r9_4, c9_4, n9_3, n9_4, n9_5, n9_6]
   · simp [go_sem, r3_4, c3_4, n3_9, r4_4, c4_4, n4_9, r5_4, c5_4, n5_9, r6_4, c6_4, n6_9, r9_4, c9_4, n9_3, n9_4, n9_5, n9_6]
   · exact bt

/-! ### the sums of axioms 6 and 7 -/
/-- S(e(a)) e(b), or e(a) S(e(b)) -/
def ownF (p : Int) (n : Nat) (A S : Nat → Int) (beh : Bool) (a b : Nat) : Nat → Int := match beh with | false => mulF p n (mtab A) (fun t => S (a * 8 + t)) (ebas b) | true => mulF p n (mtab A) (ebas a) (fun t => S (b * 8 + t))
def fdK (p : Int) (n : Nat) (f S : Nat → Int) (beh : Bool) (i j k : Nat) : Nat → Int := fun t => dsumK (fun a b => mtab (coF f) i a b * ownF p n f S beh a b t) n j k % p
theorem fd_zero (p : Int) (n : Nat) (f S : Nat → Int) (beh : Bool) (i : Nat) : row 8 zf = row 8 (fdK p n f S beh i 0 0) := row_congr fun t _ => by unfold fdK zf; rw [dsum_zero]; simp
theorem fd_step (p : Int) (n : Nat) (f S : Nat → Int) (beh : Bool) (i j k : Nat) : row 8 (addm p 0 8 (mtab (coF f) i j k) (fdK p n f S beh i j k) (ownF p n f S beh j k)) = row 8 (fdK p n f S beh i j (k + 1)) := addm_row fun t _ => by unfold fdK; rw [Int.emod_add_emod, dsum_step]
theorem fd_skip (p : Int) (n : Nat) (f S : Nat → Int) (beh : Bool) (i j k : Nat) (h : mtab (coF f) i j k = 0) : row 8 (fdK p n f S beh i j k) = row 8 (fdK p n f S beh i j (k + 1)) := row_congr fun t _ => by unfold fdK; rw [dsum_step]; simp only [h, Int.zero_mul, Int.add_zero]
theorem fd_row (p : Int) (n : Nat) (f S : Nat → Int) (beh : Bool) (i j : Nat) : row 8 (fdK p n f S beh i j n) = row 8 (fdK p n f S beh i (j + 1) 0) := row_congr fun t _ => by unfold fdK; rw [dsum_row]
theorem own_bytes {p : Int} (hp : 0 < p) (hp' : p ≤ 255) (n : Nat) (A S : Nat → Int) (beh : Bool) (a b : Nat) : Bytes 8 (ownF p n A S beh a b) := by
  cases beh <;> exact mulF_bytes hp hp' n (mtab A) _ _

set_option maxRecDepth 100000 in
set_option maxHeartbeats 4000000 in
theorem l03Folded_false (p : Int) (n : Nat) (f S : Nat → Int) (i : Nat) (w : World) (hp : 0 < p) (hp' : p ≤ 255) (hn : n ≤ 8) (hi : i < 8) (hF : Bytes 1104 f) (hS : Bytes 64 S) :
    Calls Tryz.prog 153 #[.agg (hop p n f), .int .i64 i, .agg (row 64 S), .bool false] w fun e w' => e = .returned (.agg (row 8 (fdK p n f S false i n 0))) ∧ Below w.heap.size w w' := by
 have HF := Lib.hid hF; clear hF
 have HS := Lib.hid hS; clear hS
 have xi : (i : Int) < 8 := by omega
 go_enter Tryz.func153, Tryz.ntmps153
 go_wp2_with fail
 refine atomC fun W1 e1 => ?_
 have hb1 : Below w.heap.size w W1 := by rw [e1]; exact bt
 have q1 := hb1.size
 have R1 : IsRow W1 (w.heap.size) ∧ IsRow W1 (w.heap.size + 1) ∧ IsRow W1 (w.heap.size + 2) := by rw [e1]; simp [go_sem]
 obtain ⟨r4_1, r6_1, r8_1⟩ := R1
 have C1 := (⟨congrArg (blk · (w.heap.size)) e1, congrArg (blk · (w.heap.size + 1)) e1, congrArg (blk · (w.heap.size + 2)) e1⟩ : _ ∧ _ ∧ _); simp [go_sem] at C1
 obtain ⟨c4_1, c6_1, c8_1⟩ := C1
 have z4_1 := isRow_lt r4_1; have z6_1 := isRow_lt r6_1; have z8_1 := isRow_lt r8_1
 clear e1
 refine (l03Algebra_any _ _ _ _).mono ?_; rintro _ W2 ⟨rfl, hw2⟩
 obtain ⟨r4_2, c4_2, z4_2⟩ := keepZ hw2 z4_1 r4_1 c4_1
 obtain ⟨r6_2, c6_2, z6_2⟩ := keepZ hw2 z6_1 r6_1 c6_1
 obtain ⟨r8_2, c8_2, z8_2⟩ := keepZ hw2 z8_1 r8_1 c8_1
 obtain ⟨hb2, q2⟩ := bN hb1 hw2
 clear hw2 r4_1 c4_1 z4_1 r6_1 c6_1 z6_1 r8_1 c8_1 z8_1 hb1
 go_wp2
 have nw4_W2_0 : (w.heap.size) ≠ W2.heap.size := by omega
 have nw4_W2_1 : (w.heap.size) ≠ W2.heap.size + 1 := by omega
 have nw6_W2_0 : (w.heap.size + 1) ≠ W2.heap.size := by omega
 have nw6_W2_1 : (w.heap.size + 1) ≠ W2.heap.size + 1 := by omega
 have nw8_W2_0 : (w.heap.size + 2) ≠ W2.heap.size := by omega
 have nw8_W2_1 : (w.heap.size + 2) ≠ W2.heap.size + 1 := by omega
 refine atomW fun W3 e3 => ?_
 have hb3 : Below w.heap.size w W3 := by rw [e3]; exact bt
 have q3 := hb3.size
 have R3 : IsRow W3 (w.heap.size) ∧ IsRow W3 (w.heap.size + 1) ∧ IsRow W3 (w.heap.size + 2) ∧ IsRow W3 (W2.heap.size) ∧ IsRow W3 (W2.heap.size + 1) := by rw [e3]; simp [go_sem, r4_2, c4_2, r6_2, c6_2, r8_2, c8_2, nw4_W2_0, nw4_W2_1, nw6_W2_0, nw6_W2_1, nw8_W2_0, nw8_W2_1]
 obtain ⟨r4_3, r6_3, r8_3, r9_3, r10_3⟩ := R3
 have C3 := (⟨congrArg (blk · (w.heap.size)) e3, congrArg (blk · (w.heap.size + 1)) e3, congrArg (blk · (w.heap.size + 2)) e3, congrArg (blk · (W2.heap.size)) e3, congrArg (blk · (W2.heap.size + 1)) e3⟩ : _ ∧ _ ∧ _ ∧ _ ∧ _); simp [go_sem, r4_2, c4_2, r6_2, c6_2, r8_2, c8_2, nw4_W2_0, nw4_W2_1, nw6_W2_0, nw6_W2_1, nw8_W2_0, nw8_W2_1] at C3
 obtain ⟨c4_3, c6_3, c8_3, c9_3, c10_3⟩ := C3
 have z4_3 := isRow_lt r4_3; have z6_3 := isRow_lt r6_3; have z8_3 := isRow_lt r8_3; have z9_3 := isRow_lt r9_3; have z10_3 := isRow_lt r10_3
 have n4_9 : (w.heap.size) ≠ (W2.heap.size) := by omega
 have n4_10 : (w.heap.size) ≠ (W2.heap.size + 1) := by omega
 have n6_9 : (w.heap.size + 1) ≠ (W2.heap.size) := by omega
 have n6_10 : (w.heap.size + 1) ≠ (W2.heap.size + 1) := by omega
 have n8_9 : (w.heap.size + 2) ≠ (W2.heap.size) := by omega
 have n8_10 : (w.heap.size + 2) ≠ (W2.heap.size + 1) := by omega
 have n9_4 : (W2.heap.size) ≠ (w.heap.size) := by omega
 have n9_6 : (W2.heap.size) ≠ (w.heap.size + 1) := by omega
 have n9_8 : (W2.heap.size) ≠ (w.heap.size + 2) := by omega
 have n10_4 : (W2.heap.size + 1) ≠ (w.heap.size) := by omega
 have n10_6 : (W2.heap.size + 1) ≠ (w.heap.size + 1) := by omega
 have n10_8 : (W2.heap.size + 1) ≠ (w.heap.size + 2) := by omega
 clear e3 nw4_W2_0 nw4_W2_1 nw6_W2_0 nw6_W2_1 nw8_W2_0 nw8_W2_1 r4_2 c4_2 z4_2 r6_2 c6_2 z6_2 r8_2 c8_2 z8_2 hb2
 go_loopw [11] (fun s11 wr => ∃ j : Nat, j ≤ n ∧ s11 = .int .i64 j ∧ Below w.heap.size w wr ∧ (IsRow wr (w.heap.size) ∧ blk wr (w.heap.size) = blk W3 (w.heap.size)) ∧ (IsRow wr (w.heap.size + 1) ∧ blk wr (w.heap.size + 1) = blk W3 (w.heap.size + 1)) ∧ (IsRow wr (w.heap.size + 2) ∧ blk wr (w.heap.size + 2) = blk W3 (w.heap.size + 2)) ∧ (IsRow wr (W2.heap.size) ∧ blk wr (W2.heap.size) = row 8 (fdK p n f S false i j 0)) ∧ (IsRow wr (W2.heap.size + 1) ∧ blk wr (W2.heap.size + 1) = blk W3 (W2.heap.size + 1))) (fun s11 _ => n - (intOf s11).toNat)
 case atStart => exact ⟨0, by omega, rfl, hb3, ⟨r4_3, rfl⟩, ⟨r6_3, rfl⟩, ⟨r8_3, rfl⟩, ⟨r9_3, c9_3.trans (fd_zero p n f S false i)⟩, ⟨r10_3, rfl⟩⟩
 case round =>
  obtain ⟨j, hle4, rfl, hb4, ⟨r4_4, c4_4⟩, ⟨r6_4, c6_4⟩, ⟨r8_4, c8_4⟩, ⟨r9_4, c9_4⟩, ⟨r10_4, c10_4⟩⟩ := hrel
  obtain ⟨W4, rfl⟩ : ∃ W4 : World, W4 = wr := ⟨_, rfl⟩
  have q4 := hb4.size
  have E4_4 := Lib.hid c4_3; replace c4_4 := c4_4.trans c4_3
  have z4_4 := isRow_lt r4_4
  have E6_4 := Lib.hid c6_3; replace c6_4 := c6_4.trans c6_3
  have z6_4 := isRow_lt r6_4
  have E8_4 := Lib.hid c8_3; replace c8_4 := c8_4.trans c8_3
  have z8_4 := isRow_lt r8_4
  have z9_4 := isRow_lt r9_4
  have E10_4 := Lib.hid c10_3; replace c10_4 := c10_4.trans c10_3
  have z10_4 := isRow_lt r10_4
  clear r4_3 c4_3 z4_3 r6_3 c6_3 z6_3 r8_3 c8_3 z8_3 r9_3 c9_3 z9_3 r10_3 c10_3 z10_3 hb3
  by_cases hlt4 : j < n
  ·
   have i0_4 : (0 : Int) ≤ (j : Int) := by omega
   have i8_4 : (j : Int) < 8 := by omega
   have k8_4 : j < 8 := by omega
   have m8_4 : j * 8 + 8 ≤ 64 := by omega
   have m64_4 : j * 64 + 64 ≤ 512 := by omega
   have l1_4 : 10 + j * 64 + 64 ≤ 522 := by omega
   go_wp2
   go_loopw [12] (fun s12 wr => ∃ k : Nat, k ≤ n ∧ s12 = .int .i64 k ∧ Below w.heap.size w wr ∧ (IsRow wr (w.heap.size) ∧ blk wr (w.heap.size) = blk W4 (w.heap.size)) ∧ (IsRow wr (w.heap.size + 1) ∧ blk wr (w.heap.size + 1) = blk W4 (w.heap.size + 1)) ∧ (IsRow wr (w.heap.size + 2) ∧ blk wr (w.heap.size + 2) = blk W4 (w.heap.size + 2)) ∧ (IsRow wr (W2.heap.size) ∧ blk wr (W2.heap.size) = row 8 (fdK p n f S false i j k)) ∧ (IsRow wr (W2.heap.size + 1) ∧ blk wr (W2.heap.size + 1) = blk W4 (W2.heap.size + 1))) (fun s12 _ => n - (intOf s12).toNat)
   case atStart => exact ⟨0, by omega, rfl, hb4, ⟨r4_4, rfl⟩, ⟨r6_4, rfl⟩, ⟨r8_4, rfl⟩, ⟨r9_4, c9_4⟩, ⟨r10_4, rfl⟩⟩
   case round =>
    obtain ⟨k, hle5, rfl, hb5, ⟨r4_5, c4_5⟩, ⟨r6_5, c6_5⟩, ⟨r8_5, c8_5⟩, ⟨r9_5, c9_5⟩, ⟨r10_5, c10_5⟩⟩ := hrel
    obtain ⟨W5, rfl⟩ : ∃ W5 : World, W5 = wr := ⟨_, rfl⟩
    have q5 := hb5.size
    have E4_5 := Lib.hid c4_4; replace c4_5 := c4_5.trans c4_4
    have z4_5 := isRow_lt r4_5
    have E6_5 := Lib.hid c6_4; replace c6_5 := c6_5.trans c6_4
    have z6_5 := isRow_lt r6_5
    have E8_5 := Lib.hid c8_4; replace c8_5 := c8_5.trans c8_4
    have z8_5 := isRow_lt r8_5
    have z9_5 := isRow_lt r9_5
    have E10_5 := Lib.hid c10_4; replace c10_5 := c10_5.trans c10_4
    have z10_5 := isRow_lt r10_5
    clear r4_4 c4_4 z4_4 r6_4 c6_4 z6_4 r8_4 c8_4 z8_4 r9_4 c9_4 z9_4 r10_4 c10_4 z10_4 hb4
    by_cases hlt5 : k < n
    ·
     have i0_5 : (0 : Int) ≤ (k : Int) := by omega
     have i8_5 : (k : Int) < 8 := by omega
     have k8_5 : k < 8 := by omega
     have m8_5 : k * 8 + 8 ≤ 64 := by omega
     have m64_5 : k * 64 + 64 ≤ 512 := by omega
     have l1_5 : 10 + k * 64 + 64 ≤ 522 := by omega
     have l2_5j : 10 + j * 64 + k * 8 + 8 ≤ 522 := by omega
     have l3_5j : 10 + k * 64 + j * 8 + 8 ≤ 522 := by omega
     have l4_5j : j * 64 + k * 8 + 8 ≤ 512 := by omega
     have l5_5j : k * 64 + j * 8 + 8 ≤ 512 := by omega
     have l6_5j : j * 8 + k < 64 := by omega
     have l7_5j : k * 8 + j < 64 := by omega
     by_cases hk : mtab (coF f) i j k = 0
     ·
      have e9 := hop_come p n f i j k (by omega) (by omega) (by omega)
      have l9 : 530 + i * 64 + j * 8 + k < 1106 := by omega
      have q1 : IntKind.i64.wrap 0 = 0 := rfl
      go_wp2
      go_roundw
      case rel => exact ⟨k + 1, by omega, by go_num, bt, ⟨by simp [go_sem, r4_5, c4_5, n4_9, n4_10, r6_5, c6_5, n6_9, n6_10, r8_5, c8_5, n8_9, n8_10, r9_5, c9_5, n9_4, n9_6, n9_8, r10_5, c10_5, n10_4, n10_6, n10_8], (by rw [E4_5.out]; first | exact c4_5 | (simp [go_sem, r4_5, c4_5, n4_9, n4_10, r6_5, c6_5, n6_9, n6_10, r8_5, c8_5, n8_9, n8_10, r9_5, c9_5, n9_4, n9_6, n9_8, r10_5, c10_5, n10_4, n10_6, n10_8]; done))⟩, ⟨by simp [go_sem, r4_5, c4_5, n4_9, n4_10, r6_5, c6_5, n6_9, n6_10, r8_5, c8_5, n8_9, n8_10, r9_5, c9_5, n9_4, n9_6, n9_8, r10_5, c10_5, n10_4, n10_6, n10_8], (by rw [E6_5.out]; first | exact c6_5 | (simp [go_sem, r4_5, c4_5, n4_9, n4_10, r6_5, c6_5, n6_9, n6_10, r8_5, c8_5, n8_9, n8_10, r9_5, c9_5, n9_4, n9_6, n9_8, r10_5, c10_5, n10_4, n10_6, n10_8]; done))⟩, ⟨by simp [go_sem, r4_5, c4_5, n4_9, n4_10, r6_5, c6_5, n6_9, n6_10, r8_5, c8_5, n8_9, n8_10, r9_5, c9_5, n9_4, n9_6, n9_8, r10_5, c10_5, n10_4, n10_6, n10_8], (by rw [E8_5.out]; first | exact c8_5 | (simp [go_sem, r4_5, c4_5, n4_9, n4_10, r6_5, c6_5, n6_9, n6_10, r8_5, c8_5, n8_9, n8_10, r9_5, c9_5, n9_4, n9_6, n9_8, r10_5, c10_5, n10_4, n10_6, n10_8]; done))⟩, ⟨by simp [go_sem, r4_5, c4_5, n4_9, n4_10, r6_5, c6_5, n6_9, n6_10, r8_5, c8_5, n8_9, n8_10, r9_5, c9_5, n9_4, n9_6, n9_8, r10_5, c10_5, n10_4, n10_6, n10_8], (by first | exact (c9_5).trans (fd_skip p n f S false i j k hk) | (simp [go_sem, r4_5, c4_5, n4_9, n4_10, r6_5, c6_5, n6_9, n6_10, r8_5, c8_5, n8_9, n8_10, r9_5, c9_5, n9_4, n9_6, n9_8, r10_5, c10_5, n10_4, n10_6, n10_8]; exact fd_skip p n f S false i j k hk))⟩, ⟨by simp [go_sem, r4_5, c4_5, n4_9, n4_10, r6_5, c6_5, n6_9, n6_10, r8_5, c8_5, n8_9, n8_10, r9_5, c9_5, n9_4, n9_6, n9_8, r10_5, c10_5, n10_4, n10_6, n10_8], (by rw [E10_5.out]; first | exact c10_5 | (simp [go_sem, r4_5, c4_5, n4_9, n4_10, r6_5, c6_5, n6_9, n6_10, r8_5, c8_5, n8_9, n8_10, r9_5, c9_5, n9_4, n9_6, n9_8, r10_5, c10_5, n10_4, n10_6, n10_8]; done))⟩⟩
      case measure => simp [intOf]; try omega
     ·
      have e9 := hop_come p n f i j k (by omega) (by omega) (by omega)
      have l9 : 530 + i * 64 + j * 8 + k < 1106 := by omega
      have b1 := (mtab_range (co_bytes HF.out) i j k (by omega) (by omega) (by omega)).1; have b2 := (mtab_range (co_bytes HF.out) i j k (by omega) (by omega) (by omega)).2
      have q1 : IntKind.i64.wrap (mtab (coF f) i j k) = mtab (coF f) i j k := IntWalk.i64_in _ (by omega)
      have HX : Hid (Bytes 8 (fdK p n f S false i j k)) := Lib.hid (bytes_mod hp hp' _)
      have HJ : Hid (Bytes 8 fun t => S (j * 8 + t)) := Lib.hid (part_bytes HS.out j (by omega))
      have HK : Hid (Bytes 8 fun t => S (k * 8 + t)) := Lib.hid (part_bytes HS.out k (by omega))
      have HW : Hid (Bytes 8 (ownF p n f S false j k)) := Lib.hid (own_bytes hp hp' n f S false j k)
      go_wp2
      refine wp_quiet_alloc 7 _ (.cells (row 8 zf) 32) (Below W5.heap.size W5) (Made W5 (row 8 zf)) (by kernel_rfl) rfl rfl (by kernel_rfl) (fun a W => (xallocVec _ _ _ _ _ _ _).trans (allocVec W)) (closed_below W5) (closed_made W5 _) (fun b W h => h.1) (fun W h => made_new W5 _ _ W h) (Below.refl _ _).drew ?_
      simp only [List.take_succ_cons, List.take_zero, List.drop_succ_cons, List.drop_zero]
      iterate 5 (refine e_plain rfl ?_; apply Exists.intro; refine ⟨fun D hD hK W hW => ?_, ?_⟩; (focus (obtain ⟨x4, y4⟩ := keepB (hD W hW) z4_5 r4_5 c4_5; obtain ⟨x6, y6⟩ := keepB (hD W hW) z6_5 r6_5 c6_5; obtain ⟨x8, y8⟩ := keepB (hD W hW) z8_5 r8_5 c8_5; obtain ⟨x9, y9⟩ := keepB (hD W hW) z9_5 r9_5 c9_5; obtain ⟨x10, y10⟩ := keepB (hD W hW) z10_5 r10_5 c10_5; unfold Oper.quietAt; go_simp; first | done | rfl)); simp only [Act.put, List.setIfInBounds_toArray, List.set_cons_zero, List.set_cons_succ])
      (refine e_plain rfl ?_; apply Exists.intro; refine ⟨fun D hD hK W hW => ?_, ?_⟩; (focus (obtain ⟨x4, y4⟩ := keepB (hD W hW) z4_5 r4_5 c4_5; obtain ⟨x6, y6⟩ := keepB (hD W hW) z6_5 r6_5 c6_5; obtain ⟨x8, y8⟩ := keepB (hD W hW) z8_5 r8_5 c8_5; obtain ⟨x9, y9⟩ := keepB (hD W hW) z9_5 r9_5 c9_5; obtain ⟨x10, y10⟩ := keepB (hD W hW) z10_5 r10_5 c10_5; unfold Oper.quietAt; go_simp; (go_at_call 124; exact (l01BasisAt k (by omega) _).mono fun e w2 ⟨he, hw2⟩ => ⟨he, hK _ _ hW hw2⟩))); simp only [Act.put, List.setIfInBounds_toArray, List.set_cons_zero, List.set_cons_succ])
      (refine e_plain rfl ?_; apply Exists.intro; refine ⟨fun D hD hK W hW => ?_, ?_⟩; (focus (obtain ⟨x4, y4⟩ := keepB (hD W hW) z4_5 r4_5 c4_5; obtain ⟨x6, y6⟩ := keepB (hD W hW) z6_5 r6_5 c6_5; obtain ⟨x8, y8⟩ := keepB (hD W hW) z8_5 r8_5 c8_5; obtain ⟨x9, y9⟩ := keepB (hD W hW) z9_5 r9_5 c9_5; obtain ⟨x10, y10⟩ := keepB (hD W hW) z10_5 r10_5 c10_5; unfold Oper.quietAt; go_simp; (go_at_call 85; exact (l01Times_any p n f _ _ _ hp hp' hn (hop_bytes HF.out) HJ.out (ebas_bytes k)).mono fun e w2 ⟨he, hw2⟩ => ⟨he, hK _ _ hW hw2⟩))); simp only [Act.put, List.setIfInBounds_toArray, List.set_cons_zero, List.set_cons_succ])
      refine e_nil ?_
      intro a6 W6 hW6
      obtain ⟨hw6, hl6, m1_6, m2_6⟩ := hW6
      have n4_14 : (w.heap.size) ≠ (a6) := by have := z4_5; omega
      have n14_4 : (a6) ≠ (w.heap.size) := by have := z4_5; omega
      have n6_14 : (w.heap.size + 1) ≠ (a6) := by have := z6_5; omega
      have n14_6 : (a6) ≠ (w.heap.size + 1) := by have := z6_5; omega
      have n8_14 : (w.heap.size + 2) ≠ (a6) := by have := z8_5; omega
      have n14_8 : (a6) ≠ (w.heap.size + 2) := by have := z8_5; omega
      have n9_14 : (W2.heap.size) ≠ (a6) := by have := z9_5; omega
      have n14_9 : (a6) ≠ (W2.heap.size) := by have := z9_5; omega
      have n10_14 : (W2.heap.size + 1) ≠ (a6) := by have := z10_5; omega
      have n14_10 : (a6) ≠ (W2.heap.size + 1) := by have := z10_5; omega
      obtain ⟨r4_6, c4_6, z4_6⟩ := keepZ hw6 z4_5 r4_5 c4_5
      obtain ⟨r6_6, c6_6, z6_6⟩ := keepZ hw6 z6_5 r6_5 c6_5
      obtain ⟨r8_6, c8_6, z8_6⟩ := keepZ hw6 z8_5 r8_5 c8_5
      obtain ⟨r9_6, c9_6, z9_6⟩ := keepZ hw6 z9_5 r9_5 c9_5
      obtain ⟨r10_6, c10_6, z10_6⟩ := keepZ hw6 z10_5 r10_5 c10_5
      obtain ⟨hb6, q6⟩ := bN hb5 hw6
      clear hw6 r4_5 c4_5 z4_5 r6_5 c6_5 z6_5 r8_5 c8_5 z8_5 r9_5 c9_5 z9_5 r10_5 c10_5 z10_5 hb5
      have z14_6 := isRow_lt m1_6
      simp only [Act.put, List.setIfInBounds_toArray, List.set_cons_zero, List.set_cons_succ]
      go_wp2_with fail
      refine atomC fun W7 e7 => ?_
      have hb7 : Below w.heap.size w W7 := by rw [e7]; exact bt
      have q7 := hb7.size
      have R7 : IsRow W7 (w.heap.size) ∧ IsRow W7 (w.heap.size + 1) ∧ IsRow W7 (w.heap.size + 2) ∧ IsRow W7 (W2.heap.size) ∧ IsRow W7 (W2.heap.size + 1) := by rw [e7]; simp [go_sem, r4_6, c4_6, n4_9, n4_10, n4_14, r6_6, c6_6, n6_9, n6_10, n6_14, r8_6, c8_6, n8_9, n8_10, n8_14, r9_6, c9_6, n9_4, n9_6, n9_8, n9_14, r10_6, c10_6, n10_4, n10_6, n10_8, n10_14, m1_6]
      obtain ⟨r4_7, r6_7, r8_7, r9_7, r10_7⟩ := R7
      have C7 := (⟨congrArg (blk · (w.heap.size)) e7, congrArg (blk · (w.heap.size + 1)) e7, congrArg (blk · (w.heap.size + 2)) e7, congrArg (blk · (W2.heap.size)) e7, congrArg (blk · (W2.heap.size + 1)) e7⟩ : _ ∧ _ ∧ _ ∧ _ ∧ _); simp [go_sem, r4_6, c4_6, n4_9, n4_10, n4_14, r6_6, c6_6, n6_9, n6_10, n6_14, r8_6, c8_6, n8_9, n8_10, n8_14, r9_6, c9_6, n9_4, n9_6, n9_8, n9_14, r10_6, c10_6, n10_4, n10_6, n10_8, n10_14, m1_6] at C7
      obtain ⟨c4_7, c6_7, c8_7, c9_7, c10_7⟩ := C7
      have z4_7 := isRow_lt r4_7; have z6_7 := isRow_lt r6_7; have z8_7 := isRow_lt r8_7; have z9_7 := isRow_lt r9_7; have z10_7 := isRow_lt r10_7
      clear e7 r4_6 c4_6 z4_6 r6_6 c6_6 z6_6 r8_6 c8_6 z8_6 r9_6 c9_6 z9_6 r10_6 c10_6 z10_6 hb6
      refine (l01Add_any _ _ _ (ownF p n f S false j k) _ hp hp' (by omega) (by omega) HX.out HW.out).mono ?_; rintro _ W8 ⟨rfl, hw8⟩
      obtain ⟨r4_8, c4_8, z4_8⟩ := keepZ hw8 z4_7 r4_7 c4_7
      obtain ⟨r6_8, c6_8, z6_8⟩ := keepZ hw8 z6_7 r6_7 c6_7
      obtain ⟨r8_8, c8_8, z8_8⟩ := keepZ hw8 z8_7 r8_7 c8_7
      obtain ⟨r9_8, c9_8, z9_8⟩ := keepZ hw8 z9_7 r9_7 c9_7
      obtain ⟨r10_8, c10_8, z10_8⟩ := keepZ hw8 z10_7 r10_7 c10_7
      obtain ⟨hb8, q8⟩ := bN hb7 hw8
      clear hw8 r4_7 c4_7 z4_7 r6_7 c6_7 z6_7 r8_7 c8_7 z8_7 r9_7 c9_7 z9_7 r10_7 c10_7 z10_7 hb7
      go_wp2
      go_roundw
      case rel => exact ⟨k + 1, by omega, by go_num, bt, ⟨by simp [go_sem, r4_8, c4_8, n4_9, n4_10, r6_8, c6_8, n6_9, n6_10, r8_8, c8_8, n8_9, n8_10, r9_8, c9_8, n9_4, n9_6, n9_8, r10_8, c10_8, n10_4, n10_6, n10_8], (by rw [E4_5.out]; first | exact c4_8 | (simp [go_sem, r4_8, c4_8, n4_9, n4_10, r6_8, c6_8, n6_9, n6_10, r8_8, c8_8, n8_9, n8_10, r9_8, c9_8, n9_4, n9_6, n9_8, r10_8, c10_8, n10_4, n10_6, n10_8]; done))⟩, ⟨by simp [go_sem, r4_8, c4_8, n4_9, n4_10, r6_8, c6_8, n6_9, n6_10, r8_8, c8_8, n8_9, n8_10, r9_8, c9_8, n9_4, n9_6, n9_8, r10_8, c10_8, n10_4, n10_6, n10_8], (by rw [E6_5.out]; first | exact c6_8 | (simp [go_sem, r4_8, c4_8, n4_9, n4_10, r6_8, c6_8, n6_9, n6_10, r8_8, c8_8, n8_9, n8_10, r9_8, c9_8, n9_4, n9_6, n9_8, r10_8, c10_8, n10_4, n10_6, n10_8]; done))⟩, ⟨by simp [go_sem, r4_8, c4_8, n4_9, n4_10, r6_8, c6_8, n6_9, n6_10, r8_8, c8_8, n8_9, n8_10, r9_8, c9_8, n9_4, n9_6, n9_8, r10_8, c10_8, n10_4, n10_6, n10_8], (by rw [E8_5.out]; first | exact c8_8 | (simp [go_sem, r4_8, c4_8, n4_9, n4_10, r6_8, c6_8, n6_9, n6_10, r8_8, c8_8, n8_9, n8_10, r9_8, c9_8, n9_4, n9_6, n9_8, r10_8, c10_8, n10_4, n10_6, n10_8]; done))⟩, ⟨by simp [go_sem, r4_8, c4_8, n4_9, n4_10, r6_8, c6_8, n6_9, n6_10, r8_8, c8_8, n8_9, n8_10, r9_8, c9_8, n9_4, n9_6, n9_8, r10_8, c10_8, n10_4, n10_6, n10_8], (by first | (rw [blk_setRow _ _ _ _ r9_8, if_pos rfl]; exact fd_step p n f S false i j k) | exact (c9_8).trans (fd_step p n f S false i j k) | (simp [go_sem, r4_8, c4_8, n4_9, n4_10, r6_8, c6_8, n6_9, n6_10, r8_8, c8_8, n8_9, n8_10, r9_8, c9_8, n9_4, n9_6, n9_8, r10_8, c10_8, n10_4, n10_6, n10_8]; exact fd_step p n f S false i j k))⟩, ⟨by simp [go_sem, r4_8, c4_8, n4_9, n4_10, r6_8, c6_8, n6_9, n6_10, r8_8, c8_8, n8_9, n8_10, r9_8, c9_8, n9_4, n9_6, n9_8, r10_8, c10_8, n10_4, n10_6, n10_8], (by rw [E10_5.out]; first | exact c10_8 | (simp [go_sem, r4_8, c4_8, n4_9, n4_10, r6_8, c6_8, n6_9, n6_10, r8_8, c8_8, n8_9, n8_10, r9_8, c9_8, n9_4, n9_6, n9_8, r10_8, c10_8, n10_4, n10_6, n10_8]; done))⟩⟩
      case measure => simp [intOf]; try omega
    ·
     obtain rfl : n = k := by omega
     go_wp2
     go_roundw
     case rel => exact ⟨j + 1, by omega, by go_num, bt, ⟨by simp [go_sem, r4_5, c4_5, n4_9, n4_10, r6_5, c6_5, n6_9, n6_10, r8_5, c8_5, n8_9, n8_10, r9_5, c9_5, n9_4, n9_6, n9_8, r10_5, c10_5, n10_4, n10_6, n10_8], (by rw [E4_4.out]; first | exact c4_5 | (simp [go_sem, r4_5, c4_5, n4_9, n4_10, r6_5, c6_5, n6_9, n6_10, r8_5, c8_5, n8_9, n8_10, r9_5, c9_5, n9_4, n9_6, n9_8, r10_5, c10_5, n10_4, n10_6, n10_8]; done))⟩, ⟨by simp [go_sem, r4_5, c4_5, n4_9, n4_10, r6_5, c6_5, n6_9, n6_10, r8_5, c8_5, n8_9, n8_10, r9_5, c9_5, n9_4, n9_6, n9_8, r10_5, c10_5, n10_4, n10_6, n10_8], (by rw [E6_4.out]; first | exact c6_5 | (simp [go_sem, r4_5, c4_5, n4_9, n4_10, r6_5, c6_5, n6_9, n6_10, r8_5, c8_5, n8_9, n8_10, r9_5, c9_5, n9_4, n9_6, n9_8, r10_5, c10_5, n10_4, n10_6, n10_8]; done))⟩, ⟨by simp [go_sem, r4_5, c4_5, n4_9, n4_10, r6_5, c6_5, n6_9, n6_10, r8_5, c8_5, n8_9, n8_10, r9_5, c9_5, n9_4, n9_6, n9_8, r10_5, c10_5, n10_4, n10_6, n10_8], (by rw [E8_4.out]; first | exact c8_5 | (simp [go_sem, r4_5, c4_5, n4_9, n4_10, r6_5, c6_5, n6_9, n6_10, r8_5, c8_5, n8_9, n8_10, r9_5, c9_5, n9_4, n9_6, n9_8, r10_5, c10_5, n10_4, n10_6, n10_8]; done))⟩, ⟨by simp [go_sem, r4_5, c4_5, n4_9, n4_10, r6_5, c6_5, n6_9, n6_10, r8_5, c8_5, n8_9, n8_10, r9_5, c9_5, n9_4, n9_6, n9_8, r10_5, c10_5, n10_4, n10_6, n10_8], (by first | exact (c9_5).trans (fd_row p n f S false i j) | (simp [go_sem, r4_5, c4_5, n4_9, n4_10, r6_5, c6_5, n6_9, n6_10, r8_5, c8_5, n8_9, n8_10, r9_5, c9_5, n9_4, n9_6, n9_8, r10_5, c10_5, n10_4, n10_6, n10_8]; exact fd_row p n f S false i j))⟩, ⟨by simp [go_sem, r4_5, c4_5, n4_9, n4_10, r6_5, c6_5, n6_9, n6_10, r8_5, c8_5, n8_9, n8_10, r9_5, c9_5, n9_4, n9_6, n9_8, r10_5, c10_5, n10_4, n10_6, n10_8], (by rw [E10_4.out]; first | exact c10_5 | (simp [go_sem, r4_5, c4_5, n4_9, n4_10, r6_5, c6_5, n6_9, n6_10, r8_5, c8_5, n8_9, n8_10, r9_5, c9_5, n9_4, n9_6, n9_8, r10_5, c10_5, n10_4, n10_6, n10_8]; done))⟩⟩
     case measure => simp [intOf]; try omega
  ·
   obtain rfl : n = j := by omega
   go_wp2_with fail
   refine bodyPost_ret (result_cell rfl aggVec _ _ (row 8 (fdK p n f S false i n 0)) _ rfl ?_ ?_) rfl ⟨rfl, ?_⟩
   · simp [go_sem, r4_4, c4_4, n4_9, n4_10, r6_4, c6_4, n6_9, n6_10, r8_4, c8_4, n8_9, n8_10, r9_4, c9_4, n9_4, n9_6, n9_8, r10_4, c10_4, n10_4, n10_6, n10_8]
   · simp [go_sem, r4_4, c4_4, n4_9, n4_10, r6_4, c6_4, n6_9, n6_10, r8_4, c8_4, n8_9, n8_10, r9_4, c9_4, n9_4, n9_6, n9_8, r10_4, c10_4, n10_4, n10_6, n10_8]
   · exact bt

set_option maxRecDepth 100000 in
set_option maxHeartbeats 4000000 in
theorem l03Folded_true (p : Int) (n : Nat) (f S : Nat → Int) (i : Nat) (w : World) (hp : 0 < p) (hp' : p ≤ 255) (hn : n ≤ 8) (hi : i < 8) (hF : Bytes 1104 f) (hS : Bytes 64 S) :
    Calls Tryz.prog 153 #[.agg (hop p n f), .int .i64 i, .agg (row 64 S), .bool true] w fun e w' => e = .returned (.agg (row 8 (fdK p n f S true i n 0))) ∧ Below w.heap.size w w' := by
 have HF := Lib.hid hF; clear hF
 have HS := Lib.hid hS; clear hS
 have xi : (i : Int) < 8 := by omega
 go_enter Tryz.func153, Tryz.ntmps153
 go_wp2_with fail
 refine atomC fun W1 e1 => ?_
 have hb1 : Below w.heap.size w W1 := by rw [e1]; exact bt
 have q1 := hb1.size
 have R1 : IsRow W1 (w.heap.size) ∧ IsRow W1 (w.heap.size + 1) ∧ IsRow W1 (w.heap.size + 2) := by rw [e1]; simp [go_sem]
 obtain ⟨r4_1, r6_1, r8_1⟩ := R1
 have C1 := (⟨congrArg (blk · (w.heap.size)) e1, congrArg (blk · (w.heap.size + 1)) e1, congrArg (blk · (w.heap.size + 2)) e1⟩ : _ ∧ _ ∧ _); simp [go_sem] at C1
 obtain ⟨c4_1, c6_1, c8_1⟩ := C1
 have z4_1 := isRow_lt r4_1; have z6_1 := isRow_lt r6_1; have z8_1 := isRow_lt r8_1
 clear e1
 refine (l03Algebra_any _ _ _ _).mono ?_; rintro _ W2 ⟨rfl, hw2⟩
 obtain ⟨r4_2, c4_2, z4_2⟩ := keepZ hw2 z4_1 r4_1 c4_1
 obtain ⟨r6_2, c6_2, z6_2⟩ := keepZ hw2 z6_1 r6_1 c6_1
 obtain ⟨r8_2, c8_2, z8_2⟩ := keepZ hw2 z8_1 r8_1 c8_1
 obtain ⟨hb2, q2⟩ := bN hb1 hw2
 clear hw2 r4_1 c4_1 z4_1 r6_1 c6_1 z6_1 r8_1 c8_1 z8_1 hb1
 go_wp2
 have nw4_W2_0 : (w.heap.size) ≠ W2.heap.size := by omega
 have nw4_W2_1 : (w.heap.size) ≠ W2.heap.size + 1 := by omega
 have nw6_W2_0 : (w.heap.size + 1) ≠ W2.heap.size := by omega
 have nw6_W2_1 : (w.heap.size + 1) ≠ W2.heap.size + 1 := by omega
 have nw8_W2_0 : (w.heap.size + 2) ≠ W2.heap.size := by omega
 have nw8_W2_1 : (w.heap.size + 2) ≠ W2.heap.size + 1 := by omega
 refine atomW fun W3 e3 => ?_
 have hb3 : Below w.heap.size w W3 := by rw [e3]; exact bt
 have q3 := hb3.size
 have R3 : IsRow W3 (w.heap.size) ∧ IsRow W3 (w.heap.size + 1) ∧ IsRow W3 (w.heap.size + 2) ∧ IsRow W3 (W2.heap.size) ∧ IsRow W3 (W2.heap.size + 1) := by rw [e3]; simp [go_sem, r4_2, c4_2, r6_2, c6_2, r8_2, c8_2, nw4_W2_0, nw4_W2_1, nw6_W2_0, nw6_W2_1, nw8_W2_0, nw8_W2_1]
 obtain ⟨r4_3, r6_3, r8_3, r9_3, r10_3⟩ := R3
 have C3 := (⟨congrArg (blk · (w.heap.size)) e3, congrArg (blk · (w.heap.size + 1)) e3, congrArg (blk · (w.heap.size + 2)) e3, congrArg (blk · (W2.heap.size)) e3, congrArg (blk · (W2.heap.size + 1)) e3⟩ : _ ∧ _ ∧ _ ∧ _ ∧ _); simp [go_sem, r4_2, c4_2, r6_2, c6_2, r8_2, c8_2, nw4_W2_0, nw4_W2_1, nw6_W2_0, nw6_W2_1, nw8_W2_0, nw8_W2_1] at C3
 obtain ⟨c4_3, c6_3, c8_3, c9_3, c10_3⟩ := C3
 have z4_3 := isRow_lt r4_3; have z6_3 := isRow_lt r6_3; have z8_3 := isRow_lt r8_3; have z9_3 := isRow_lt r9_3; have z10_3 := isRow_lt r10_3
 have n4_9 : (w.heap.size) ≠ (W2.heap.size) := by omega
 have n4_10 : (w.heap.size) ≠ (W2.heap.size + 1) := by omega
 have n6_9 : (w.heap.size + 1) ≠ (W2.heap.size) := by omega
 have n6_10 : (w.heap.size + 1) ≠ (W2.heap.size + 1) := by omega
 have n8_9 : (w.heap.size + 2) ≠ (W2.heap.size) := by omega
 have n8_10 : (w.heap.size + 2) ≠ (W2.heap.size + 1) := by omega
 have n9_4 : (W2.heap.size) ≠ (w.heap.size) := by omega
 have n9_6 : (W2.heap.size) ≠ (w.heap.size + 1) := by omega
 have n9_8 : (W2.heap.size) ≠ (w.heap.size + 2) := by omega
 have n10_4 : (W2.heap.size + 1) ≠ (w.heap.size) := by omega
 have n10_6 : (W2.heap.size + 1) ≠ (w.heap.size + 1) := by omega
 have n10_8 : (W2.heap.size + 1) ≠ (w.heap.size + 2) := by omega
 clear e3 nw4_W2_0 nw4_W2_1 nw6_W2_0 nw6_W2_1 nw8_W2_0 nw8_W2_1 r4_2 c4_2 z4_2 r6_2 c6_2 z6_2 r8_2 c8_2 z8_2 hb2
 go_loopw [11] (fun s11 wr => ∃ j : Nat, j ≤ n ∧ s11 = .int .i64 j ∧ Below w.heap.size w wr ∧ (IsRow wr (w.heap.size) ∧ blk wr (w.heap.size) = blk W3 (w.heap.size)) ∧ (IsRow wr (w.heap.size + 1) ∧ blk wr (w.heap.size + 1) = blk W3 (w.heap.size + 1)) ∧ (IsRow wr (w.heap.size + 2) ∧ blk wr (w.heap.size + 2) = blk W3 (w.heap.size + 2)) ∧ (IsRow wr (W2.heap.size) ∧ blk wr (W2.heap.size) = row 8 (fdK p n f S true i j 0)) ∧ (IsRow wr (W2.heap.size + 1) ∧ blk wr (W2.heap.size + 1) = blk W3 (W2.heap.size + 1))) (fun s11 _ => n - (intOf s11).toNat)
 case atStart => exact ⟨0, by omega, rfl, hb3, ⟨r4_3, rfl⟩, ⟨r6_3, rfl⟩, ⟨r8_3, rfl⟩, ⟨r9_3, c9_3.trans (fd_zero p n f S true i)⟩, ⟨r10_3, rfl⟩⟩
 case round =>
  obtain ⟨j, hle4, rfl, hb4, ⟨r4_4, c4_4⟩, ⟨r6_4, c6_4⟩, ⟨r8_4, c8_4⟩, ⟨r9_4, c9_4⟩, ⟨r10_4, c10_4⟩⟩ := hrel
  obtain ⟨W4, rfl⟩ : ∃ W4 : World, W4 = wr := ⟨_, rfl⟩
  have q4 := hb4.size
  have E4_4 := Lib.hid c4_3; replace c4_4 := c4_4.trans c4_3
  have z4_4 := isRow_lt r4_4
  have E6_4 := Lib.hid c6_3; replace c6_4 := c6_4.trans c6_3
  have z6_4 := isRow_lt r6_4
  have E8_4 := Lib.hid c8_3; replace c8_4 := c8_4.trans c8_3
  have z8_4 := isRow_lt r8_4
  have z9_4 := isRow_lt r9_4
  have E10_4 := Lib.hid c10_3; replace c10_4 := c10_4.trans c10_3
  have z10_4 := isRow_lt r10_4
  clear r4_3 c4_3 z4_3 r6_3 c6_3 z6_3 r8_3 c8_3 z8_3 r9_3 c9_3 z9_3 r10_3 c10_3 z10_3 hb3
  by_cases hlt4 : j < n
  ·
   have i0_4 : (0 : Int) ≤ (j : Int) := by omega
   have i8_4 : (j : Int) < 8 := by omega
   have k8_4 : j < 8 := by omega
   have m8_4 : j * 8 + 8 ≤ 64 := by omega
   have m64_4 : j * 64 + 64 ≤ 512 := by omega
   have l1_4 : 10 + j * 64 + 64 ≤ 522 := by omega
   go_wp2
   go_loopw [12] (fun s12 wr => ∃ k : Nat, k ≤ n ∧ s12 = .int .i64 k ∧ Below w.heap.size w wr ∧ (IsRow wr (w.heap.size) ∧ blk wr (w.heap.size) = blk W4 (w.heap.size)) ∧ (IsRow wr (w.heap.size + 1) ∧ blk wr (w.heap.size + 1) = blk W4 (w.heap.size + 1)) ∧ (IsRow wr (w.heap.size + 2) ∧ blk wr (w.heap.size + 2) = blk W4 (w.heap.size + 2)) ∧ (IsRow wr (W2.heap.size) ∧ blk wr (W2.heap.size) = row 8 (fdK p n f S true i j k)) ∧ (IsRow wr (W2.heap.size + 1) ∧ blk wr (W2.heap.size + 1) = blk W4 (W2.heap.size + 1))) (fun s12 _ => n - (intOf s12).toNat)
   case atStart => exact ⟨0, by omega, rfl, hb4, ⟨r4_4, rfl⟩, ⟨r6_4, rfl⟩, ⟨r8_4, rfl⟩, ⟨r9_4, c9_4⟩, ⟨r10_4, rfl⟩⟩
   case round =>
    obtain ⟨k, hle5, rfl, hb5, ⟨r4_5, c4_5⟩, ⟨r6_5, c6_5⟩, ⟨r8_5, c8_5⟩, ⟨r9_5, c9_5⟩, ⟨r10_5, c10_5⟩⟩ := hrel
    obtain ⟨W5, rfl⟩ : ∃ W5 : World, W5 = wr := ⟨_, rfl⟩
    have q5 := hb5.size
    have E4_5 := Lib.hid c4_4; replace c4_5 := c4_5.trans c4_4
    have z4_5 := isRow_lt r4_5
    have E6_5 := Lib.hid c6_4; replace c6_5 := c6_5.trans c6_4
    have z6_5 := isRow_lt r6_5
    have E8_5 := Lib.hid c8_4; replace c8_5 := c8_5.trans c8_4
    have z8_5 := isRow_lt r8_5
    have z9_5 := isRow_lt r9_5
    have E10_5 := Lib.hid c10_4; replace c10_5 := c10_5.trans c10_4
    have z10_5 := isRow_lt r10_5
    clear r4_4 c4_4 z4_4 r6_4 c6_4 z6_4 r8_4 c8_4 z8_4 r9_4 c9_4 z9_4 r10_4 c10_4 z10_4 hb4
    by_cases hlt5 : k < n
    ·
     have i0_5 : (0 : Int) ≤ (k : Int) := by omega
     have i8_5 : (k : Int) < 8 := by omega
     have k8_5 : k < 8 := by omega
     have m8_5 : k * 8 + 8 ≤ 64 := by omega
     have m64_5 : k * 64 + 64 ≤ 512 := by omega
     have l1_5 : 10 + k * 64 + 64 ≤ 522 := by omega
     have l2_5j : 10 + j * 64 + k * 8 + 8 ≤ 522 := by omega
     have l3_5j : 10 + k * 64 + j * 8 + 8 ≤ 522 := by omega
     have l4_5j : j * 64 + k * 8 + 8 ≤ 512 := by omega
     have l5_5j : k * 64 + j * 8 + 8 ≤ 512 := by omega
     have l6_5j : j * 8 + k < 64 := by omega
     have l7_5j : k * 8 + j < 64 := by omega
     by_cases hk : mtab (coF f) i j k = 0
     ·
      have e9 := hop_come p n f i j k (by omega) (by omega) (by omega)
      have l9 : 530 + i * 64 + j * 8 + k < 1106 := by omega
      have q1 : IntKind.i64.wrap 0 = 0 := rfl
      go_wp2
      go_roundw
      case rel => exact ⟨k + 1, by omega, by go_num, bt, ⟨by simp [go_sem, r4_5, c4_5, n4_9, n4_10, r6_5, c6_5, n6_9, n6_10, r8_5, c8_5, n8_9, n8_10, r9_5, c9_5, n9_4, n9_6, n9_8, r10_5, c10_5, n10_4, n10_6, n10_8], (by rw [E4_5.out]; first | exact c4_5 | (simp [go_sem, r4_5, c4_5, n4_9, n4_10, r6_5, c6_5, n6_9, n6_10, r8_5, c8_5, n8_9, n8_10, r9_5, c9_5, n9_4, n9_6, n9_8, r10_5, c10_5, n10_4, n10_6, n10_8]; done))⟩, ⟨by simp [go_sem, r4_5, c4_5, n4_9, n4_10, r6_5, c6_5, n6_9, n6_10, r8_5, c8_5, n8_9, n8_10, r9_5, c9_5, n9_4, n9_6, n9_8, r10_5, c10_5, n10_4, n10_6, n10_8], (by rw [E6_5.out]; first | exact c6_5 | (simp [go_sem, r4_5, c4_5, n4_9, n4_10, r6_5, c6_5, n6_9, n6_10, r8_5, c8_5, n8_9, n8_10, r9_5, c9_5, n9_4, n9_6, n9_8, r10_5, c10_5, n10_4, n10_6, n10_8]; done))⟩, ⟨by simp [go_sem, r4_5, c4_5, n4_9, n4_10, r6_5, c6_5, n6_9, n6_10, r8_5, c8_5, n8_9, n8_10, r9_5, c9_5, n9_4, n9_6, n9_8, r10_5, c10_5, n10_4, n10_6, n10_8], (by rw [E8_5.out]; first | exact c8_5 | (simp [go_sem, r4_5, c4_5, n4_9, n4_10, r6_5, c6_5, n6_9, n6_10, r8_5, c8_5, n8_9, n8_10, r9_5, c9_5, n9_4, n9_6, n9_8, r10_5, c10_5, n10_4, n10_6, n10_8]; done))⟩, ⟨by simp [go_sem, r4_5, c4_5, n4_9, n4_10, r6_5, c6_5, n6_9, n6_10, r8_5, c8_5, n8_9, n8_10, r9_5, c9_5, n9_4, n9_6, n9_8, r10_5, c10_5, n10_4, n10_6, n10_8], (by first | exact (c9_5).trans (fd_skip p n f S true i j k hk) | (simp [go_sem, r4_5, c4_5, n4_9, n4_10, r6_5, c6_5, n6_9, n6_10, r8_5, c8_5, n8_9, n8_10, r9_5, c9_5, n9_4, n9_6, n9_8, r10_5, c10_5, n10_4, n10_6, n10_8]; exact fd_skip p n f S true i j k hk))⟩, ⟨by simp [go_sem, r4_5, c4_5, n4_9, n4_10, r6_5, c6_5, n6_9, n6_10, r8_5, c8_5, n8_9, n8_10, r9_5, c9_5, n9_4, n9_6, n9_8, r10_5, c10_5, n10_4, n10_6, n10_8], (by rw [E10_5.out]; first | exact c10_5 | (simp [go_sem, r4_5, c4_5, n4_9, n4_10, r6_5, c6_5, n6_9, n6_10, r8_5, c8_5, n8_9, n8_10, r9_5, c9_5, n9_4, n9_6, n9_8, r10_5, c10_5, n10_4, n10_6, n10_8]; done))⟩⟩
      case measure => simp [intOf]; try omega
     ·
      have e9 := hop_come p n f i j k (by omega) (by omega) (by omega)
      have l9 : 530 + i * 64 + j * 8 + k < 1106 := by omega
      have b1 := (mtab_range (co_bytes HF.out) i j k (by omega) (by omega) (by omega)).1; have b2 := (mtab_range (co_bytes HF.out) i j k (by omega) (by omega) (by omega)).2
      have q1 : IntKind.i64.wrap (mtab (coF f) i j k) = mtab (coF f) i j k := IntWalk.i64_in _ (by omega)
      have HX : Hid (Bytes 8 (fdK p n f S true i j k)) := Lib.hid (bytes_mod hp hp' _)
      have HJ : Hid (Bytes 8 fun t => S (j * 8 + t)) := Lib.hid (part_bytes HS.out j (by omega))
      have HK : Hid (Bytes 8 fun t => S (k * 8 + t)) := Lib.hid (part_bytes HS.out k (by omega))
      have HW : Hid (Bytes 8 (ownF p n f S true j k)) := Lib.hid (own_bytes hp hp' n f S true j k)
      go_wp2
      refine wp_quiet_alloc 7 _ (.cells (row 8 zf) 32) (Below W5.heap.size W5) (Made W5 (row 8 zf)) (by kernel_rfl) rfl rfl (by kernel_rfl) (fun a W => (xallocVec _ _ _ _ _ _ _).trans (allocVec W)) (closed_below W5) (closed_made W5 _) (fun b W h => h.1) (fun W h => made_new W5 _ _ W h) (Below.refl _ _).drew ?_
      simp only [List.take_succ_cons, List.take_zero, List.drop_succ_cons, List.drop_zero]
      iterate 5 (refine e_plain rfl ?_; apply Exists.intro; refine ⟨fun D hD hK W hW => ?_, ?_⟩; (focus (obtain ⟨x4, y4⟩ := keepB (hD W hW) z4_5 r4_5 c4_5; obtain ⟨x6, y6⟩ := keepB (hD W hW) z6_5 r6_5 c6_5; obtain ⟨x8, y8⟩ := keepB (hD W hW) z8_5 r8_5 c8_5; obtain ⟨x9, y9⟩ := keepB (hD W hW) z9_5 r9_5 c9_5; obtain ⟨x10, y10⟩ := keepB (hD W hW) z10_5 r10_5 c10_5; unfold Oper.quietAt; go_simp; first | done | rfl)); simp only [Act.put, List.setIfInBounds_toArray, List.set_cons_zero, List.set_cons_succ])
      (refine e_plain rfl ?_; apply Exists.intro; refine ⟨fun D hD hK W hW => ?_, ?_⟩; (focus (obtain ⟨x4, y4⟩ := keepB (hD W hW) z4_5 r4_5 c4_5; obtain ⟨x6, y6⟩ := keepB (hD W hW) z6_5 r6_5 c6_5; obtain ⟨x8, y8⟩ := keepB (hD W hW) z8_5 r8_5 c8_5; obtain ⟨x9, y9⟩ := keepB (hD W hW) z9_5 r9_5 c9_5; obtain ⟨x10, y10⟩ := keepB (hD W hW) z10_5 r10_5 c10_5; unfold Oper.quietAt; go_simp; (go_at_call 124; exact (l01BasisAt k (by omega) _).mono fun e w2 ⟨he, hw2⟩ => ⟨he, hK _ _ hW hw2⟩))); simp only [Act.put, List.setIfInBounds_toArray, List.set_cons_zero, List.set_cons_succ])
      (refine e_plain rfl ?_; apply Exists.intro; refine ⟨fun D hD hK W hW => ?_, ?_⟩; (focus (obtain ⟨x4, y4⟩ := keepB (hD W hW) z4_5 r4_5 c4_5; obtain ⟨x6, y6⟩ := keepB (hD W hW) z6_5 r6_5 c6_5; obtain ⟨x8, y8⟩ := keepB (hD W hW) z8_5 r8_5 c8_5; obtain ⟨x9, y9⟩ := keepB (hD W hW) z9_5 r9_5 c9_5; obtain ⟨x10, y10⟩ := keepB (hD W hW) z10_5 r10_5 c10_5; unfold Oper.quietAt; go_simp; (go_at_call 85; exact (l01Times_any p n f _ _ _ hp hp' hn (hop_bytes HF.out) HJ.out (ebas_bytes k)).mono fun e w2 ⟨he, hw2⟩ => ⟨he, hK _ _ hW hw2⟩))); simp only [Act.put, List.setIfInBounds_toArray, List.set_cons_zero, List.set_cons_succ])
      refine e_nil ?_
      intro a6 W6 hW6
      obtain ⟨hw6, hl6, m1_6, m2_6⟩ := hW6
      have n4_14 : (w.heap.size) ≠ (a6) := by have := z4_5; omega
      have n14_4 : (a6) ≠ (w.heap.size) := by have := z4_5; omega
      have n6_14 : (w.heap.size + 1) ≠ (a6) := by have := z6_5; omega
      have n14_6 : (a6) ≠ (w.heap.size + 1) := by have := z6_5; omega
      have n8_14 : (w.heap.size + 2) ≠ (a6) := by have := z8_5; omega
      have n14_8 : (a6) ≠ (w.heap.size + 2) := by have := z8_5; omega
      have n9_14 : (W2.heap.size) ≠ (a6) := by have := z9_5; omega
      have n14_9 : (a6) ≠ (W2.heap.size) := by have := z9_5; omega
      have n10_14 : (W2.heap.size + 1) ≠ (a6) := by have := z10_5; omega
      have n14_10 : (a6) ≠ (W2.heap.size + 1) := by have := z10_5; omega
      obtain ⟨r4_6, c4_6, z4_6⟩ := keepZ hw6 z4_5 r4_5 c4_5
      obtain ⟨r6_6, c6_6, z6_6⟩ := keepZ hw6 z6_5 r6_5 c6_5
      obtain ⟨r8_6, c8_6, z8_6⟩ := keepZ hw6 z8_5 r8_5 c8_5
      obtain ⟨r9_6, c9_6, z9_6⟩ := keepZ hw6 z9_5 r9_5 c9_5
      obtain ⟨r10_6, c10_6, z10_6⟩ := keepZ hw6 z10_5 r10_5 c10_5
      obtain ⟨hb6, q6⟩ := bN hb5 hw6
      clear hw6 r4_5 c4_5 z4_5 r6_5 c6_5 z6_5 r8_5 c8_5 z8_5 r9_5 c9_5 z9_5 r10_5 c10_5 z10_5 hb5
      have z14_6 := isRow_lt m1_6
      simp only [Act.put, List.setIfInBounds_toArray, List.set_cons_zero, List.set_cons_succ]
      go_wp2
      refine atomW fun W7 e7 => ?_
      have hb7 : Below w.heap.size w W7 := by rw [e7]; exact bt
      have q7 := hb7.size
      have R7 : IsRow W7 (w.heap.size) ∧ IsRow W7 (w.heap.size + 1) ∧ IsRow W7 (w.heap.size + 2) ∧ IsRow W7 (W2.heap.size) ∧ IsRow W7 (W2.heap.size + 1) ∧ IsRow W7 (a6) := by rw [e7]; simp [go_sem, r4_6, c4_6, n4_9, n4_10, n4_14, r6_6, c6_6, n6_9, n6_10, n6_14, r8_6, c8_6, n8_9, n8_10, n8_14, r9_6, c9_6, n9_4, n9_6, n9_8, n9_14, r10_6, c10_6, n10_4, n10_6, n10_8, n10_14, m1_6, m2_6, n14_4, n14_6, n14_8, n14_9, n14_10]
      obtain ⟨r4_7, r6_7, r8_7, r9_7, r10_7, r14_7⟩ := R7
      have C7 := (⟨congrArg (blk · (w.heap.size)) e7, congrArg (blk · (w.heap.size + 1)) e7, congrArg (blk · (w.heap.size + 2)) e7, congrArg (blk · (W2.heap.size)) e7, congrArg (blk · (W2.heap.size + 1)) e7, congrArg (blk · (a6)) e7⟩ : _ ∧ _ ∧ _ ∧ _ ∧ _ ∧ _); simp [go_sem, r4_6, c4_6, n4_9, n4_10, n4_14, r6_6, c6_6, n6_9, n6_10, n6_14, r8_6, c8_6, n8_9, n8_10, n8_14, r9_6, c9_6, n9_4, n9_6, n9_8, n9_14, r10_6, c10_6, n10_4, n10_6, n10_8, n10_14, m1_6, m2_6, n14_4, n14_6, n14_8, n14_9, n14_10] at C7
      obtain ⟨c4_7, c6_7, c8_7, c9_7, c10_7, c14_7⟩ := C7
      have z4_7 := isRow_lt r4_7; have z6_7 := isRow_lt r6_7; have z8_7 := isRow_lt r8_7; have z9_7 := isRow_lt r9_7; have z10_7 := isRow_lt r10_7; have z14_7 := isRow_lt r14_7
      clear e7 r4_6 c4_6 z4_6 r6_6 c6_6 z6_6 r8_6 c8_6 z8_6 r9_6 c9_6 z9_6 r10_6 c10_6 z10_6 m1_6 m2_6 z14_6 hb6
      refine wp_quiet_tail 7 (Below W7.heap.size W7) (by kernel_rfl) (by kernel_rfl) (Below.refl _ _).drew ?_
      simp only [List.take_succ_cons, List.take_zero, List.drop_succ_cons, List.drop_zero]
      iterate 2 (refine q_plain rfl ?_; apply Exists.intro; refine ⟨fun W hW => ?_, ?_⟩; (focus (obtain ⟨x4, y4⟩ := keepB hW z4_7 r4_7 c4_7; obtain ⟨x6, y6⟩ := keepB hW z6_7 r6_7 c6_7; obtain ⟨x8, y8⟩ := keepB hW z8_7 r8_7 c8_7; obtain ⟨x9, y9⟩ := keepB hW z9_7 r9_7 c9_7; obtain ⟨x10, y10⟩ := keepB hW z10_7 r10_7 c10_7; obtain ⟨x14, y14⟩ := keepB hW z14_7 r14_7 c14_7; go_simp; first | done | rfl)); simp only [Act.put, List.setIfInBounds_toArray, List.set_cons_zero, List.set_cons_succ])
      (refine q_plain rfl ?_; apply Exists.intro; refine ⟨fun W hW => ?_, ?_⟩; (focus (obtain ⟨x4, y4⟩ := keepB hW z4_7 r4_7 c4_7; obtain ⟨x6, y6⟩ := keepB hW z6_7 r6_7 c6_7; obtain ⟨x8, y8⟩ := keepB hW z8_7 r8_7 c8_7; obtain ⟨x9, y9⟩ := keepB hW z9_7 r9_7 c9_7; obtain ⟨x10, y10⟩ := keepB hW z10_7 r10_7 c10_7; obtain ⟨x14, y14⟩ := keepB hW z14_7 r14_7 c14_7; go_simp; (go_at_call 124; exact (l01BasisAt j (by omega) _).mono fun e w2 ⟨he, hw2⟩ => ⟨he, hW.trans (hw2.mono hW.size)⟩))); simp only [Act.put, List.setIfInBounds_toArray, List.set_cons_zero, List.set_cons_succ])
      iterate 3 (refine q_plain rfl ?_; apply Exists.intro; refine ⟨fun W hW => ?_, ?_⟩; (focus (obtain ⟨x4, y4⟩ := keepB hW z4_7 r4_7 c4_7; obtain ⟨x6, y6⟩ := keepB hW z6_7 r6_7 c6_7; obtain ⟨x8, y8⟩ := keepB hW z8_7 r8_7 c8_7; obtain ⟨x9, y9⟩ := keepB hW z9_7 r9_7 c9_7; obtain ⟨x10, y10⟩ := keepB hW z10_7 r10_7 c10_7; obtain ⟨x14, y14⟩ := keepB hW z14_7 r14_7 c14_7; go_simp; first | done | rfl)); simp only [Act.put, List.setIfInBounds_toArray, List.set_cons_zero, List.set_cons_succ])
      (refine q_plain rfl ?_; apply Exists.intro; refine ⟨fun W hW => ?_, ?_⟩; (focus (obtain ⟨x4, y4⟩ := keepB hW z4_7 r4_7 c4_7; obtain ⟨x6, y6⟩ := keepB hW z6_7 r6_7 c6_7; obtain ⟨x8, y8⟩ := keepB hW z8_7 r8_7 c8_7; obtain ⟨x9, y9⟩ := keepB hW z9_7 r9_7 c9_7; obtain ⟨x10, y10⟩ := keepB hW z10_7 r10_7 c10_7; obtain ⟨x14, y14⟩ := keepB hW z14_7 r14_7 c14_7; go_simp; (go_at_call 85; exact (l01Times_any p n f _ _ _ hp hp' hn (hop_bytes HF.out) (ebas_bytes j) HK.out).mono fun e w2 ⟨he, hw2⟩ => ⟨he, hW.trans (hw2.mono hW.size)⟩))); simp only [Act.put, List.setIfInBounds_toArray, List.set_cons_zero, List.set_cons_succ])
      refine wpQuiet_nil ?_
      intro W8 hw8
      obtain ⟨r4_8, c4_8, z4_8⟩ := keepZ hw8 z4_7 r4_7 c4_7
      obtain ⟨r6_8, c6_8, z6_8⟩ := keepZ hw8 z6_7 r6_7 c6_7
      obtain ⟨r8_8, c8_8, z8_8⟩ := keepZ hw8 z8_7 r8_7 c8_7
      obtain ⟨r9_8, c9_8, z9_8⟩ := keepZ hw8 z9_7 r9_7 c9_7
      obtain ⟨r10_8, c10_8, z10_8⟩ := keepZ hw8 z10_7 r10_7 c10_7
      obtain ⟨r14_8, c14_8, z14_8⟩ := keepZ hw8 z14_7 r14_7 c14_7
      obtain ⟨hb8, q8⟩ := bN hb7 hw8
      clear hw8 r4_7 c4_7 z4_7 r6_7 c6_7 z6_7 r8_7 c8_7 z8_7 r9_7 c9_7 z9_7 r10_7 c10_7 z10_7 r14_7 c14_7 z14_7 hb7
      go_wp2_with fail
      refine atomC fun W9 e9 => ?_
      have hb9 : Below w.heap.size w W9 := by rw [e9]; exact bt
      have q9 := hb9.size
      have R9 : IsRow W9 (w.heap.size) ∧ IsRow W9 (w.heap.size + 1) ∧ IsRow W9 (w.heap.size + 2) ∧ IsRow W9 (W2.heap.size) ∧ IsRow W9 (W2.heap.size + 1) := by rw [e9]; simp [go_sem, r4_8, c4_8, n4_9, n4_10, n4_14, r6_8, c6_8, n6_9, n6_10, n6_14, r8_8, c8_8, n8_9, n8_10, n8_14, r9_8, c9_8, n9_4, n9_6, n9_8, n9_14, r10_8, c10_8, n10_4, n10_6, n10_8, n10_14, r14_8]
      obtain ⟨r4_9, r6_9, r8_9, r9_9, r10_9⟩ := R9
      have C9 := (⟨congrArg (blk · (w.heap.size)) e9, congrArg (blk · (w.heap.size + 1)) e9, congrArg (blk · (w.heap.size + 2)) e9, congrArg (blk · (W2.heap.size)) e9, congrArg (blk · (W2.heap.size + 1)) e9⟩ : _ ∧ _ ∧ _ ∧ _ ∧ _); simp [go_sem, r4_8, c4_8, n4_9, n4_10, n4_14, r6_8, c6_8, n6_9, n6_10, n6_14, r8_8, c8_8, n8_9, n8_10, n8_14, r9_8, c9_8, n9_4, n9_6, n9_8, n9_14, r10_8, c10_8, n10_4, n10_6, n10_8, n10_14, r14_8] at C9
      obtain ⟨c4_9, c6_9, c8_9, c9_9, c10_9⟩ := C9
      have z4_9 := isRow_lt r4_9; have z6_9 := isRow_lt r6_9; have z8_9 := isRow_lt r8_9; have z9_9 := isRow_lt r9_9; have z10_9 := isRow_lt r10_9
      clear e9 r4_8 c4_8 z4_8 r6_8 c6_8 z6_8 r8_8 c8_8 z8_8 r9_8 c9_8 z9_8 r10_8 c10_8 z10_8 hb8
      refine (l01Add_any _ _ _ (ownF p n f S true j k) _ hp hp' (by omega) (by omega) HX.out HW.out).mono ?_; rintro _ W10 ⟨rfl, hw10⟩
      obtain ⟨r4_10, c4_10, z4_10⟩ := keepZ hw10 z4_9 r4_9 c4_9
      obtain ⟨r6_10, c6_10, z6_10⟩ := keepZ hw10 z6_9 r6_9 c6_9
      obtain ⟨r8_10, c8_10, z8_10⟩ := keepZ hw10 z8_9 r8_9 c8_9
      obtain ⟨r9_10, c9_10, z9_10⟩ := keepZ hw10 z9_9 r9_9 c9_9
      obtain ⟨r10_10, c10_10, z10_10⟩ := keepZ hw10 z10_9 r10_9 c10_9
      obtain ⟨hb10, q10⟩ := bN hb9 hw10
      clear hw10 r4_9 c4_9 z4_9 r6_9 c6_9 z6_9 r8_9 c8_9 z8_9 r9_9 c9_9 z9_9 r10_9 c10_9 z10_9 hb9
      go_wp2
      go_roundw
      case rel => exact ⟨k + 1, by omega, by go_num, bt, ⟨by simp [go_sem, r4_10, c4_10, n4_9, n4_10, r6_10, c6_10, n6_9, n6_10, r8_10, c8_10, n8_9, n8_10, r9_10, c9_10, n9_4, n9_6, n9_8, r10_10, c10_10, n10_4, n10_6, n10_8], (by rw [E4_5.out]; first | exact c4_10 | (simp [go_sem, r4_10, c4_10, n4_9, n4_10, r6_10, c6_10, n6_9, n6_10, r8_10, c8_10, n8_9, n8_10, r9_10, c9_10, n9_4, n9_6, n9_8, r10_10, c10_10, n10_4, n10_6, n10_8]; done))⟩, ⟨by simp [go_sem, r4_10, c4_10, n4_9, n4_10, r6_10, c6_10, n6_9, n6_10, r8_10, c8_10, n8_9, n8_10, r9_10, c9_10, n9_4, n9_6, n9_8, r10_10, c10_10, n10_4, n10_6, n10_8], (by rw [E6_5.out]; first | exact c6_10 | (simp [go_sem, r4_10, c4_10, n4_9, n4_10, r6_10, c6_10, n6_9, n6_10, r8_10, c8_10, n8_9, n8_10, r9_10, c9_10, n9_4, n9_6, n9_8, r10_10, c10_10, n10_4, n10_6, n10_8]; done))⟩, ⟨by simp [go_sem, r4_10, c4_10, n4_9, n4_10, r6_10, c6_10, n6_9, n6_10, r8_10, c8_10, n8_9, n8_10, r9_10, c9_10, n9_4, n9_6, n9_8, r10_10, c10_10, n10_4, n10_6, n10_8], (by rw [E8_5.out]; first | exact c8_10 | (simp [go_sem, r4_10, c4_10, n4_9, n4_10, r6_10, c6_10, n6_9, n6_10, r8_10, c8_10, n8_9, n8_10, r9_10, c9_10, n9_4, n9_6, n9_8, r10_10, c10_10, n10_4, n10_6, n10_8]; done))⟩, ⟨by simp [go_sem, r4_10, c4_10, n4_9, n4_10, r6_10, c6_10, n6_9, n6_10, r8_10, c8_10, n8_9, n8_10, r9_10, c9_10, n9_4, n9_6, n9_8, r10_10, c10_10, n10_4, n10_6, n10_8], (by first | (rw [blk_setRow _ _ _ _ r9_10, if_pos rfl]; exact fd_step p n f S true i j k) | exact (c9_10).trans (fd_step p n f S true i j k) | (simp [go_sem, r4_10, c4_10, n4_9, n4_10, r6_10, c6_10, n6_9, n6_10, r8_10, c8_10, n8_9, n8_10, r9_10, c9_10, n9_4, n9_6, n9_8, r10_10, c10_10, n10_4, n10_6, n10_8]; exact fd_step p n f S true i j k))⟩, ⟨by simp [go_sem, r4_10, c4_10, n4_9, n4_10, r6_10, c6_10, n6_9, n6_10, r8_10, c8_10, n8_9, n8_10, r9_10, c9_10, n9_4, n9_6, n9_8, r10_10, c10_10, n10_4, n10_6, n10_8], (by rw [E10_5.out]; first | exact c10_10 | (simp [go_sem, r4_10, c4_10, n4_9, n4_10, r6_10, c6_10, n6_9, n6_10, r8_10, c8_10, n8_9, n8_10, r9_10, c9_10, n9_4, n9_6, n9_8, r10_10, c10_10, n10_4, n10_6, n10_8]; done))⟩⟩
      case measure => simp [intOf]; try omega
    ·
     obtain rfl : n = k := by omega
     go_wp2
     go_roundw
     case rel => exact ⟨j + 1, by omega, by go_num, bt, ⟨by simp [go_sem, r4_5, c4_5, n4_9, n4_10, r6_5, c6_5, n6_9, n6_10, r8_5, c8_5, n8_9, n8_10, r9_5, c9_5, n9_4, n9_6, n9_8, r10_5, c10_5, n10_4, n10_6, n10_8], (by rw [E4_4.out]; first | exact c4_5 | (simp [go_sem, r4_5, c4_5, n4_9, n4_10, r6_5, c6_5, n6_9, n6_10, r8_5, c8_5, n8_9, n8_10, r9_5, c9_5, n9_4, n9_6, n9_8, r10_5, c10_5, n10_4, n10_6, n10_8]; done))⟩, ⟨by simp [go_sem, r4_5, c4_5, n4_9, n4_10, r6_5, c6_5, n6_9, n6_10, r8_5, c8_5, n8_9, n8_10, r9_5, c9_5, n9_4, n9_6, n9_8, r10_5, c10_5, n10_4, n10_6, n10_8], (by rw [E6_4.out]; first | exact c6_5 | (simp [go_sem, r4_5, c4_5, n4_9, n4_10, r6_5, c6_5, n6_9, n6_10, r8_5, c8_5, n8_9, n8_10, r9_5, c9_5, n9_4, n9_6, n9_8, r10_5, c10_5, n10_4, n10_6, n10_8]; done))⟩, ⟨by simp [go_sem, r4_5, c4_5, n4_9, n4_10, r6_5, c6_5, n6_9, n6_10, r8_5, c8_5, n8_9, n8_10, r9_5, c9_5, n9_4, n9_6, n9_8, r10_5, c10_5, n10_4, n10_6, n10_8], (by rw [E8_4.out]; first | exact c8_5 | (simp [go_sem, r4_5, c4_5, n4_9, n4_10, r6_5, c6_5, n6_9, n6_10, r8_5, c8_5, n8_9, n8_10, r9_5, c9_5, n9_4, n9_6, n9_8, r10_5, c10_5, n10_4, n10_6, n10_8]; done))⟩, ⟨by simp [go_sem, r4_5, c4_5, n4_9, n4_10, r6_5, c6_5, n6_9, n6_10, r8_5, c8_5, n8_9, n8_10, r9_5, c9_5, n9_4, n9_6, n9_8, r10_5, c10_5, n10_4, n10_6, n10_8], (by first | exact (c9_5).trans (fd_row p n f S true i j) | (simp [go_sem, r4_5, c4_5, n4_9, n4_10, r6_5, c6_5, n6_9, n6_10, r8_5, c8_5, n8_9, n8_10, r9_5, c9_5, n9_4, n9_6, n9_8, r10_5, c10_5, n10_4, n10_6, n10_8]; exact fd_row p n f S true i j))⟩, ⟨by simp [go_sem, r4_5, c4_5, n4_9, n4_10, r6_5, c6_5, n6_9, n6_10, r8_5, c8_5, n8_9, n8_10, r9_5, c9_5, n9_4, n9_6, n9_8, r10_5, c10_5, n10_4, n10_6, n10_8], (by rw [E10_4.out]; first | exact c10_5 | (simp [go_sem, r4_5, c4_5, n4_9, n4_10, r6_5, c6_5, n6_9, n6_10, r8_5, c8_5, n8_9, n8_10, r9_5, c9_5, n9_4, n9_6, n9_8, r10_5, c10_5, n10_4, n10_6, n10_8]; done))⟩⟩
     case measure => simp [intOf]; try omega
  ·
   obtain rfl : n = j := by omega
   go_wp2_with fail
   refine bodyPost_ret (result_cell rfl aggVec _ _ (row 8 (fdK p n f S true i n 0)) _ rfl ?_ ?_) rfl ⟨rfl, ?_⟩
   · simp [go_sem, r4_4, c4_4, n4_9, n4_10, r6_4, c6_4, n6_9, n6_10, r8_4, c8_4, n8_9, n8_10, r9_4, c9_4, n9_4, n9_6, n9_8, r10_4, c10_4, n10_4, n10_6, n10_8]
   · simp [go_sem, r4_4, c4_4, n4_9, n4_10, r6_4, c6_4, n6_9, n6_10, r8_4, c8_4, n8_9, n8_10, r9_4, c9_4, n9_4, n9_6, n9_8, r10_4, c10_4, n10_4, n10_6, n10_8]
   · exact bt
end
end Go.Proofs.YtjmmmggnbndolaaGreat
