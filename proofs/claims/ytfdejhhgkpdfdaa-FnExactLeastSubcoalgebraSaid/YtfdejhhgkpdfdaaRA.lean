/- Hopf algebras as values and as cells: the prime, the size, and 1104 bytes; literals of algebras and coalgebras. What Hopf algebras have of algebras and coalgebras, their shape; pairs of vectors, unit maps, linear maps one after the other. Products of tables of two vectors, convolutions, coproducts and Counits in Hopf algebras, sums of axioms 6 and 7. Products of pairs and the sums of axioms 6 and 7 by the reference model. -/
import Derived.Test.YtfdejhhgkpdfdaaGen
import Derived.Test.YtfdejhhgkpdfdaaQA
import Derived.Test.YtfdejhhgkpdfdaaEqs
import Derived.Test.YtfdejhhgkpdfdaaReg
namespace Go.Proofs.Ytfdejhhgkpdfdaa
section
open Go.RowKit
set_option linter.unusedSimpArgs false
set_option linter.unusedVariables false

/-- the cells of a Hopf algebra: f has the unit at 0..7, the table of products at 8..519, the Counit at 520..527, the coproducts at 528..1039, the antipode behind -/
def hop (p n : Int) (f : Nat → Int) : Array Value := #[.int .i64 p, .int .i64 n] ++ row 1104 f
/-- the Counit and the coproducts, as the cells of a coalgebra -/
def coF (f : Nat → Int) : Nat → Int := fun t => f (520 + t)
/-- the antipode -/
def anF (f : Nat → Int) : Nat → Int := fun t => f (1040 + t)
@[go_sem] theorem hop_size (p n : Int) (f : Nat → Int) : (hop p n f).size = 1106 := by simp [hop, row_size]
@[go_sem] theorem hop_prime (p n : Int) (f : Nat → Int) : (hop p n f)[0]? = some (.int .i64 p) := by unfold hop; rw [Array.getElem?_append]; simp
@[go_sem] theorem hop_len (p n : Int) (f : Nat → Int) : (hop p n f)[1]? = some (.int .i64 n) := by unfold hop; rw [Array.getElem?_append]; simp
@[go_sem] theorem hop_prime' (p n : Int) (f : Nat → Int) (h : 0 < (hop p n f).size) : (hop p n f)[0] = .int .i64 p := by
  have := hop_prime p n f
  rw [Array.getElem?_eq_getElem h] at this
  simpa using this
@[go_sem] theorem hop_len' (p n : Int) (f : Nat → Int) (h : 1 < (hop p n f).size) : (hop p n f)[1] = .int .i64 n := by
  have := hop_len p n f
  rw [Array.getElem?_eq_getElem h] at this
  simpa using this
theorem hop_get (p n : Int) (f : Nat → Int) (o : Nat) (h : 2 ≤ o) (h' : o < 1106) : (hop p n f)[o]? = some (.int .u8 (f (o - 2))) := by
  unfold hop
  rw [Array.getElem?_append]
  simp only [List.size_toArray, List.length_cons, List.length_nil]
  rw [if_neg (by omega), row_get? _ _ _ (by omega)]
theorem hop_none (p n : Int) (f : Nat → Int) (o : Nat) (h : 1106 ≤ o) : (hop p n f)[o]? = none := by
  rw [Array.getElem?_eq_none]; rw [hop_size]; exact h
theorem hop_congr {p n : Int} {f g : Nat → Int} (h : ∀ i, i < 1104 → f i = g i) : hop p n f = hop p n g := by
  unfold hop; rw [row_congr h]
theorem hop_ext {p n : Int} {f : Nat → Int} {c : Array Value} (h0 : c[0]? = some (.int .i64 p)) (h1 : c[1]? = some (.int .i64 n)) (h2 : ∀ i, i < 1104 → c[2 + i]? = some (.int .u8 (f i))) (h3 : ∀ i, 1106 ≤ i → c[i]? = none) : c = hop p n f := by
  apply Array.ext_getElem?
  intro i
  match i with
  | 0 => rw [h0, hop_prime]
  | 1 => rw [h1, hop_len]
  | i + 2 =>
    by_cases hi : i < 1104
    · rw [show i + 2 = 2 + i by omega, h2 i hi, hop_get p n f (2 + i) (by omega) (by omega), Nat.add_sub_cancel_left]
    · rw [h3 (i + 2) (by omega), hop_none p n f (i + 2) (by omega)]
theorem hop_cells (p n : Int) (f : Nat → Int) : (hop p n f).all (·.oneCell') = true := by
  unfold hop
  rw [Array.all_append, row_cells]
  simp [Value.oneCell']
@[go_sem] theorem hop_all (p n : Int) (f : Nat → Int) : (hop p n f).extract 0 1106 = hop p n f := by
  rw [show (1106 : Nat) = (hop p n f).size from (hop_size p n f).symm]; simp
theorem hop_part (p n : Int) (f : Nat → Int) (a m : Nat) (h : 2 ≤ a) (h' : a + m ≤ 1106) : (hop p n f).extract a (a + m) = row m fun t => f (a - 2 + t) := by
  apply Array.ext_getElem?
  intro i
  rw [Array.getElem?_extract, hop_size]
  by_cases hi : i < m
  · rw [if_pos (by omega), row_get? _ _ i hi, hop_get p n f (a + i) (by omega) (by omega)]
    rw [show a + i - 2 = a - 2 + i by omega]
  · rw [if_neg (by omega), row_get_none _ _ i (by omega)]
@[go_sem] theorem hop_unit (p n : Int) (f : Nat → Int) : (hop p n f).extract 2 10 = row 8 f := by
  rw [show (10 : Nat) = 2 + 8 from rfl, hop_part p n f 2 8 (by omega) (by omega)]
  exact row_congr fun i _ => by rw [Nat.sub_self, Nat.zero_add]
@[go_sem] theorem hop_unit' (p n : Int) (f : Nat → Int) : (hop p n f).extract 2 (2 + 8) = row 8 f := hop_unit p n f
@[go_sem] theorem hop_mul (p n : Int) (f : Nat → Int) : (hop p n f).extract 10 522 = row 512 (tab f) := by
  rw [show (522 : Nat) = 10 + 512 from rfl, hop_part p n f 10 512 (by omega) (by omega)]
  exact row_congr fun i _ => rfl
@[go_sem] theorem hop_mul' (p n : Int) (f : Nat → Int) : (hop p n f).extract 10 (10 + 512) = row 512 (tab f) := hop_mul p n f
@[go_sem] theorem hop_counit (p n : Int) (f : Nat → Int) : (hop p n f).extract 522 530 = row 8 (coF f) := by
  rw [show (530 : Nat) = 522 + 8 from rfl, hop_part p n f 522 8 (by omega) (by omega)]
  exact row_congr fun i _ => rfl
@[go_sem] theorem hop_counit' (p n : Int) (f : Nat → Int) : (hop p n f).extract 522 (522 + 8) = row 8 (coF f) := hop_counit p n f
@[go_sem] theorem hop_com (p n : Int) (f : Nat → Int) : (hop p n f).extract 530 1042 = row 512 (tab (coF f)) := by
  rw [show (1042 : Nat) = 530 + 512 from rfl, hop_part p n f 530 512 (by omega) (by omega)]
  exact row_congr fun i _ => by unfold tab coF; congr 1; omega
@[go_sem] theorem hop_com' (p n : Int) (f : Nat → Int) : (hop p n f).extract 530 (530 + 512) = row 512 (tab (coF f)) := hop_com p n f
@[go_sem] theorem hop_anti (p n : Int) (f : Nat → Int) : (hop p n f).extract 1042 1106 = row 64 (anF f) := by
  rw [show (1106 : Nat) = 1042 + 64 from rfl, hop_part p n f 1042 64 (by omega) (by omega)]
  exact row_congr fun i _ => rfl
@[go_sem] theorem hop_anti' (p n : Int) (f : Nat → Int) : (hop p n f).extract 1042 (1042 + 64) = row 64 (anF f) := hop_anti p n f
theorem hop_mul8 (p n : Int) (f : Nat → Int) (i j : Nat) (hi : i < 8) (hj : j < 8) : (hop p n f).extract (10 + i * 64 + j * 8) (10 + i * 64 + j * 8 + 8) = row 8 (mtab f i j) := by
  rw [hop_part p n f (10 + i * 64 + j * 8) 8 (by omega) (by omega)]
  exact row_congr fun t _ => by unfold mtab tab; congr 1; omega
theorem hop_com64 (p n : Int) (f : Nat → Int) (i : Nat) (hi : i < 8) : (hop p n f).extract (530 + i * 64) (530 + i * 64 + 64) = row 64 fun t => tab (coF f) (i * 64 + t) := by
  rw [hop_part p n f (530 + i * 64) 64 (by omega) (by omega)]
  exact row_congr fun t _ => by unfold tab coF; congr 1; omega
theorem hop_com8 (p n : Int) (f : Nat → Int) (i j : Nat) (hi : i < 8) (hj : j < 8) : (hop p n f).extract (530 + i * 64 + j * 8) (530 + i * 64 + j * 8 + 8) = row 8 (mtab (coF f) i j) := by
  rw [hop_part p n f (530 + i * 64 + j * 8) 8 (by omega) (by omega)]
  exact row_congr fun t _ => by unfold mtab tab coF; congr 1; omega
theorem hop_anti8 (p n : Int) (f : Nat → Int) (i : Nat) (hi : i < 8) : (hop p n f).extract (1042 + i * 8) (1042 + i * 8 + 8) = row 8 fun t => anF f (i * 8 + t) := by
  rw [hop_part p n f (1042 + i * 8) 8 (by omega) (by omega)]
  exact row_congr fun t _ => by unfold anF; congr 1; omega
theorem hop_uq (p n : Int) (f : Nat → Int) (i : Nat) (hi : i < 8) : (hop p n f)[2 + i]? = some (.int .u8 (f i)) := by rw [hop_get p n f _ (by omega) (by omega), Nat.add_sub_cancel_left]
theorem hop_cq (p n : Int) (f : Nat → Int) (i : Nat) (hi : i < 8) : (hop p n f)[522 + i]? = some (.int .u8 (coF f i)) := by rw [hop_get p n f _ (by omega) (by omega), show 522 + i - 2 = 520 + i by omega]; rfl
theorem hop_mq (p n : Int) (f : Nat → Int) (i j k : Nat) (hi : i < 8) (hj : j < 8) (hk : k < 8) : (hop p n f)[10 + i * 64 + j * 8 + k]? = some (.int .u8 (mtab f i j k)) := by
  rw [hop_get p n f _ (by omega) (by omega)]
  unfold mtab tab
  congr 3; omega
theorem hop_comq (p n : Int) (f : Nat → Int) (i j k : Nat) (hi : i < 8) (hj : j < 8) (hk : k < 8) : (hop p n f)[530 + i * 64 + j * 8 + k]? = some (.int .u8 (mtab (coF f) i j k)) := by
  rw [hop_get p n f _ (by omega) (by omega)]
  unfold mtab tab coF
  congr 3; omega
theorem el_of {c : Array Value} {i : Nat} {v : Value} (h : c[i]? = some v) (hi : i < c.size) : c[i] = v := by
  rw [Array.getElem?_eq_getElem hi] at h
  exact Option.some.inj h
theorem hop_ue (p n : Int) (f : Nat → Int) (i : Nat) (hi : i < 8) (h : 2 + i < (hop p n f).size) : (hop p n f)[2 + i] = .int .u8 (f i) := el_of (hop_uq p n f i hi) h
theorem hop_ce (p n : Int) (f : Nat → Int) (i : Nat) (hi : i < 8) (h : 522 + i < (hop p n f).size) : (hop p n f)[522 + i] = .int .u8 (coF f i) := el_of (hop_cq p n f i hi) h
theorem hop_me (p n : Int) (f : Nat → Int) (i j k : Nat) (hi : i < 8) (hj : j < 8) (hk : k < 8) (h : 10 + i * 64 + j * 8 + k < (hop p n f).size) : (hop p n f)[10 + i * 64 + j * 8 + k] = .int .u8 (mtab f i j k) := el_of (hop_mq p n f i j k hi hj hk) h
theorem hop_come (p n : Int) (f : Nat → Int) (i j k : Nat) (hi : i < 8) (hj : j < 8) (hk : k < 8) (h : 530 + i * 64 + j * 8 + k < (hop p n f).size) : (hop p n f)[530 + i * 64 + j * 8 + k] = .int .u8 (mtab (coF f) i j k) := el_of (hop_comq p n f i j k hi hj hk) h
theorem hop_bytes {f : Nat → Int} (h : Bytes 1104 f) : Bytes 520 f := fun i hi => h i (by omega)
theorem co_bytes {f : Nat → Int} (h : Bytes 1104 f) : Bytes 520 (coF f) := fun i hi => h (520 + i) (by omega)
theorem an_bytes {f : Nat → Int} (h : Bytes 1104 f) : Bytes 64 (anF f) := fun i hi => h (1040 + i) (by omega)
theorem lay_hop (p n : Int) (f g : Nat → Int) (a m : Nat) (h : a + m ≤ 1104) : lay (hop p n f) (2 + a) (row m g) = hop p n fun i => if a ≤ i ∧ i < a + m then g (i - a) else f i := by
  apply hop_ext
  · rw [lay_get _ _ _ _ (by rw [hop_size, row_size]; omega), if_neg (by omega), hop_prime]
  · rw [lay_get _ _ _ _ (by rw [hop_size, row_size]; omega), if_neg (by omega), hop_len]
  · intro i hi
    rw [lay_get _ _ _ _ (by rw [hop_size, row_size]; omega), row_size]
    by_cases h1 : a ≤ i ∧ i < a + m
    · rw [if_pos (by omega), if_pos h1, row_get? _ _ _ (by omega), show 2 + i - (2 + a) = i - a by omega]
    · rw [if_neg (by omega), if_neg h1, hop_get p n f (2 + i) (by omega) (by omega), Nat.add_sub_cancel_left]
  · intro i hi
    rw [lay_get _ _ _ _ (by rw [hop_size, row_size]; omega), row_size, if_neg (by omega), hop_none p n f i hi]
@[go_sem] theorem lay_hop_all (p n q m : Int) (f g : Nat → Int) : lay (hop p n f) 0 (hop q m g) = hop q m g := by
  apply Array.ext_getElem?
  intro i
  rw [lay_get _ _ _ _ (by rw [hop_size, hop_size]; omega), hop_size]
  split
  · rfl
  · rw [hop_none _ _ _ _ (by omega), hop_none _ _ _ _ (by omega)]
@[go_sem] theorem hop_set0 (p n q : Int) (f : Nat → Int) : (hop p n f).setIfInBounds 0 (.int .i64 q) = hop q n f := by
  apply hop_ext
  · rw [Array.getElem?_setIfInBounds]; simp [hop_size]
  · rw [Array.getElem?_setIfInBounds]; simp [hop_len]
  · intro i hi; rw [Array.getElem?_setIfInBounds, if_neg (by omega), hop_get p n f (2 + i) (by omega) (by omega), Nat.add_sub_cancel_left]
  · intro i hi; rw [Array.getElem?_setIfInBounds, if_neg (by omega), hop_none p n f i hi]
@[go_sem] theorem hop_set1 (p n q : Int) (f : Nat → Int) : (hop p n f).setIfInBounds 1 (.int .i64 q) = hop p q f := by
  apply hop_ext
  · rw [Array.getElem?_setIfInBounds]; simp [hop_prime]
  · rw [Array.getElem?_setIfInBounds]; simp [hop_size]
  · intro i hi; rw [Array.getElem?_setIfInBounds, if_neg (by omega), hop_get p n f (2 + i) (by omega) (by omega), Nat.add_sub_cancel_left]
  · intro i hi; rw [Array.getElem?_setIfInBounds, if_neg (by omega), hop_none p n f i hi]

/-! ### the operations at the type -/
theorem hop_zeros : hop 0 0 zf = ([Value.int .i64 0, Value.int .i64 0] ++ List.replicate 1104 (Value.int .u8 0)).toArray := by
  unfold hop; rw [row_zeros]; exact zeros_gen _ _ _ 1104
/-! ### literals of structs -/
def buildS (P : Program) (T : TypeId) (ps : Array (Nat × Value)) (w : World) : Result Next := (do pure (Next.value (← Instr.build T ps)) : Sem Next).run P w
theorem fold_at (off : Nat) : ∀ (l : List Value) (k : Nat) (c : Array Value) (i : Nat), off + k + l.length ≤ c.size →
    ((l.zipIdx k).foldl (fun cs (x : Value × Nat) => cs.setIfInBounds (off + x.2) x.1) c)[i]? = if off + k ≤ i ∧ i < off + k + l.length then l[i - (off + k)]? else c[i]?
  | [], k, c, i, _ => by simp; intro h h'; omega
  | v :: l, k, c, i, h => by
    simp only [List.length_cons] at h
    rw [List.zipIdx_cons, List.foldl_cons, fold_at off l (k + 1) _ i (by simp; omega)]
    by_cases h1 : off + (k + 1) ≤ i ∧ i < off + (k + 1) + l.length
    · rw [if_pos h1, if_pos (by simp only [List.length_cons]; omega), show i - (off + k) = (i - (off + (k + 1))) + 1 by omega, List.getElem?_cons_succ]
    · rw [if_neg h1, Array.getElem?_setIfInBounds]
      by_cases h2 : off + k = i
      · subst h2
        rw [if_pos rfl, if_pos (by omega), if_pos (by simp only [List.length_cons]; omega)]
        simp
      · rw [if_neg h2, if_neg (by simp only [List.length_cons]; omega)]
theorem fold_lay (off : Nat) (cs c : Array Value) (h : off + cs.size ≤ c.size) : cs.zipIdx.foldl (fun cs (x : Value × Nat) => cs.setIfInBounds (off + x.2) x.1) c = lay c off cs := by
  apply Array.ext_getElem?
  intro i
  rw [lay_get _ _ _ _ h, ← Array.foldl_toList, Array.toList_zipIdx, fold_at off cs.toList 0 c i (by simpa using h)]
  simp
theorem fill_row {place : Nat → Option (Nat × Nat)} {c cs : Array Value} {i off m : Nat} {rest : List (Nat × Value)} (hp : place i = some (off, m)) (hm : cs.size = m) (h : off + m ≤ c.size) : Instr.fill place c ((i, .agg cs) :: rest) = Instr.fill place (lay c off cs) rest := by
  have e : (Value.agg cs).cells = cs := rfl
  rw [Instr.fill, hp]
  simp only [e, hm]
  rw [if_neg (by simp; omega), fold_lay off cs c (by omega)]
theorem fill_one {place : Nat → Option (Nat × Nat)} {c : Array Value} {i off : Nat} {k : IntKind} {x : Int} {rest : List (Nat × Value)} (hp : place i = some (off, 1)) (h : off + 1 ≤ c.size) : Instr.fill place c ((i, .int k x) :: rest) = Instr.fill place (c.setIfInBounds off (.int k x)) rest := by
  have e : (Value.int k x).cells = #[.int k x] := rfl
  rw [Instr.fill, hp]
  simp only [e]
  rw [if_neg (by simp; omega)]
  simp
theorem build_struct {P : Program} {T : TypeId} {fields : Array Field} {places : Array (Nat × Nat)} {zc c : Array Value} {ps : Array (Nat × Value)} (hu : P.underlying T = some (.struct fields)) (hz : (P.info? T).map (·.zero) = some (some (.agg zc)))
    (hp : ∀ w, (fields.mapM fun f => (do pure (f.offset, ← sizeOf f.type) : Sem (Nat × Nat))).run P w = .ok places w) (hf : Instr.fill (places[·]?) zc ps.toList = some c) (w : World) : buildS P T ps w = .ok (.value (.agg c)) w := by
  have hz' : (zeroValue T).run P w = .ok (.agg zc) w := by
    cases hq : P.info? T with
    | none => simp [hq] at hz
    | some i => simp [hq] at hz; simp [zeroValue, typeInfo, hq, hz]
  have e : (Value.agg zc).cells = zc := rfl
  simp only [buildS, Instr.build, Sem.run_bind, hz', Result.andThen_ok, run_underlying hu, hp, e, hf, Sem.run_pure]
/-- the unit u, and the table t behind it -/
def joinUT (u t : Nat → Int) : Nat → Int := fun i => if i < 8 then u i else t (i - 8)
def fieldsOf (P : Program) (T : TypeId) : Array Field := match P.underlying T with | some (.struct fs) => fs | _ => #[]
theorem build4 {P : Program} {T : TypeId} (hu : P.underlying T = some (.struct (fieldsOf P T))) (hz : (P.info? T).map (·.zero) = some (some (.agg (alg 0 0 zf))))
    (hp : ∀ w, ((fieldsOf P T).mapM fun f => (do pure (f.offset, ← sizeOf f.type) : Sem (Nat × Nat))).run P w = .ok #[(0, 1), (1, 1), (2, 8), (10, 512)] w) (p n : Int) (u t : Nat → Int) (w : World) :
    buildS P T #[(0, .int .i64 p), (1, .int .i64 n), (2, .agg (row 8 u)), (3, .agg (row 512 t))] w = .ok (.value (.agg (alg p n (joinUT u t)))) w := by
  refine build_struct hu hz hp ?_ w
  show Instr.fill _ _ [_, _, _, _] = _
  rw [fill_one (off := 0) rfl (by rw [alg_size]; omega), alg_set0, fill_one (off := 1) rfl (by rw [alg_size]; omega), alg_set1, fill_row (off := 2) (m := 8) rfl (row_size _ _) (by rw [alg_size]; omega),
    show (2 : Nat) = 2 + 0 from rfl, lay_alg _ _ _ _ 0 8 (by omega), fill_row (off := 10) (m := 512) rfl (row_size _ _) (by rw [alg_size]; omega), show (10 : Nat) = 2 + 8 from rfl, lay_alg _ _ _ _ 8 512 (by omega)]
  show some _ = some _
  refine congrArg some (alg_congr fun i hi => ?_)
  unfold joinUT zf
  by_cases h : i < 8
  · rw [if_neg (by omega), if_pos (by omega), if_pos h, Nat.sub_zero]
  · rw [if_pos (by omega), if_neg h]
@[go_sem ↓] theorem xbuildCo4 (ρ : Operand → Value) (dst : Option Tmp) (a b c d : Operand) (ty : TypeId) (pos : String) (after : Array Edge) (guard : Option (Nat × Bool)) (w : World) :
    (execOp ρ ⟨dst, .build 34 #[(0, a), (1, b), (2, c), (3, d)], ty, pos, after, guard⟩).run Try.prog w = buildS Try.prog 34 #[(0, ρ a), (1, ρ b), (2, ρ c), (3, ρ d)] w := by kernel_rfl
@[go_sem] theorem buildCo4 (p n : Int) (u t : Nat → Int) (w : World) : buildS Try.prog 34 #[(0, .int .i64 p), (1, .int .i64 n), (2, .agg (row 8 u)), (3, .agg (row 512 t))] w = .ok (.value (.agg (alg p n (joinUT u t)))) w := build4 (by kernel_rfl) (by rw [alg_zeros]; kernel_rfl) (fun w => by kernel_rfl) p n u t w
@[go_sem ↓] theorem xbuildAl4 (ρ : Operand → Value) (dst : Option Tmp) (a b c d : Operand) (ty : TypeId) (pos : String) (after : Array Edge) (guard : Option (Nat × Bool)) (w : World) :
    (execOp ρ ⟨dst, .build 54 #[(0, a), (1, b), (2, c), (3, d)], ty, pos, after, guard⟩).run Try.prog w = buildS Try.prog 54 #[(0, ρ a), (1, ρ b), (2, ρ c), (3, ρ d)] w := by kernel_rfl
@[go_sem] theorem buildAl4 (p n : Int) (u t : Nat → Int) (w : World) : buildS Try.prog 54 #[(0, .int .i64 p), (1, .int .i64 n), (2, .agg (row 8 u)), (3, .agg (row 512 t))] w = .ok (.value (.agg (alg p n (joinUT u t)))) w := build4 (by kernel_rfl) (by rw [alg_zeros]; kernel_rfl) (fun w => by kernel_rfl) p n u t w
theorem join_congr {p n : Int} {u t t' : Nat → Int} (h : row 512 t = row 512 t') : alg p n (joinUT u t) = alg p n (joinUT u t') := alg_congr fun i hi => by
  unfold joinUT
  split
  · rfl
  · exact row_inj h (i - 8) (by omega)
theorem join_self (p n : Int) (f : Nat → Int) : alg p n (joinUT f (tab f)) = alg p n f := alg_congr fun i hi => by
  unfold joinUT tab
  split
  · rfl
  · congr 1; omega
end
section
open Go.RowKit
set_option linter.unusedSimpArgs false
set_option linter.unusedVariables false
attribute [local irreducible] wpQuiet wpQE

/-- p, n, f is shaped -/
def shapeH (p n : Int) (f : Nat → Int) : Bool := (shapeB p n f && shapeB p n (coF f)) && linB p n (anF f)
theorem lin_sizes {p n : Int} {f F : Nat → Int} (h : shapeB p n f = true) : (sizesB p n && linB p n F) = linB p n F := by rw [(shape_parts h).1, Bool.true_and]
theorem shapeH_parts {p n : Int} {f : Nat → Int} (h : shapeH p n f = true) : shapeB p n f = true ∧ shapeB p n (coF f) = true ∧ linB p n (anF f) = true := by
  unfold shapeH at h
  simp only [Bool.and_eq_true] at h
  exact ⟨h.1.1, h.1.2, h.2⟩

theorem shapeH_spec (p n : Int) (f : Nat → Int) : shapeH p n f = (((shapeB p n f && vecB p n (coF f)) && tabB p n (tab (coF f))) && linB p n (anF f)) := by
  unfold shapeH
  cases h : shapeB p n f
  · rfl
  · have := (shape_parts h).1
    rw [show shapeB p n (coF f) = (sizesB p n && (vecB p n (coF f) && tabB p n (tab (coF f)))) from rfl, this]
    cases vecB p n (coF f) <;> cases tabB p n (tab (coF f)) <;> rfl
theorem co_unit {f : Nat → Int} (h : Bytes 1104 f) : Bytes 8 (coF f) := unit_bytes (co_bytes h)
theorem co_tab {f : Nat → Int} (h : Bytes 1104 f) : Bytes 512 (tab (coF f)) := tab_bytes (co_bytes h)

set_option maxRecDepth 100000 in
set_option maxHeartbeats 1000000 in
theorem pairOf_any (p : Int) (v u : Nat → Int) (w : World) (hp : 0 < p) (hp' : p ≤ 255) (hv : Bytes 8 v) (hu : Bytes 8 u) :
    Calls Try.prog 149 #[.int .i64 p, .agg (row 8 v), .agg (row 8 u)] w fun e w' => e = .returned (.agg (row 64 (outF p v u 8))) ∧ Below w.heap.size w w' := by
  have Hv := Lib.hid hv; clear hv
  have Hu := Lib.hid hu; clear hu
  have HZ : Hid (∀ t, t < 64 → 0 ≤ zf t ∧ zf t < p) := Lib.hid fun t _ => by unfold zf; omega
  have HO := Lib.hid (pair_out p hp v u)
  go_enter Try.func149, Try.ntmps149
  go_wp2_with fail
  refine atomC fun W1 e1 => ?_
  have hb1 : Below w.heap.size w W1 := by rw [e1]; (repeat (first | exact Below.refl _ _ | refine Below.alloc ?_ (by first | omega | (simp; try omega)) _ | refine below_setRow ?_ (by omega) _ | refine Below.drew ?_))
  have q1 := hb1.size
  have R1 : IsRow W1 (w.heap.size + 2) ∧ IsRow W1 (w.heap.size + 3) := by rw [e1]; simp [go_sem]
  obtain ⟨r6_1, r7_1⟩ := R1
  have C1 := (⟨congrArg (blk · (w.heap.size + 2)) e1, congrArg (blk · (w.heap.size + 3)) e1⟩ : _ ∧ _); simp [go_sem] at C1
  obtain ⟨c6_1, c7_1⟩ := C1
  have z6_1 := isRow_lt r6_1; have z7_1 := isRow_lt r7_1
  clear e1
  refine (addPair_any p 1 _ zf v u _ hp hp' (by omega) (by omega) HZ.out Hv.out Hu.out r7_1 c7_1).mono ?_; rintro _ W2 ⟨rfl, hw2, r7_2, c7_2⟩
  obtain ⟨r6_2, c6_2⟩ := keepA hw2 z6_1 (by first | assumption | (simp; done) | omega) r6_1 c6_1
  have z6_2 := isRow_lt r6_2
  have z7_2 := isRow_lt r7_2
  have hb2 := Below.aside hb1 hw2 (by omega)
  have q2 := hb2.size
  clear hw2 r6_1 c6_1 z6_1 r7_1 c7_1 z7_1 hb1
  rw [HO.out] at c7_2
  go_wp2_with fail
  refine bodyPost_ret (result_cell rfl aggLin _ _ (row 64 (outF p v u 8)) _ rfl ?_ ?_) rfl ⟨rfl, ?_⟩
  · simp [go_sem, r6_2, c6_2, r7_2, c7_2]
  · simp [go_sem, r6_2, c6_2, r7_2, c7_2]
  · repeat (first | exact hb2 | exact Below.refl _ _ | refine Below.alloc ?_ (by first | omega | (simp; try omega)) _ | refine below_setRow ?_ (by omega) _ | refine Below.drew ?_)

set_option maxRecDepth 100000 in
set_option maxHeartbeats 1000000 in
theorem unitMap_any (p n q m : Int) (f g : Nat → Int) (w : World) (hq : 0 < q) (hq' : q ≤ 255) (hF : Bytes 520 f) (hG : Bytes 520 g) :
    Calls Try.prog 95 #[.agg (alg p n f), .agg (alg q m g)] w fun e w' => e = .returned (.agg (row 64 (outF q f g 8))) ∧ Below w.heap.size w w' := by
  have HF := Lib.hid hF; clear hF
  have HG := Lib.hid hG; clear hG
  go_enter Try.func95, Try.ntmps95
  go_wp2_with fail
  refine atomC fun W1 e1 => ?_
  have hb1 : Below w.heap.size w W1 := by rw [e1]; (repeat (first | exact Below.refl _ _ | refine Below.alloc ?_ (by first | omega | (simp; try omega)) _ | refine below_setRow ?_ (by omega) _ | refine Below.drew ?_))
  have q1 := hb1.size
  have r4_1 : IsRow W1 (w.heap.size + 2) := by rw [e1]; simp [go_sem]
  have c4_1 := congrArg (fun x => blk x (w.heap.size + 2)) e1; simp [go_sem] at c4_1
  have z4_1 := isRow_lt r4_1
  clear e1
  refine (pairOf_any q f g _ hq hq' (unit_bytes HF.out) (unit_bytes HG.out)).mono ?_; rintro _ W2 ⟨rfl, hw2⟩
  obtain ⟨r4_2, c4_2⟩ := keepB hw2 z4_1 r4_1 c4_1
  have z4_2 := isRow_lt r4_2
  have hb2 := hb1.trans (hw2.mono hb1.size)
  have q2 := hb2.size
  clear hw2 r4_1 c4_1 z4_1 hb1
  go_wp2_with fail
  refine bodyPost_ret (result_cell rfl aggLin _ _ (row 64 (outF q f g 8)) _ rfl ?_ ?_) rfl ⟨rfl, ?_⟩
  · simp [go_sem, r4_2, c4_2]
  · simp [go_sem, r4_2, c4_2]
  · repeat (first | exact hb2 | exact Below.refl _ _ | refine Below.alloc ?_ (by first | omega | (simp; try omega)) _ | refine below_setRow ?_ (by omega) _ | refine Below.drew ?_)

/-- the first i images of the identity -/
def idK (i : Nat) : Nat → Int := fun t => if t / 8 < i then ebas (t / 8) (t % 8) else 0
theorem id_zero : row 64 zf = row 64 (idK 0) := row_congr fun t _ => by unfold idK zf; rw [if_neg (by omega)]
theorem id_step (i : Nat) (hi : i < 8) : lay (row 64 (idK i)) (i * 8) (row 8 (ebas i)) = row 64 (idK (i + 1)) := by
  rw [lay_row _ _ _ _ _ (by omega)]
  refine row_congr fun t _ => ?_
  by_cases h : i * 8 ≤ t ∧ t < i * 8 + 8
  · rw [if_pos h]
    unfold idK
    rw [if_pos (by omega), show t / 8 = i by omega, show t - i * 8 = t % 8 by omega]
  · rw [if_neg h]
    unfold idK
    by_cases h2 : t / 8 < i
    · rw [if_pos h2, if_pos (by omega)]
    · rw [if_neg h2, if_neg (by omega)]
theorem id_bytes (n : Nat) : Bytes 64 (idK n) := fun t ht => by
  unfold idK
  split
  · exact ebas_bytes _ _ (by omega)
  · omega

set_option maxRecDepth 100000 in
set_option maxHeartbeats 1000000 in
theorem l01Zero_any (v : Nat → Int) (w : World)  :
    Calls Try.prog 159 #[.agg (row 8 v)] w fun e w' => e = .returned (.bool (segEq 0 8 v zf)) ∧ Below w.heap.size w w' := by
  go_enter Try.func159, Try.ntmps159
  go_wp2_with fail
  go_ret
  exact ⟨rfl, (by (repeat (first | exact Below.refl _ _ | refine Below.alloc ?_ (by first | omega | (simp; try omega)) _ | refine below_setRow ?_ (by omega) _ | refine Below.drew ?_)))⟩
end
section
open Go.RowKit
set_option linter.unusedSimpArgs false
set_option linter.unusedVariables false
attribute [local irreducible] wpQuiet wpQE

/-- the sum over the first i rows of n, and j of row i -/
def dsumK (T : Nat → Nat → Int) (n i j : Nat) : Int := sumTo (fun a => sumTo (T a) n) i + sumTo (T i) j
theorem dsum_zero (T : Nat → Nat → Int) (n : Nat) : dsumK T n 0 0 = 0 := by simp [dsumK, sumTo]
theorem dsum_step (T : Nat → Nat → Int) (n i j : Nat) : dsumK T n i (j + 1) = dsumK T n i j + T i j := by unfold dsumK; rw [sumTo, Int.add_assoc]
theorem dsum_row (T : Nat → Nat → Int) (n i : Nat) : dsumK T n i n = dsumK T n (i + 1) 0 := by unfold dsumK; rw [sumTo, sumTo, Int.add_zero]
theorem dsum_all (T : Nat → Nat → Int) (n i : Nat) : dsumK T n i 0 = sumTo (fun a => sumTo (T a) n) i := by unfold dsumK; rw [sumTo, Int.add_zero]
theorem mod_add_mul (a b c d p : Int) : (a % p + b * c % p * d) % p = (a + b * c * d) % p := by
  rw [Int.emod_add_emod, Int.add_emod, Int.mul_emod (b * c % p), Int.emod_emod, ← Int.mul_emod, ← Int.add_emod]

/-! ### products of pairs -/
/-- what stands at x, y for a pair of rows -/
def ppT (p : Int) (n : Nat) (f m q : Nat → Int) (x y a b : Nat) : Int := mtab f a b x * mulF p n (mtab f) (fun t => m (a * 8 + t)) (fun t => q (b * 8 + t)) y
def ppK (p : Int) (n : Nat) (f m q : Nat → Int) (i j : Nat) : Nat → Int := fun t => dsumK (ppT p n f m q (t / 8) (t % 8)) n i j % p
theorem pp_zero (p : Int) (n : Nat) (f m q : Nat → Int) : row 64 zf = row 64 (ppK p n f m q 0 0) := row_congr fun t _ => by unfold ppK zf; rw [dsum_zero]; simp
theorem pp_step (p : Int) (n : Nat) (f m q : Nat → Int) (i j : Nat) : row 64 (pairK p (ppK p n f m q i j) 1 (mtab f i j) (mulF p n (mtab f) (fun t => m (i * 8 + t)) (fun t => q (j * 8 + t))) 8) = row 64 (ppK p n f m q i (j + 1)) := row_congr fun t _ => by
  unfold pairK ppK
  rw [if_pos (by omega), mod_add_mul, Int.one_mul, dsum_step]; rfl
theorem pp_row (p : Int) (n : Nat) (f m q : Nat → Int) (i : Nat) : row 64 (ppK p n f m q i n) = row 64 (ppK p n f m q (i + 1) 0) := row_congr fun t _ => by unfold ppK; rw [dsum_row]
theorem pp_range {p : Int} (hp : 0 < p) (n : Nat) (f m q : Nat → Int) (i j t : Nat) : 0 ≤ ppK p n f m q i j t ∧ ppK p n f m q i j t < p := mod_range _ p hp
theorem part_bytes {m : Nat → Int} (h : Bytes 64 m) (i : Nat) (hi : i < 8) : Bytes 8 fun t => m (i * 8 + t) := fun t ht => h _ (by omega)

/-! ### convolutions -/
/-- the entry k of image i, over the first j pairs -/
def cvR (p : Int) (n : Nat) (A C F G : Nat → Int) (i j k : Nat) : Int := sumTo (fun b => mulF p n (mtab A) (fun t => F (b * 8 + t)) (appF p 8 (fun x y => G (x * 8 + y)) (mtab C i b)) k) j % p
/-- i images of m are done, and j pairs of image i -/
def cvK (p : Int) (n m : Nat) (A C F G : Nat → Int) (i j : Nat) : Nat → Int := fun t => if t / 8 < i then cvR p n A C F G (t / 8) m (t % 8) else if t / 8 = i then cvR p n A C F G i j (t % 8) else 0
theorem cv_zero (p : Int) (n m : Nat) (A C F G : Nat → Int) : row 64 zf = row 64 (cvK p n m A C F G 0 0) := row_congr fun t _ => by
  unfold cvK cvR zf; rw [if_neg (by omega)]; split <;> simp [sumTo]
theorem cv_step (p : Int) (n m : Nat) (A C F G : Nat → Int) (i j : Nat) : row 64 (addm p (i * 8) 8 1 (cvK p n m A C F G i j) (mulF p n (mtab A) (fun t => F (j * 8 + t)) (appF p 8 (fun x y => G (x * 8 + y)) (mtab C i j)))) = row 64 (cvK p n m A C F G i (j + 1)) := row_congr fun t _ => by
  unfold addm cvK
  by_cases h : i * 8 ≤ t ∧ t < i * 8 + 8
  · rw [if_pos h, if_neg (by omega), if_pos (by omega), if_neg (by omega), if_pos (by omega), show t - i * 8 = t % 8 by omega]
    unfold cvR
    rw [Int.emod_add_emod, sumTo, Int.one_mul]
  · rw [if_neg h]
    by_cases h2 : t / 8 < i
    · rw [if_pos h2, if_pos h2]
    · rw [if_neg h2, if_neg h2, if_neg (by omega), if_neg (by omega)]
theorem cv_row (p : Int) (n m : Nat) (A C F G : Nat → Int) (i : Nat) : row 64 (cvK p n m A C F G i m) = row 64 (cvK p n m A C F G (i + 1) 0) := row_congr fun t _ => by
  unfold cvK
  by_cases h : t / 8 < i
  · rw [if_pos h, if_pos (by omega)]
  · rw [if_neg h]
    by_cases h2 : t / 8 = i
    · rw [if_pos h2, if_pos (by omega), h2]
    · rw [if_neg h2, if_neg (by omega)]
      split
      · simp [cvR, sumTo]
      · rfl
theorem cv_range {p : Int} (hp : 0 < p) (n m : Nat) (A C F G : Nat → Int) (i j t : Nat) : 0 ≤ cvK p n m A C F G i j t ∧ cvK p n m A C F G i j t < p := by
  unfold cvK
  split
  · exact mod_range _ p hp
  · split
    · exact mod_range _ p hp
    · omega

/-! ### coproducts and Counits by the reference model -/
theorem copS_skip (p : Int) (f v : Nat → Int) (n i : Nat) (h : v i = 0) : row 64 (copS p f v n i 0) = row 64 (copS p f v n (i + 1) 0) := row_congr fun t _ => by
  unfold copS copK copF
  split
  · rw [if_neg (by omega), if_neg (by omega), sumTo, h, Int.zero_mul, Int.add_zero]
  · rfl
end
section
open Go.RowKit
set_option linter.unusedSimpArgs false
set_option linter.unusedVariables false
attribute [local irreducible] wpQuiet wpQE

/-! ### products of pairs by the reference model -/
def ppS (p : Int) (n : Nat) (f m q : Nat → Int) (i j : Nat) : Nat → Int := fun t => if t / 8 < n then ppK p n f m q i j t else 0
/-- x rows have the pair i, j too -/
def sxK (p : Int) (n : Nat) (f m q : Nat → Int) (i j x : Nat) : Nat → Int := fun t => if t / 8 < x then ppS p n f m q i (j + 1) t else ppS p n f m q i j t
theorem ppS_zero (p : Int) (n : Nat) (f m q : Nat → Int) : row 64 zf = row 64 (ppS p n f m q 0 0) := row_congr fun t _ => by unfold ppS ppK zf; rw [dsum_zero]; simp
theorem ppS_row (p : Int) (n : Nat) (f m q : Nat → Int) (i : Nat) : row 64 (ppS p n f m q i n) = row 64 (ppS p n f m q (i + 1) 0) := row_congr fun t _ => by unfold ppS ppK; rw [dsum_row]
theorem pp_none (p : Int) (n : Nat) (f m q : Nat → Int) (i j t : Nat) (h : ppT p n f m q (t / 8) (t % 8) i j = 0) : ppK p n f m q i (j + 1) t = ppK p n f m q i j t := by unfold ppK; rw [dsum_step, h, Int.add_zero]
theorem ppS_skip (p : Int) (n : Nat) (f m q : Nat → Int) (i j : Nat) (h : segEq 0 8 (mulF p n (mtab f) (fun t => m (i * 8 + t)) (fun t => q (j * 8 + t))) zf = true) : row 64 (ppS p n f m q i j) = row 64 (ppS p n f m q i (j + 1)) := row_congr fun t _ => by
  unfold ppS
  split
  · rw [pp_none]
    unfold ppT
    have := (segEq_iff 0 8 _ _).1 h (t % 8) (by omega)
    rw [Nat.zero_add] at this
    rw [this]; unfold zf; rw [Int.mul_zero]
  · rfl
theorem sx_zero (p : Int) (n : Nat) (f m q : Nat → Int) (i j : Nat) : row 64 (ppS p n f m q i j) = row 64 (sxK p n f m q i j 0) := row_congr fun t _ => by unfold sxK; rw [if_neg (by omega)]
theorem sx_end (p : Int) (n : Nat) (f m q : Nat → Int) (i j : Nat) : row 64 (sxK p n f m q i j n) = row 64 (ppS p n f m q i (j + 1)) := row_congr fun t _ => by
  unfold sxK
  split
  · rfl
  · rename_i h
    unfold ppS; rw [if_neg h, if_neg h]
theorem sx_skip (p : Int) (n : Nat) (f m q : Nat → Int) (i j x : Nat) (h : mtab f i j x = 0) : row 64 (sxK p n f m q i j x) = row 64 (sxK p n f m q i j (x + 1)) := row_congr fun t _ => by
  unfold sxK
  by_cases h1 : t / 8 < x
  · rw [if_pos h1, if_pos (by omega)]
  · rw [if_neg h1]
    by_cases h2 : t / 8 = x
    · rw [if_pos (by omega)]
      unfold ppS
      rw [pp_none]
      unfold ppT
      rw [h2, h, Int.zero_mul]
    · rw [if_neg (by omega)]
theorem sx_step (p : Int) (n : Nat) (f m q : Nat → Int) (i j x : Nat) (hx : x < n) (hn : n ≤ 8) :
    lay (row 64 (sxK p n f m q i j x)) (x * 8) (row 8 (addm p 0 8 (mtab f i j x) (fun t => sxK p n f m q i j x (x * 8 + t)) (mulF p n (mtab f) (fun t => m (i * 8 + t)) (fun t => q (j * 8 + t))))) = row 64 (sxK p n f m q i j (x + 1)) := by
  rw [lay_row _ _ _ _ _ (by omega)]
  refine row_congr fun t ht => ?_
  by_cases h : x * 8 ≤ t ∧ t < x * 8 + 8
  · rw [if_pos h]
    unfold addm
    rw [if_pos (by omega)]
    dsimp only
    rw [Nat.sub_zero, show x * 8 + (t - x * 8) = t by omega, show t - x * 8 = t % 8 by omega]
    unfold sxK ppS
    rw [if_neg (show ¬ t / 8 < x by omega), if_pos (show t / 8 < x + 1 by omega), if_pos (show t / 8 < n by omega), if_pos (show t / 8 < n by omega)]
    unfold ppK
    rw [Int.emod_add_emod, dsum_step]
    unfold ppT
    rw [show t / 8 = x by omega]
  · rw [if_neg h]
    unfold sxK
    by_cases h2 : t / 8 < x
    · rw [if_pos h2, if_pos (by omega)]
    · rw [if_neg h2, if_neg (by omega)]
theorem ppS_bytes {p : Int} (hp : 0 < p) (hp' : p ≤ 255) (n : Nat) (f m q : Nat → Int) (i j t : Nat) : 0 ≤ ppS p n f m q i j t ∧ ppS p n f m q i j t ≤ 255 := by
  unfold ppS
  split
  · have := pp_range hp n f m q i j t; omega
  · omega
theorem sx_bytes {p : Int} (hp : 0 < p) (hp' : p ≤ 255) (n : Nat) (f m q : Nat → Int) (i j x : Nat) : Bytes 8 fun t => sxK p n f m q i j x (x * 8 + t) := fun t _ => by
  show 0 ≤ sxK p n f m q i j x (x * 8 + t) ∧ sxK p n f m q i j x (x * 8 + t) ≤ 255
  unfold sxK
  split
  · exact ppS_bytes hp hp' n f m q i (j + 1) _
  · exact ppS_bytes hp hp' n f m q i j _

/-! ### the sums of axioms 6 and 7 -/
/-- S(e(a)) e(b), or e(a) S(e(b)) -/
def ownF (p : Int) (n : Nat) (A S : Nat → Int) (beh : Bool) (a b : Nat) : Nat → Int := match beh with | false => mulF p n (mtab A) (fun t => S (a * 8 + t)) (ebas b) | true => mulF p n (mtab A) (ebas a) (fun t => S (b * 8 + t))
def fdK (p : Int) (n : Nat) (f S : Nat → Int) (beh : Bool) (i j k : Nat) : Nat → Int := fun t => dsumK (fun a b => mtab (coF f) i a b * ownF p n f S beh a b t) n j k % p
theorem fd_zero (p : Int) (n : Nat) (f S : Nat → Int) (beh : Bool) (i : Nat) : row 8 zf = row 8 (fdK p n f S beh i 0 0) := row_congr fun t _ => by unfold fdK zf; rw [dsum_zero]; simp
theorem fd_step (p : Int) (n : Nat) (f S : Nat → Int) (beh : Bool) (i j k : Nat) : row 8 (addm p 0 8 (mtab (coF f) i j k) (fdK p n f S beh i j k) (ownF p n f S beh j k)) = row 8 (fdK p n f S beh i j (k + 1)) := addm_row fun t _ => by unfold fdK; rw [Int.emod_add_emod, dsum_step]
theorem fd_skip (p : Int) (n : Nat) (f S : Nat → Int) (beh : Bool) (i j k : Nat) (h : mtab (coF f) i j k = 0) : row 8 (fdK p n f S beh i j k) = row 8 (fdK p n f S beh i j (k + 1)) := row_congr fun t _ => by unfold fdK; rw [dsum_step]; simp only [h, Int.zero_mul, Int.add_zero]
theorem fd_row (p : Int) (n : Nat) (f S : Nat → Int) (beh : Bool) (i j : Nat) : row 8 (fdK p n f S beh i j n) = row 8 (fdK p n f S beh i (j + 1) 0) := row_congr fun t _ => by unfold fdK; rw [dsum_row]
theorem own_bytes {p : Int} (hp : 0 < p) (hp' : p ≤ 255) (n : Nat) (A S : Nat → Int) (beh : Bool) (a b : Nat) : Bytes 8 (ownF p n A S beh a b) := by
  cases beh <;> exact mulF_bytes hp hp' n (mtab A) _ _
end
end Go.Proofs.Ytfdejhhgkpdfdaa
