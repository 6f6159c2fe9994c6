/- Modules as values and as cells: the Dim, and 512 bytes of linear maps; methods of what an interface holds; lists of modules. -/
import Derived.Test.YtjmmmggnbndolaaGreatR9
namespace Go.Proofs.YtjmmmggnbndolaaGreat
open Go.RowKit
set_option linter.unusedSimpArgs false
set_option linter.unusedVariables false
attribute [local irreducible] wpQuiet wpQE

/-- the cells of a module -/
def mdl (d : Int) (F : Nat → Int) : Array Value := #[.int .i64 d] ++ row 512 F
/-- the image of v(j) under e(i) -/
def act (F : Nat → Int) (i j k : Nat) : Int := F (i * 64 + (j * 8 + k))
@[go_sem] theorem mdl_size (d : Int) (F : Nat → Int) : (mdl d F).size = 513 := by simp [mdl, row_size]
@[go_sem] theorem mdl_dim (d : Int) (F : Nat → Int) : (mdl d F)[0]? = some (.int .i64 d) := by unfold mdl; rw [Array.getElem?_append]; simp
@[go_sem] theorem mdl_dim' (d : Int) (F : Nat → Int) (h : 0 < (mdl d F).size) : (mdl d F)[0] = .int .i64 d := el_of (mdl_dim d F) h
theorem mdl_get (d : Int) (F : Nat → Int) (o : Nat) (h : 1 ≤ o) (h' : o < 513) : (mdl d F)[o]? = some (.int .u8 (F (o - 1))) := by
  unfold mdl
  rw [Array.getElem?_append]
  simp only [List.size_toArray, List.length_cons, List.length_nil]
  rw [if_neg (by omega), row_get? _ _ _ (by omega)]
theorem mdl_none (d : Int) (F : Nat → Int) (o : Nat) (h : 513 ≤ o) : (mdl d F)[o]? = none := by
  rw [Array.getElem?_eq_none]; rw [mdl_size]; exact h
theorem mdl_congr {d : Int} {F G : Nat → Int} (h : ∀ i, i < 512 → F i = G i) : mdl d F = mdl d G := by
  unfold mdl; rw [row_congr h]
theorem mdl_ext {d : Int} {F : Nat → Int} {c : Array Value} (h0 : c[0]? = some (.int .i64 d)) (h2 : ∀ i, i < 512 → c[1 + i]? = some (.int .u8 (F i))) (h3 : ∀ i, 513 ≤ i → c[i]? = none) : c = mdl d F := by
  apply Array.ext_getElem?
  intro i
  match i with
  | 0 => rw [h0, mdl_dim]
  | i + 1 =>
    by_cases hi : i < 512
    · rw [show i + 1 = 1 + i by omega, h2 i hi, mdl_get d F (1 + i) (by omega) (by omega), Nat.add_sub_cancel_left]
    · rw [h3 (i + 1) (by omega), mdl_none d F (i + 1) (by omega)]
theorem mdl_cells (d : Int) (F : Nat → Int) : (mdl d F).all (·.oneCell') = true := by
  unfold mdl
  rw [Array.all_append, row_cells]
  simp [Value.oneCell']
@[go_sem] theorem mdl_all (d : Int) (F : Nat → Int) : (mdl d F).extract 0 513 = mdl d F := by
  rw [show (513 : Nat) = (mdl d F).size from (mdl_size d F).symm]; simp
theorem mdl_part (d : Int) (F : Nat → Int) (a m : Nat) (h : 1 ≤ a) (h' : a + m ≤ 513) : (mdl d F).extract a (a + m) = row m fun t => F (a - 1 + t) := by
  apply Array.ext_getElem?
  intro i
  rw [Array.getElem?_extract, mdl_size]
  by_cases hi : i < m
  · rw [if_pos (by omega), row_get? _ _ i hi, mdl_get d F (a + i) (by omega) (by omega)]
    rw [show a + i - 1 = a - 1 + i by omega]
  · rw [if_neg (by omega), row_get_none _ _ i (by omega)]
@[go_sem] theorem mdl_acts (d : Int) (F : Nat → Int) : (mdl d F).extract 1 513 = row 512 F := by
  rw [show (513 : Nat) = 1 + 512 from rfl, mdl_part d F 1 512 (by omega) (by omega)]
  exact row_congr fun i _ => by rw [Nat.sub_self, Nat.zero_add]
@[go_sem] theorem mdl_acts' (d : Int) (F : Nat → Int) : (mdl d F).extract 1 (1 + 512) = row 512 F := mdl_acts d F
theorem mdl_act64 (d : Int) (F : Nat → Int) (i : Nat) (hi : i < 8) : (mdl d F).extract (1 + i * 64) (1 + i * 64 + 64) = row 64 (rowOf 64 F i) := by
  rw [mdl_part d F (1 + i * 64) 64 (by omega) (by omega)]
  exact row_congr fun t _ => by unfold rowOf; congr 1; omega
theorem mdl_act8 (d : Int) (F : Nat → Int) (i j : Nat) (hi : i < 8) (hj : j < 8) : (mdl d F).extract (1 + i * 64 + j * 8) (1 + i * 64 + j * 8 + 8) = row 8 (act F i j) := by
  rw [mdl_part d F (1 + i * 64 + j * 8) 8 (by omega) (by omega)]
  exact row_congr fun t _ => by unfold act; congr 1; omega
theorem mdl_aq (d : Int) (F : Nat → Int) (i j k : Nat) (hi : i < 8) (hj : j < 8) (hk : k < 8) : (mdl d F)[1 + i * 64 + j * 8 + k]? = some (.int .u8 (act F i j k)) := by
  rw [mdl_get d F _ (by omega) (by omega)]
  unfold act
  congr 3; omega
theorem mdl_ae (d : Int) (F : Nat → Int) (i j k : Nat) (hi : i < 8) (hj : j < 8) (hk : k < 8) (h : 1 + i * 64 + j * 8 + k < (mdl d F).size) : (mdl d F)[1 + i * 64 + j * 8 + k] = .int .u8 (act F i j k) := el_of (mdl_aq d F i j k hi hj hk) h
theorem lay_mdl (d : Int) (F g : Nat → Int) (a m : Nat) (h : a + m ≤ 512) : lay (mdl d F) (1 + a) (row m g) = mdl d fun i => if a ≤ i ∧ i < a + m then g (i - a) else F i := by
  apply mdl_ext
  · rw [lay_get _ _ _ _ (by rw [mdl_size, row_size]; omega), if_neg (by omega), mdl_dim]
  · intro i hi
    rw [lay_get _ _ _ _ (by rw [mdl_size, row_size]; omega), row_size]
    by_cases h1 : a ≤ i ∧ i < a + m
    · rw [if_pos (by omega), if_pos h1, row_get? _ _ _ (by omega), show 1 + i - (1 + a) = i - a by omega]
    · rw [if_neg (by omega), if_neg h1, mdl_get d F (1 + i) (by omega) (by omega), Nat.add_sub_cancel_left]
  · intro i hi
    rw [lay_get _ _ _ _ (by rw [mdl_size, row_size]; omega), row_size, if_neg (by omega), mdl_none d F i hi]
@[go_sem] theorem lay_mdl_all (d e : Int) (F G : Nat → Int) : lay (mdl d F) 0 (mdl e G) = mdl e G := by
  apply Array.ext_getElem?
  intro i
  rw [lay_get _ _ _ _ (by rw [mdl_size, mdl_size]; omega), mdl_size]
  split
  · rfl
  · rw [mdl_none _ _ _ (by omega), mdl_none _ _ _ (by omega)]
@[go_sem] theorem lay_mdl_acts (d : Int) (F G : Nat → Int) : lay (mdl d F) 1 (row 512 G) = mdl d G := by
  rw [show (1 : Nat) = 1 + 0 from rfl, lay_mdl d F G 0 512 (by omega)]
  exact mdl_congr fun i hi => by rw [if_pos (by omega), Nat.sub_zero]
@[go_sem] theorem mdl_set0 (d e : Int) (F : Nat → Int) : (mdl d F).setIfInBounds 0 (.int .i64 e) = mdl e F := by
  apply mdl_ext
  · rw [Array.getElem?_setIfInBounds]; simp [mdl_size]
  · intro i hi; rw [Array.getElem?_setIfInBounds, if_neg (by omega), mdl_get d F (1 + i) (by omega) (by omega), Nat.add_sub_cancel_left]
  · intro i hi; rw [Array.getElem?_setIfInBounds, if_neg (by omega), mdl_none d F i hi]
theorem mdl_set (d : Int) (F : Nat → Int) {i j k : Nat} (hi : i < 8) (hj : j < 8) (hk : k < 8) (x : Int) : (mdl d F).setIfInBounds (1 + i * 64 + j * 8 + k) (.int .u8 x) = mdl d (upd F (i * 64 + (j * 8 + k)) x) := by
  apply mdl_ext
  · rw [Array.getElem?_setIfInBounds, if_neg (by omega), mdl_dim]
  · intro u hu
    rw [Array.getElem?_setIfInBounds, mdl_size]
    unfold upd
    by_cases h : u = i * 64 + (j * 8 + k)
    · rw [if_pos (by omega), if_pos (by omega), if_pos h]
    · rw [if_neg (by omega), if_neg h, mdl_get d F (1 + u) (by omega) (by omega), Nat.add_sub_cancel_left]
  · intro u hu; rw [Array.getElem?_setIfInBounds, if_neg (by omega), mdl_none d F u hu]

/-! ### the operations at the types -/
theorem aggMod : AggT Tryz.prog 41 513 := ⟨by kernel_rfl, by kernel_rfl⟩
@[go_sem ↓] theorem xloadMod (ρ : Operand → Value) (dst : Option Tmp) (a : Operand) (ty : TypeId) (pos : String) (after : Array Edge) (guard : Option (Nat × Bool)) (w : World) :
    (execOp ρ ⟨dst, .load 41 a, ty, pos, after, guard⟩).run Tryz.prog w = loadN Tryz.prog 41 (ρ a) w := rfl
@[go_sem] theorem loadMod (w : World) (b off : Nat) (h : Has w b (off + 513)) :
    loadN Tryz.prog 41 (.pointer (some ⟨b, off, none⟩)) w = .ok (.value (.agg ((blk w b).extract off (off + 513)))) w := loadN_at aggMod w b off h
@[go_sem ↓] theorem xstoreMod (ρ : Operand → Value) (dst : Option Tmp) (a x : Operand) (ty : TypeId) (pos : String) (after : Array Edge) (guard : Option (Nat × Bool)) (w : World) :
    (execOp ρ ⟨dst, .store 41 a x, ty, pos, after, guard⟩).run Tryz.prog w = storeN Tryz.prog 41 (ρ a) (ρ x) w := rfl
@[go_sem] theorem storeMod (w : World) (b off : Nat) (d : Int) (F : Nat → Int) (h : Has w b (off + 513)) :
    storeN Tryz.prog 41 (.pointer (some ⟨b, off, none⟩)) (.agg (mdl d F)) w = .ok .skip (w.setRow b (lay (blk w b) off (mdl d F))) := storeN_at aggMod w b off _ h (mdl_size _ _) (mdl_cells _ _)
@[go_sem ↓] theorem xallocMod (ρ : Operand → Value) (dst : Option Tmp) (ty : TypeId) (pos : String) (after : Array Edge) (guard : Option (Nat × Bool)) (w : World) :
    (execOp ρ ⟨dst, .alloc 41, ty, pos, after, guard⟩).run Tryz.prog w = allocN Tryz.prog 41 w := rfl
theorem zeros_gen1 (a x : Value) (n : Nat) : #[a] ++ (List.replicate n x).toArray = ([a] ++ List.replicate n x).toArray := by simp
theorem mdl_zeros : mdl 0 zf = ([Value.int .i64 0] ++ List.replicate 512 (Value.int .u8 0)).toArray := by
  unfold mdl; rw [row_zeros]; exact zeros_gen1 _ _ 512
@[go_sem] theorem allocMod (w : World) : allocN Tryz.prog 41 w = .ok (.value (.pointer (some ⟨w.heap.size, 0, none⟩))) (w.alloc (.cells (mdl 0 zf) 41)) := allocN_eq _ (by rw [mdl_zeros]; kernel_rfl) w
theorem aggModL : AggT Tryz.prog 28 513 := ⟨by kernel_rfl, by kernel_rfl⟩
@[go_sem ↓] theorem xloadModL (ρ : Operand → Value) (dst : Option Tmp) (a : Operand) (ty : TypeId) (pos : String) (after : Array Edge) (guard : Option (Nat × Bool)) (w : World) :
    (execOp ρ ⟨dst, .load 28 a, ty, pos, after, guard⟩).run Tryz.prog w = loadN Tryz.prog 28 (ρ a) w := rfl
@[go_sem] theorem loadModL (w : World) (b off : Nat) (h : Has w b (off + 513)) :
    loadN Tryz.prog 28 (.pointer (some ⟨b, off, none⟩)) w = .ok (.value (.agg ((blk w b).extract off (off + 513)))) w := loadN_at aggModL w b off h
theorem aggActs : AggT Tryz.prog 35 512 := ⟨by kernel_rfl, by kernel_rfl⟩
@[go_sem ↓] theorem xloadActs (ρ : Operand → Value) (dst : Option Tmp) (a : Operand) (ty : TypeId) (pos : String) (after : Array Edge) (guard : Option (Nat × Bool)) (w : World) :
    (execOp ρ ⟨dst, .load 35 a, ty, pos, after, guard⟩).run Tryz.prog w = loadN Tryz.prog 35 (ρ a) w := rfl
@[go_sem] theorem loadActs (w : World) (b off : Nat) (h : Has w b (off + 512)) :
    loadN Tryz.prog 35 (.pointer (some ⟨b, off, none⟩)) w = .ok (.value (.agg ((blk w b).extract off (off + 512)))) w := loadN_at aggActs w b off h
@[go_sem ↓] theorem xstoreActs (ρ : Operand → Value) (dst : Option Tmp) (a x : Operand) (ty : TypeId) (pos : String) (after : Array Edge) (guard : Option (Nat × Bool)) (w : World) :
    (execOp ρ ⟨dst, .store 35 a x, ty, pos, after, guard⟩).run Tryz.prog w = storeN Tryz.prog 35 (ρ a) (ρ x) w := rfl
@[go_sem] theorem storeActs (w : World) (b off : Nat) (F : Nat → Int) (h : Has w b (off + 512)) :
    storeN Tryz.prog 35 (.pointer (some ⟨b, off, none⟩)) (.agg (row 512 F)) w = .ok .skip (w.setRow b (lay (blk w b) off (row 512 F))) := storeN_at aggActs w b off _ h (row_size _ _) (row_cells _ _)
@[go_sem ↓] theorem xallocActs (ρ : Operand → Value) (dst : Option Tmp) (ty : TypeId) (pos : String) (after : Array Edge) (guard : Option (Nat × Bool)) (w : World) :
    (execOp ρ ⟨dst, .alloc 35, ty, pos, after, guard⟩).run Tryz.prog w = allocN Tryz.prog 35 w := rfl
@[go_sem] theorem allocActs (w : World) : allocN Tryz.prog 35 w = .ok (.value (.pointer (some ⟨w.heap.size, 0, none⟩))) (w.alloc (.cells (row 512 zf) 35)) := allocN_eq _ (by rw [row_zeros]; kernel_rfl) w

@[go_sem ↓] theorem buildMod0 (ρ : Operand → Value) (dst : Option Tmp) (ty : TypeId) (pos : String) (after : Array Edge) (guard : Option (Nat × Bool)) (w : World) :
    (execOp ρ ⟨dst, .build 41 #[], ty, pos, after, guard⟩).run Tryz.prog w = .ok (.value (.agg (mdl 0 zf))) w := by rw [mdl_zeros]; kernel_rfl
@[go_sem ↓] theorem xbuildMod1 (ρ : Operand → Value) (dst : Option Tmp) (a : Operand) (ty : TypeId) (pos : String) (after : Array Edge) (guard : Option (Nat × Bool)) (w : World) :
    (execOp ρ ⟨dst, .build 41 #[(0, a)], ty, pos, after, guard⟩).run Tryz.prog w = buildS Tryz.prog 41 #[(0, ρ a)] w := by kernel_rfl
@[go_sem ↓] theorem xbuildMod2 (ρ : Operand → Value) (dst : Option Tmp) (a b : Operand) (ty : TypeId) (pos : String) (after : Array Edge) (guard : Option (Nat × Bool)) (w : World) :
    (execOp ρ ⟨dst, .build 41 #[(0, a), (1, b)], ty, pos, after, guard⟩).run Tryz.prog w = buildS Tryz.prog 41 #[(0, ρ a), (1, ρ b)] w := by kernel_rfl
set_option maxRecDepth 100000 in
@[go_sem] theorem buildMod1 (d : Int) (w : World) : buildS Tryz.prog 41 #[(0, .int .i64 d)] w = .ok (.value (.agg (mdl d zf))) w := by
  refine build_struct (fields := fieldsOf Tryz.prog 41) (places := #[(0, 1), (1, 512)]) (zc := mdl 0 zf) (by kernel_rfl) (by rw [mdl_zeros]; kernel_rfl) (fun w => by kernel_rfl) ?_ w
  show Instr.fill _ _ [_] = _
  rw [fill_one (off := 0) rfl (by rw [mdl_size]; omega), mdl_set0]
  rfl
set_option maxRecDepth 100000 in
@[go_sem] theorem buildMod2 (d : Int) (F : Nat → Int) (w : World) : buildS Tryz.prog 41 #[(0, .int .i64 d), (1, .agg (row 512 F))] w = .ok (.value (.agg (mdl d F))) w := by
  refine build_struct (fields := fieldsOf Tryz.prog 41) (places := #[(0, 1), (1, 512)]) (zc := mdl 0 zf) (by kernel_rfl) (by rw [mdl_zeros]; kernel_rfl) (fun w => by kernel_rfl) ?_ w
  show Instr.fill _ _ [_, _] = _
  rw [fill_one (off := 0) rfl (by rw [mdl_size]; omega), mdl_set0, fill_row (off := 1) (m := 512) rfl (row_size _ _) (by rw [mdl_size]; omega), lay_mdl_acts]
  rfl

/-! ### lists of modules -/
theorem build_slice {P : Program} {T E : TypeId} {len size : Nat} {zc c : Array Value} {ps : Array (Nat × Value)} (hu : P.underlying T = some (.slice E)) (hz : (P.info? E).map (fun i => (i.size, i.zero)) = some (size, some (.agg zc))) (h0 : len * size ≠ 0) (h1 : ¬ len * size > 2 ^ 24)
    (hf : ∀ c0 : Array Value, c0.size = len * size → Instr.fill (fun i => some (i * size, size)) c0 ps.toList = some c) (w : World) : buildN P T len ps w = .ok (.value (.slice (some ⟨w.heap.size, 0, none⟩) len len)) (w.alloc (.cells c E)) := by
  cases hq : P.info? E with
  | none => simp [hq] at hz
  | some i =>
    simp [hq] at hz
    obtain ⟨e1, e2⟩ := hz
    have hs : (sizeOf E).run P w = .ok size w := by simp [sizeOf, typeInfo, hq, e1]
    have hz' : (zeroValue E).run P w = .ok (.agg zc) w := by simp [zeroValue, typeInfo, hq, e2]
    have e : (Value.agg zc).cells = zc := rfl
    have hf' := hf ((Array.range (len * size)).map (zc[· % zc.size]!)) (by simp)
    simp only [buildN, Instr.buildSlice, Sem.run_bind, run_underlying hu, Result.andThen_ok, hs, if_neg h1, if_neg h0, hz', Sem.run_pure, e, hf']
    rfl
theorem mods_one (c0 cs : Array Value) (h0 : c0.size = 1 * 513) (h : cs.size = 513) : Instr.fill (fun i => some (i * 513, 513)) c0 [(0, .agg cs)] = some cs := by
  rw [fill_row (off := 0 * 513) (m := 513) rfl h (by omega)]
  show some _ = some _
  refine congrArg some (Array.ext_getElem? fun i => ?_)
  rw [lay_get _ _ _ _ (by omega)]
  by_cases hi : i < 513
  · rw [if_pos (by omega), Nat.zero_mul, Nat.sub_zero]
  · rw [if_neg (by omega), Array.getElem?_eq_none (by omega), Array.getElem?_eq_none (by omega)]
theorem lay_size (c : Array Value) (off : Nat) (cs : Array Value) (h : off + cs.size ≤ c.size) : (lay c off cs).size = c.size := by
  unfold lay; simp; omega
theorem mods_two (c0 cs ds : Array Value) (h0 : c0.size = 2 * 513) (h : cs.size = 513) (h2 : ds.size = 513) : Instr.fill (fun i => some (i * 513, 513)) c0 [(0, .agg cs), (1, .agg ds)] = some (cs ++ ds) := by
  have hl : (lay c0 (0 * 513) cs).size = 1026 := by
    have := lay_size c0 (0 * 513) cs (by omega)
    omega
  rw [fill_row (off := 0 * 513) (m := 513) rfl h (by omega), fill_row (off := 1 * 513) (m := 513) rfl h2 (by omega)]
  show some _ = some _
  refine congrArg some (Array.ext_getElem? fun i => ?_)
  rw [lay_get _ _ _ _ (by omega), lay_get _ _ _ _ (by omega), Array.getElem?_append, h, h2]
  by_cases hi : i < 513
  · rw [if_neg (by omega), if_pos (by omega), if_pos hi, Nat.zero_mul, Nat.sub_zero]
  · rw [if_neg hi]
    by_cases h3 : i < 1026
    · rw [if_pos (by omega), Nat.one_mul]
    · rw [if_neg (by omega), if_neg (by omega), Array.getElem?_eq_none (by omega), Array.getElem?_eq_none (by omega)]
@[go_sem ↓] theorem xbuildM1 (ρ : Operand → Value) (dst : Option Tmp) (a : Operand) (ty : TypeId) (pos : String) (after : Array Edge) (guard : Option (Nat × Bool)) (w : World) :
    (execOp ρ ⟨dst, .buildSlice 141 1 #[(0, a)], ty, pos, after, guard⟩).run Tryz.prog w = buildN Tryz.prog 141 1 #[(0, ρ a)] w := by kernel_rfl
@[go_sem ↓] theorem xbuildM2 (ρ : Operand → Value) (dst : Option Tmp) (a b : Operand) (ty : TypeId) (pos : String) (after : Array Edge) (guard : Option (Nat × Bool)) (w : World) :
    (execOp ρ ⟨dst, .buildSlice 141 2 #[(0, a), (1, b)], ty, pos, after, guard⟩).run Tryz.prog w = buildN Tryz.prog 141 2 #[(0, ρ a), (1, ρ b)] w := by kernel_rfl
@[go_sem] theorem buildM1 (d : Int) (F : Nat → Int) (w : World) : buildN Tryz.prog 141 1 #[(0, .agg (mdl d F))] w = .ok (.value (.slice (some ⟨w.heap.size, 0, none⟩) 1 1)) (w.alloc (.cells (mdl d F) 41)) :=
  build_slice (E := 41) (size := 513) (zc := mdl 0 zf) (by kernel_rfl) (by rw [mdl_zeros]; kernel_rfl) (by omega) (by omega) (fun c0 h => mods_one c0 _ h (mdl_size _ _)) w
@[go_sem] theorem buildM2 (d e : Int) (F G : Nat → Int) (w : World) : buildN Tryz.prog 141 2 #[(0, .agg (mdl d F)), (1, .agg (mdl e G))] w = .ok (.value (.slice (some ⟨w.heap.size, 0, none⟩) 2 2)) (w.alloc (.cells (mdl d F ++ mdl e G) 41)) :=
  build_slice (E := 41) (size := 513) (zc := mdl 0 zf) (by kernel_rfl) (by rw [mdl_zeros]; kernel_rfl) (by omega) (by omega) (fun c0 h => mods_two c0 _ _ h (mdl_size _ _) (mdl_size _ _)) w

/-! ### methods of what an interface holds -/
def invokeP (P : Program) (name : String) (v : Value) (w : World) : Result Next := (execOp (fun _ => v) ⟨none, .call { callee := .invoke (.tmp 0) name, args := #[], argTypes := #[] }, 0, "", #[], none⟩).run P w
@[go_sem ↓] theorem xinvokeP (ρ : Operand → Value) (dst : Option Tmp) (a : Operand) (name : String) (ty : TypeId) (pos : String) (after : Array Edge) (guard : Option (Nat × Bool)) (P : Program) (w : World) :
    (execOp ρ ⟨dst, .call { callee := .invoke a name, args := #[], argTypes := #[] }, ty, pos, after, guard⟩).run P w = invokeP P name (ρ a) w := by unfold invokeP; simp [execOp, resolve]
def invoke2 (P : Program) (name : String) (v a b : Value) (w : World) : Result Next := (execOp (fun o => match o with | .tmp 0 => v | .tmp 1 => a | _ => b) ⟨none, .call { callee := .invoke (.tmp 0) name, args := #[.tmp 1, .tmp 2], argTypes := #[] }, 0, "", #[], none⟩).run P w
@[go_sem ↓] theorem xinvoke2 (ρ : Operand → Value) (dst : Option Tmp) (a b c : Operand) (name : String) (ts : Array TypeId) (ty : TypeId) (pos : String) (after : Array Edge) (guard : Option (Nat × Bool)) (P : Program) (w : World) :
    (execOp ρ ⟨dst, .call { callee := .invoke a name, args := #[b, c], argTypes := ts }, ty, pos, after, guard⟩).run P w = invoke2 P name (ρ a) (ρ b) (ρ c) w := by unfold invoke2; simp [execOp, resolve]

@[go_sem] theorem invDim_Module (v : Value) (w : World) : invokeP Tryz.prog "loop.example/g01230/impl.dim" (.iface 41 v) w = .ok (.enter 195 #[v]) w := by kernel_rfl

@[go_sem] theorem invImage_Module (v a b : Value) (w : World) : invoke2 Tryz.prog "loop.example/g01230/impl.image" (.iface 41 v) a b w = .ok (.enter 196 #[v, a, b]) w := by kernel_rfl

@[go_sem] theorem invDim_quotientAction (v : Value) (w : World) : invokeP Tryz.prog "loop.example/g01230/impl.dim" (.iface 82 v) w = .ok (.enter 48 #[v]) w := by kernel_rfl

@[go_sem] theorem invImage_quotientAction (v a b : Value) (w : World) : invoke2 Tryz.prog "loop.example/g01230/impl.image" (.iface 82 v) a b w = .ok (.enter 197 #[v, a, b]) w := by kernel_rfl

set_option maxRecDepth 100000 in
theorem open_mod {w : World} {r : Reach} {base : Nat} {v : Value} (h : Value.okWide Tryz.prog w r base 28 v) :
    ∃ (d : Int) (F : Nat → Int), v = .agg (mdl d F) ∧ (Lit.int .i64 d).wf = true ∧ Bytes 512 F := by
  have ht : Tryz.prog.cellTypes Tryz.prog.depth 28 = some ([2] ++ List.replicate 512 5) := by kernel_rfl
  have hc : Tryz.prog.cellsOf 28 = 513 := by kernel_rfl
  unfold Value.okWide at h
  rw [Tryz.underlying28] at h
  obtain ⟨cs, rfl, hs, ts, hts, _, hall⟩ := h
  rw [ht] at hts
  simp only [Option.some.injEq] at hts
  rw [hc] at hs
  have hlen : ts.length = 513 := by rw [← hts, List.length_append, List.length_replicate]; rfl
  have get : ∀ i, i < 513 → ∃ v u, cs[i]? = some v ∧ ts[i]? = some u ∧ Cell.okWide Tryz.prog w r base u v := by
    intro i hi
    obtain ⟨v, hv⟩ : ∃ v, cs[i]? = some v := ⟨cs[i], by simp [hs, hi]⟩
    obtain ⟨u, h1, h2⟩ := hall i v hv
    rw [hlen, Nat.mod_eq_of_lt hi] at h1
    exact ⟨v, u, hv, h1, h2⟩
  obtain ⟨v0, u0, h0, t0, k0⟩ := get 0 (by omega)
  rw [← hts] at t0
  obtain rfl : u0 = 2 := by simpa using t0.symm
  obtain ⟨d, rfl, wd⟩ := cell_i64 Tryz.underlying2 k0
  have key : ∀ i, i < 512 → ∃ k : Int, cs[1 + i]? = some (.int .u8 k) ∧ 0 ≤ k ∧ k ≤ 255 := by
    intro i hi
    obtain ⟨v, u, h2, t2, k2⟩ := get (1 + i) (by omega)
    have e : u = 5 := by
      rw [← hts, List.getElem?_append] at t2
      simp only [List.length_cons, List.length_nil] at t2
      rw [if_neg (by omega), List.getElem?_replicate] at t2
      split at t2
      · simpa using t2.symm
      · cases t2
    subst e
    obtain ⟨k, rfl, h3, h4⟩ := cell_u8 Tryz.underlying5 k2
    exact ⟨k, h2, h3, h4⟩
  refine ⟨d, fun i => cellInt cs (1 + i), ?_, wd, ?_⟩
  · refine congrArg Value.agg ?_
    refine mdl_ext h0 (fun i hi => ?_) (fun i hi => by simp [hs]; omega)
    obtain ⟨k, h2, _⟩ := key i hi
    simp only [h2, cellInt]
  · clear hall ht hc hts hlen get k0 t0 h0
    intro i hi
    have hk := key i hi
    show 0 ≤ cellInt cs (1 + i) ∧ cellInt cs (1 + i) ≤ 255
    obtain ⟨k, h2, h3, h4⟩ := hk
    simp only [cellInt, h2]
    exact ⟨h3, h4⟩

end Go.Proofs.YtjmmmggnbndolaaGreat
