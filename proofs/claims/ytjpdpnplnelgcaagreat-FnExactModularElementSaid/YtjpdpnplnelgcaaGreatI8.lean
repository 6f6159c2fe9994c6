/- Modular forms. -/
import Derived.Test.YtjpdpnplnelgcaaGreatI2
namespace Go.Proofs.YtjpdpnplnelgcaaGreat
open Go.RowKit
set_option linter.unusedSimpArgs false
set_option linter.unusedVariables false
attribute [local irreducible] wpQuiet wpQE

/-! ### impl.multiples: an algebra, an integral and a place -/
theorem lay_sz {c cs : Array Value} {off : Nat} (h : off + cs.size ≤ c.size) : (lay c off cs).size = c.size := by
  unfold lay
  simp only [List.size_toArray, List.length_append, List.length_take, List.length_drop, Array.length_toList]
  omega
def mlt (p n : Int) (f g : Nat → Int) (q : Int) : Array Value := alg p n f ++ (row 8 g ++ #[.int .i64 q])
@[go_sem] theorem mlt_size (p n : Int) (f g : Nat → Int) (q : Int) : (mlt p n f g q).size = 531 := by simp [mlt, row_size, alg_size]
theorem mlt_lo (p n : Int) (f g : Nat → Int) (q : Int) (i : Nat) (h : i < 522) : (mlt p n f g q)[i]? = (alg p n f)[i]? := by
  unfold mlt; rw [Array.getElem?_append, alg_size, if_pos h]
theorem mlt_mid (p n : Int) (f g : Nat → Int) (q : Int) (i : Nat) (h : i < 8) : (mlt p n f g q)[522 + i]? = (row 8 g)[i]? := by
  unfold mlt; rw [Array.getElem?_append, alg_size, if_neg (by omega), Nat.add_sub_cancel_left, Array.getElem?_append, row_size, if_pos h]
@[go_sem] theorem mlt_at (p n : Int) (f g : Nat → Int) (q : Int) : (mlt p n f g q)[530]? = some (.int .i64 q) := by
  unfold mlt; rw [Array.getElem?_append, alg_size, if_neg (by omega), Array.getElem?_append, row_size, if_neg (by omega)]; rfl
@[go_sem] theorem mlt_at' (p n : Int) (f g : Nat → Int) (q : Int) (h : 530 < (mlt p n f g q).size) : (mlt p n f g q)[530] = .int .i64 q := by
  have := mlt_at p n f g q
  rw [Array.getElem?_eq_getElem h] at this
  simpa using this
@[go_sem] theorem mlt_all (p n : Int) (f g : Nat → Int) (q : Int) : (mlt p n f g q).extract 0 531 = mlt p n f g q := by
  rw [show (531 : Nat) = (mlt p n f g q).size from (mlt_size p n f g q).symm]; simp
@[go_sem] theorem mlt_alg (p n : Int) (f g : Nat → Int) (q : Int) : (mlt p n f g q).extract 0 522 = alg p n f := by
  apply Array.ext_getElem?
  intro i
  rw [Array.getElem?_extract, mlt_size]
  by_cases h : i < 522
  · rw [if_pos (by omega), Nat.zero_add, mlt_lo p n f g q i h]
  · rw [if_neg (by omega), Array.getElem?_eq_none]; rw [alg_size]; omega
@[go_sem] theorem mlt_row (p n : Int) (f g : Nat → Int) (q : Int) : (mlt p n f g q).extract 522 530 = row 8 g := by
  apply Array.ext_getElem?
  intro i
  rw [Array.getElem?_extract, mlt_size]
  by_cases h : i < 8
  · rw [if_pos (by omega), mlt_mid p n f g q i h]
  · rw [if_neg (by omega), Array.getElem?_eq_none]; rw [row_size]; omega
@[go_sem] theorem mlt_row' (p n : Int) (f g : Nat → Int) (q : Int) : (mlt p n f g q).extract 522 (522 + 8) = row 8 g := mlt_row p n f g q
theorem mlt_cells (p n : Int) (f g : Nat → Int) (q : Int) : (mlt p n f g q).all (·.oneCell') = true := by
  unfold mlt
  rw [Array.all_append, Array.all_append, alg_cells, row_cells]
  simp [Value.oneCell']
@[go_sem] theorem lay_mlt (p n q p' n' q' : Int) (f g f' g' : Nat → Int) : lay (mlt p n f g q) 0 (mlt p' n' f' g' q') = mlt p' n' f' g' q' := by
  apply Array.ext_getElem?
  intro i
  rw [lay_get _ _ _ _ (by rw [mlt_size, mlt_size]; omega), mlt_size]
  split
  · rfl
  · rw [Array.getElem?_eq_none (by rw [mlt_size]; omega), Array.getElem?_eq_none (by rw [mlt_size]; omega)]
theorem aggMlt : AggT Tryz.prog 85 531 := ⟨by kernel_rfl, by kernel_rfl⟩
@[go_sem ↓] theorem xloadMlt (ρ : Operand → Value) (dst : Option Tmp) (a : Operand) (ty : TypeId) (pos : String) (after : Array Edge) (guard : Option (Nat × Bool)) (w : World) :
    (execOp ρ ⟨dst, .load 85 a, ty, pos, after, guard⟩).run Tryz.prog w = loadN Tryz.prog 85 (ρ a) w := rfl
@[go_sem] theorem loadMlt (w : World) (b off : Nat) (h : Has w b (off + 531)) :
    loadN Tryz.prog 85 (.pointer (some ⟨b, off, none⟩)) w = .ok (.value (.agg ((blk w b).extract off (off + 531)))) w := loadN_at aggMlt w b off h
@[go_sem ↓] theorem xstoreMlt (ρ : Operand → Value) (dst : Option Tmp) (a x : Operand) (ty : TypeId) (pos : String) (after : Array Edge) (guard : Option (Nat × Bool)) (w : World) :
    (execOp ρ ⟨dst, .store 85 a x, ty, pos, after, guard⟩).run Tryz.prog w = storeN Tryz.prog 85 (ρ a) (ρ x) w := rfl
@[go_sem] theorem storeMlt (w : World) (b off : Nat) (p n : Int) (f g : Nat → Int) (q : Int) (h : Has w b (off + 531)) :
    storeN Tryz.prog 85 (.pointer (some ⟨b, off, none⟩)) (.agg (mlt p n f g q)) w = .ok .skip (w.setRow b (lay (blk w b) off (mlt p n f g q))) := storeN_at aggMlt w b off _ h (mlt_size _ _ _ _ _) (mlt_cells _ _ _ _ _)
@[go_sem ↓] theorem xallocMlt (ρ : Operand → Value) (dst : Option Tmp) (ty : TypeId) (pos : String) (after : Array Edge) (guard : Option (Nat × Bool)) (w : World) :
    (execOp ρ ⟨dst, .alloc 85, ty, pos, after, guard⟩).run Tryz.prog w = allocN Tryz.prog 85 w := rfl
theorem mlt_zeros : mlt 0 0 zf zf 0 = (([Value.int .i64 0, Value.int .i64 0] ++ List.replicate 528 (Value.int .u8 0)) ++ [Value.int .i64 0]).toArray := by
  have h1 : mlt 0 0 zf zf 0 = cnt 0 0 zf ++ #[.int .i64 0] := by
    apply Array.ext_getElem?
    intro i
    rw [Array.getElem?_append, cnt_size]
    by_cases a : i < 522
    · rw [if_pos (by omega), mlt_lo _ _ _ _ _ _ a, ← cnt_alg 0 0 zf, Array.getElem?_extract, cnt_size, if_pos (by omega), Nat.zero_add]
    · by_cases b : i < 530
      · obtain ⟨k, rfl⟩ : ∃ k, i = 522 + k := ⟨i - 522, by omega⟩
        rw [if_pos b, mlt_mid _ _ _ _ _ _ (by omega), cnt_get _ _ _ _ (by omega) (by omega), row_get? _ _ _ (by omega)]; rfl
      · rw [if_neg b]
        by_cases c : i = 530
        · subst c; rw [mlt_at]; rfl
        · rw [Array.getElem?_eq_none (by rw [mlt_size]; omega), Array.getElem?_eq_none (by simp; omega)]
  rw [h1, cnt_zeros]
  exact List.append_toArray _ _
@[go_sem] theorem allocMlt (w : World) : allocN Tryz.prog 85 w = .ok (.value (.pointer (some ⟨w.heap.size, 0, none⟩))) (w.alloc (.cells (mlt 0 0 zf zf 0) 85)) := allocN_eq _ (by rw [mlt_zeros]; kernel_rfl) w

set_option maxRecDepth 100000 in
@[go_sem ↓] theorem xbuildMlt (ρ : Operand → Value) (dst : Option Tmp) (a b c : Operand) (ty : TypeId) (pos : String) (after : Array Edge) (guard : Option (Nat × Bool)) (w : World) :
    (execOp ρ ⟨dst, .build 85 #[(0, a), (1, b), (2, c)], ty, pos, after, guard⟩).run Tryz.prog w = buildS Tryz.prog 85 #[(0, ρ a), (1, ρ b), (2, ρ c)] w := by
  kernel_rfl

set_option maxRecDepth 100000 in
@[go_sem] theorem buildMlt (p n : Int) (f g : Nat → Int) (q : Int) (w : World) : buildS Tryz.prog 85 #[(0, .agg (alg p n f)), (1, .agg (row 8 g)), (2, .int .i64 q)] w = .ok (.value (.agg (mlt p n f g q))) w := by
  refine build_struct (fields := fieldsOf Tryz.prog 85) (places := #[(0, 522), (522, 8), (530, 1)]) (zc := mlt 0 0 zf zf 0) (by kernel_rfl) (by rw [mlt_zeros]; kernel_rfl) (fun w => by kernel_rfl) ?_ w
  show Instr.fill _ _ [_, _, _] = _
  rw [fill_row (off := 0) (m := 522) rfl (alg_size _ _ _) (by rw [mlt_size]; omega), fill_row (off := 522) (m := 8) rfl (row_size _ _) (by rw [lay_sz (by rw [mlt_size, alg_size]; omega), mlt_size]; omega), fill_any (off := 530) rfl rfl (by rw [lay_sz (by rw [lay_sz (by rw [mlt_size, alg_size]; omega), mlt_size, row_size]; omega), lay_sz (by rw [mlt_size, alg_size]; omega), mlt_size]; omega)]
  show some _ = some _
  refine congrArg some ?_
  apply Array.ext_getElem?
  intro i
  rw [Array.getElem?_setIfInBounds, lay_sz (by rw [lay_sz (by rw [mlt_size, alg_size]; omega), mlt_size, row_size]; omega), lay_sz (by rw [mlt_size, alg_size]; omega), mlt_size, lay_get _ _ _ _ (by rw [lay_sz (by rw [mlt_size, alg_size]; omega), mlt_size, row_size]; omega), row_size, lay_get _ _ _ _ (by rw [mlt_size, alg_size]; omega), alg_size]
  by_cases a : i < 522
  · rw [if_neg (by omega), if_neg (by omega), if_pos (by omega), mlt_lo _ _ _ _ _ _ a, Nat.sub_zero]
  · by_cases b : i < 530
    · obtain ⟨k, rfl⟩ : ∃ k, i = 522 + k := ⟨i - 522, by omega⟩
      rw [if_neg (by omega), if_pos (by omega), mlt_mid _ _ _ _ _ _ (by omega), Nat.add_sub_cancel_left]
    · by_cases c : i = 530
      · subst c; rw [if_pos rfl, if_pos (by omega), mlt_at]
      · rw [if_neg (by omega), if_neg (by omega), if_neg (by omega), Array.getElem?_eq_none (by rw [mlt_size]; omega), Array.getElem?_eq_none (by rw [mlt_size]; omega)]

/-! ### the modular form -/
theorem mulF_rt {p : Int} {n : Nat} {m : Nat → Nat → Nat → Int} {v u u' : Nat → Int} (h : ∀ j, j < n → u j = u' j) (k : Nat) : mulF p n m v u k = mulF p n m v u' k := by
  unfold mulF
  rw [sumTo_congr n fun i _ => sumTo_congr n fun j hj => by rw [h j hj]]
theorem mulF_none {p : Int} {n : Nat} {m : Nat → Nat → Nat → Int} {v u : Nat → Int} (h : ∀ j, j < n → u j = 0) (k : Nat) : mulF p n m v u k = 0 := by
  unfold mulF
  rw [sumTo_zero n fun i _ => sumTo_zero n fun j hj => by rw [h j hj, Int.mul_zero, Int.zero_mul]]
  rfl
theorem lef_rg {p : Int} {n : Nat} {f : Nat → Int} (h : Intable p n f) (t : Nat) (ht : t < 8) : 0 ≤ lefG p n f t ∧ lefG p n f t < p := by
  obtain ⟨R, g, hT⟩ := lef_tells (f := f) h.prime h.le
  exact tells_rng (tel_yes hT) 0 h.left t ht
theorem int_p2 {p : Int} {n : Nat} {f : Nat → Int} (h : Intable p n f) : 2 ≤ p ∧ p ≤ 255 := by
  have := h.prime; have := p2_of h.prime; unfold prime31 at *; simp only [Bool.and_eq_true, decide_eq_true_eq] at *; omega
theorem lef_bt {p : Int} {n : Nat} {f : Nat → Int} (h : Intable p n f) : Bytes 8 (lefG p n f) := fun t ht => by have := lef_rg h t ht; have := int_p2 h; omega
theorem lef_first {p : Int} {n : Nat} {f : Nat → Int} (h : Intable p n f) : ∃ q, q < 8 ∧ (∀ t, t < q → lefG p n f t = 0) ∧ lefG p n f q ≠ 0 := by
  obtain ⟨R, g, hT⟩ := lef_tells (f := f) h.prime h.le
  obtain ⟨⟨l, r⟩, _⟩ := tel_yes hT
  refine ⟨l 0, r.lt 0 h.left, fun t ht => r.low 0 h.left t ht, ?_⟩
  show telG p (lefS p n f) 0 (l 0) ≠ 0
  rw [r.one 0 h.left]
  decide
open Classical in
/-- the place of the integral's first entry that is not 0 -/
noncomputable def lefQ (p : Int) (n : Nat) (f : Nat → Int) : Nat := if h : ∃ q, q < 8 ∧ (∀ t, t < q → lefG p n f t = 0) ∧ lefG p n f q ≠ 0 then h.choose else 0
theorem lefQ_spec {p : Int} {n : Nat} {f : Nat → Int} (h : Intable p n f) : lefQ p n f < 8 ∧ (∀ t, t < lefQ p n f → lefG p n f t = 0) ∧ lefG p n f (lefQ p n f) ≠ 0 := by
  unfold lefQ
  rw [dif_pos (lef_first h)]
  exact (lef_first h).choose_spec
/-- the values of the first k rows of F -/
def valK (p : Int) (n : Nat) (f g : Nat → Int) (q : Nat) (F : Nat → Int) (k : Nat) : Nat → Int := fun t => if t < k then mulF p n (mtab f) g (fun s => F (t * 8 + s)) q else 0
theorem val_zero (p : Int) (n : Nat) (f g : Nat → Int) (q : Nat) (F : Nat → Int) : row 8 zf = row 8 (valK p n f g q F 0) := row_congr fun t _ => by unfold valK zf; rw [if_neg (by omega)]
theorem val_step (p : Int) (n : Nat) (f g : Nat → Int) (q : Nat) (F : Nat → Int) (k : Nat) : row 8 (upd (valK p n f g q F k) k (mulF p n (mtab f) g (fun s => F (k * 8 + s)) q)) = row 8 (valK p n f g q F (k + 1)) := row_congr fun t _ => by
  unfold upd valK
  by_cases h : t = k
  · subst h; rw [if_pos rfl, if_pos (by omega)]
  · rw [if_neg h]
    exact ifi (by omega) _
noncomputable def modF (p : Int) (n : Nat) (f : Nat → Int) : Nat → Int := valK p n f (lefG p n f) (lefQ p n f) (idK n) 8
/-- the values of the first k basis vectors -/
def moK (p : Int) (n : Nat) (f g : Nat → Int) (q : Nat) (k : Nat) : Nat → Int := fun t => if t < k then mulF p n (mtab f) g (ebas t) q else 0
theorem mo_zero (p : Int) (n : Nat) (f g : Nat → Int) (q : Nat) : row 8 zf = row 8 (moK p n f g q 0) := row_congr fun t _ => by unfold moK zf; rw [if_neg (by omega)]
theorem mo_step (p : Int) (n : Nat) (f g : Nat → Int) (q k : Nat) : row 8 (upd (moK p n f g q k) k (mulF p n (mtab f) g (ebas k) q)) = row 8 (moK p n f g q (k + 1)) := row_congr fun t _ => by
  unfold upd moK
  by_cases h : t = k
  · subst h; rw [if_pos rfl, if_pos (by omega)]
  · rw [if_neg h]
    exact ifi (by omega) _
theorem mo_all {p : Int} {n : Nat} {f : Nat → Int} (hn : n ≤ 8) : row 8 (moK p n f (lefG p n f) (lefQ p n f) n) = row 8 (modF p n f) := row_congr fun t ht => by
  unfold moK modF valK
  rw [if_pos ht]
  by_cases h : t < n
  · rw [if_pos h]
    refine mulF_rt (fun j hj => ?_) _
    unfold idK
    rw [show (t * 8 + j) / 8 = t by omega, show (t * 8 + j) % 8 = j by omega, if_pos h]
  · rw [if_neg h, mulF_none fun j hj => ?_]
    unfold idK
    rw [show (t * 8 + j) / 8 = t by omega, if_neg h]

set_option maxRecDepth 100000 in
set_option maxHeartbeats 1000000 in
theorem factor_any (p : Int) (n q : Nat) (f g v : Nat → Int) (w : World) (hp : 0 < p) (hp' : p ≤ 255) (hn : n ≤ 8) (hf : Bytes 520 f) (hg : Bytes 8 g) (hq : q < 8) (hv : Bytes 8 v) :
    Calls Tryz.prog 86 #[.agg (mlt p n f g q), .agg (row 8 v)] w fun e w' => e = .returned (.int .u8 (mulF p n (mtab f) g v q)) ∧ Below w.heap.size w w' := by
 have Hf := Lib.hid hf; clear hf
 have Hg := Lib.hid hg; clear hg
 have Hv := Lib.hid hv; clear hv
 have hq8 : (q : Int) < 8 := by omega
 have hq0 : (0 : Int) ≤ (q : Int) := by omega
 go_enter Tryz.func86, Tryz.ntmps86
 go_wp2
 refine atomW fun W1 e1 => ?_
 have hb1 : Below w.heap.size w W1 := by rw [e1]; exact bt
 have q1 := hb1.size
 have R1 : IsRow W1 (w.heap.size) ∧ IsRow W1 (w.heap.size + 1) := by rw [e1]; simp [go_sem]
 obtain ⟨r2_1, r3_1⟩ := R1
 have C1 := (⟨congrArg (blk · (w.heap.size)) e1, congrArg (blk · (w.heap.size + 1)) e1⟩ : _ ∧ _); simp [go_sem] at C1
 obtain ⟨c2_1, c3_1⟩ := C1
 have z2_1 := isRow_lt r2_1; have z3_1 := isRow_lt r3_1
 clear e1
 refine wp_quiet_all (Below W1.heap.size W1) (by kernel_rfl) (by kernel_rfl) (Below.refl _ _).drew ?_
 iterate 5 (refine q_plain rfl ?_; apply Exists.intro; refine ⟨fun W hW => ?_, ?_⟩; (focus (obtain ⟨x2, y2⟩ := keepB hW z2_1 r2_1 c2_1; obtain ⟨x3, y3⟩ := keepB hW z3_1 r3_1 c3_1; go_simp; first | done | rfl)); simp only [Act.put, List.setIfInBounds_toArray, List.set_cons_zero, List.set_cons_succ])
 (refine q_plain rfl ?_; apply Exists.intro; refine ⟨fun W hW => ?_, ?_⟩; (focus (obtain ⟨x2, y2⟩ := keepB hW z2_1 r2_1 c2_1; obtain ⟨x3, y3⟩ := keepB hW z3_1 r3_1 c3_1; go_simp; (go_at_call 112; exact (multiply_any p n f g v _ hp hp' hn Hf.out Hg.out Hv.out).mono fun e w2 ⟨he, hw2⟩ => ⟨he, hW.trans (hw2.mono hW.size)⟩))); simp only [Act.put, List.setIfInBounds_toArray, List.set_cons_zero, List.set_cons_succ])
 iterate 4 (refine q_plain rfl ?_; apply Exists.intro; refine ⟨fun W hW => ?_, ?_⟩; (focus (obtain ⟨x2, y2⟩ := keepB hW z2_1 r2_1 c2_1; obtain ⟨x3, y3⟩ := keepB hW z3_1 r3_1 c3_1; go_simp; first | done | rfl)); simp only [Act.put, List.setIfInBounds_toArray, List.set_cons_zero, List.set_cons_succ])
 refine wpQuiet_nil ?_
 intro W2 hw2
 obtain ⟨r2_2, c2_2, z2_2⟩ := keepZ hw2 z2_1 r2_1 c2_1
 obtain ⟨r3_2, c3_2, z3_2⟩ := keepZ hw2 z3_1 r3_1 c3_1
 obtain ⟨hb2, q2⟩ := bN hb1 hw2
 clear hw2 r2_1 c2_1 z2_1 r3_1 c3_1 z3_1 hb1
 go_wp2_with fail
 go_ret
 exact ⟨rfl, bt⟩

set_option maxRecDepth 100000 in
set_option maxHeartbeats 1000000 in
theorem valuesOf_mlt (p : Int) (n q : Nat) (f g F : Nat → Int) (w : World) (hp : 0 < p) (hp' : p ≤ 255) (hn : n ≤ 8) (hf : Bytes 520 f) (hg : Bytes 8 g) (hq : q < 8) (hF : Bytes 64 F) :
    Calls Tryz.prog 83 #[.agg (row 64 F), .func (.func 86) #[.agg (mlt p n f g q)] #[]] w fun e w' => e = .returned (.agg (row 8 (valK p n f g q F 8))) ∧ Below w.heap.size w w' := by
 have Hf := Lib.hid hf; clear hf
 have Hg := Lib.hid hg; clear hg
 have HF := Lib.hid hF; clear hF
 go_enter Tryz.func83, Tryz.ntmps83
 go_wp2
 refine atomW fun W1 e1 => ?_
 have hb1 : Below w.heap.size w W1 := by rw [e1]; exact bt
 have q1 := hb1.size
 have R1 : IsRow W1 (w.heap.size + 1) ∧ IsRow W1 (w.heap.size + 2) := by rw [e1]; simp [go_sem]
 obtain ⟨r4_1, r5_1⟩ := R1
 have C1 := (⟨congrArg (blk · (w.heap.size + 1)) e1, congrArg (blk · (w.heap.size + 2)) e1⟩ : _ ∧ _); simp [go_sem] at C1
 obtain ⟨c4_1, c5_1⟩ := C1
 have z4_1 := isRow_lt r4_1; have z5_1 := isRow_lt r5_1
 clear e1
 go_loopw [9] (fun s9 wr => ∃ i : Nat, i ≤ 8 ∧ s9 = .int .i64 i ∧ Below w.heap.size w wr ∧ (IsRow wr (w.heap.size + 1) ∧ blk wr (w.heap.size + 1) = blk W1 (w.heap.size + 1)) ∧ (IsRow wr (w.heap.size + 2) ∧ blk wr (w.heap.size + 2) = row 8 (valK p n f g q F i))) (fun s9 _ => 8 - (intOf s9).toNat)
 case atStart => exact ⟨0, by omega, rfl, hb1, ⟨r4_1, rfl⟩, ⟨r5_1, c5_1.trans (val_zero p n f g q F)⟩⟩
 case round =>
  obtain ⟨i, hle2, rfl, hb2, ⟨r4_2, c4_2⟩, ⟨r5_2, c5_2⟩⟩ := hrel
  obtain ⟨W2, rfl⟩ : ∃ W2 : World, W2 = wr := ⟨_, rfl⟩
  have q2 := hb2.size
  have E4_2 := Lib.hid c4_1; replace c4_2 := c4_2.trans c4_1
  have z4_2 := isRow_lt r4_2
  have z5_2 := isRow_lt r5_2
  clear r4_1 c4_1 z4_1 r5_1 c5_1 z5_1 hb1
  by_cases hlt2 : i < 8
  ·
   have i0_2 : (0 : Int) ≤ (i : Int) := by omega
   have i8_2 : (i : Int) < 8 := by omega
   have k8_2 : i < 8 := by omega
   have m8_2 : i * 8 + 8 ≤ 64 := by omega
   have m64_2 : i * 64 + 64 ≤ 512 := by omega
   have l1_2 : 10 + i * 64 + 64 ≤ 522 := by omega
   have HB : Hid (Bytes 8 fun s => F (i * 8 + s)) := Lib.hid fun s _ => HF.out _ (by omega)
   go_wp2_with fail
   have nw4_W2_0 : (w.heap.size + 1) ≠ W2.heap.size := by omega
   have nw5_W2_0 : (w.heap.size + 2) ≠ W2.heap.size := by omega
   refine atomC fun W3 e3 => ?_
   have hb3 : Below w.heap.size w W3 := by rw [e3]; exact bt
   have q3 := hb3.size
   have R3 : IsRow W3 (w.heap.size + 1) ∧ IsRow W3 (w.heap.size + 2) := by rw [e3]; simp [go_sem, r4_2, c4_2, r5_2, c5_2, nw4_W2_0, nw5_W2_0]
   obtain ⟨r4_3, r5_3⟩ := R3
   have C3 := (⟨congrArg (blk · (w.heap.size + 1)) e3, congrArg (blk · (w.heap.size + 2)) e3⟩ : _ ∧ _); simp [go_sem, r4_2, c4_2, r5_2, c5_2, nw4_W2_0, nw5_W2_0] at C3
   obtain ⟨c4_3, c5_3⟩ := C3
   have z4_3 := isRow_lt r4_3; have z5_3 := isRow_lt r5_3
   clear e3 nw4_W2_0 nw5_W2_0 r4_2 c4_2 z4_2 r5_2 c5_2 z5_2 hb2
   refine (factor_any p n q f g _ _ hp hp' hn Hf.out Hg.out hq HB.out).mono ?_; rintro _ W4 ⟨rfl, hw4⟩
   obtain ⟨r4_4, c4_4, z4_4⟩ := keepZ hw4 z4_3 r4_3 c4_3
   obtain ⟨r5_4, c5_4, z5_4⟩ := keepZ hw4 z5_3 r5_3 c5_3
   obtain ⟨hb4, q4⟩ := bN hb3 hw4
   clear hw4 r4_3 c4_3 z4_3 r5_3 c5_3 z5_3 hb3
   go_wp2
   go_roundw
   case rel => exact ⟨i + 1, by omega, by go_num, bt, ⟨by simp [go_sem, r4_4, c4_4, r5_4, c5_4], (by rw [E4_2.out]; first | exact c4_4 | (simp [go_sem, r4_4, c4_4, r5_4, c5_4]; done))⟩, ⟨by simp [go_sem, r4_4, c4_4, r5_4, c5_4], (by first | (rw [blk_setRow _ _ _ _ r5_4, if_pos rfl]; exact val_step p n f g q F i) | exact (c5_4).trans (val_step p n f g q F i) | (simp [go_sem, r4_4, c4_4, r5_4, c5_4]; exact val_step p n f g q F i))⟩⟩
   case measure => simp [intOf]; try omega
  ·
   obtain rfl : i = 8 := by omega
   go_wp2_with fail
   refine bodyPost_ret (result_cell rfl aggVec _ _ (row 8 (valK p n f g q F 8)) _ rfl ?_ ?_) rfl ⟨rfl, ?_⟩
   · simp [go_sem, r4_2, c4_2, r5_2, c5_2]
   · simp [go_sem, r4_2, c4_2, r5_2, c5_2]
   · exact bt

theorem idk_bytes (n : Nat) : Bytes 64 (idK n) := fun t ht => by
  unfold idK
  split
  · exact ebas_bytes _ _ (by omega)
  · omega

set_option maxRecDepth 100000 in
set_option maxHeartbeats 1000000 in
theorem modularForm_any (p : Int) (n : Nat) (f : Nat → Int) (w : World) (HO : Intable p n f) :
    Calls Tryz.prog 50 #[.agg (hop p n f)] w fun e w' => e = .returned (.agg (row 8 (modF p n f))) ∧ Below w.heap.size w w' := by
 have hp2 := (int_p2 HO).1
 have hp' := (int_p2 HO).2
 have hp : 0 < p := by omega
 have hn := HO.le
 have HF := Lib.hid HO.bytes
 have HL := Lib.hid (lef_bt HO)
 have HQ := Lib.hid (lefQ_spec HO)
 have hq := HQ.out.1
 have HO1 := Lib.hid HO
 clear HO
 have HI := Lib.hid (idk_bytes n)
 go_enter Tryz.func50, Tryz.ntmps50
 go_wp2_with fail
 refine atomC fun W1 e1 => ?_
 have hb1 : Below w.heap.size w W1 := by rw [e1]; exact bt
 have q1 := hb1.size
 have R1 : IsRow W1 (w.heap.size) ∧ IsRow W1 (w.heap.size + 1) := by rw [e1]; simp [go_sem]
 obtain ⟨r1_1, r2_1⟩ := R1
 have C1 := (⟨congrArg (blk · (w.heap.size)) e1, congrArg (blk · (w.heap.size + 1)) e1⟩ : _ ∧ _); simp [go_sem] at C1
 obtain ⟨c1_1, c2_1⟩ := C1
 have z1_1 := isRow_lt r1_1; have z2_1 := isRow_lt r2_1
 clear e1
 refine (leftIntegral_any p n f _ HO1.out).mono ?_; rintro _ W2 ⟨rfl, hw2⟩
 obtain ⟨r1_2, c1_2, z1_2⟩ := keepZ hw2 z1_1 r1_1 c1_1
 obtain ⟨r2_2, c2_2, z2_2⟩ := keepZ hw2 z2_1 r2_1 c2_1
 obtain ⟨hb2, q2⟩ := bN hb1 hw2
 clear hw2 r1_1 c1_1 z1_1 r2_1 c2_1 z2_1 hb1
 go_wp2_with fail
 have nw1_W2_0 : (w.heap.size) ≠ W2.heap.size := by omega
 have nw2_W2_0 : (w.heap.size + 1) ≠ W2.heap.size := by omega
 refine atomC fun W3 e3 => ?_
 have hb3 : Below w.heap.size w W3 := by rw [e3]; exact bt
 have q3 := hb3.size
 have R3 : IsRow W3 (w.heap.size) ∧ IsRow W3 (w.heap.size + 1) ∧ IsRow W3 (W2.heap.size) := by rw [e3]; simp [go_sem, r1_2, c1_2, r2_2, c2_2, nw1_W2_0, nw2_W2_0]
 obtain ⟨r1_3, r2_3, r3_3⟩ := R3
 have C3 := (⟨congrArg (blk · (w.heap.size)) e3, congrArg (blk · (w.heap.size + 1)) e3, congrArg (blk · (W2.heap.size)) e3⟩ : _ ∧ _ ∧ _); simp [go_sem, r1_2, c1_2, r2_2, c2_2, nw1_W2_0, nw2_W2_0] at C3
 obtain ⟨c1_3, c2_3, c3_3⟩ := C3
 have z1_3 := isRow_lt r1_3; have z2_3 := isRow_lt r2_3; have z3_3 := isRow_lt r3_3
 have n1_3 : (w.heap.size) ≠ (W2.heap.size) := by omega
 have n2_3 : (w.heap.size + 1) ≠ (W2.heap.size) := by omega
 have n3_1 : (W2.heap.size) ≠ (w.heap.size) := by omega
 have n3_2 : (W2.heap.size) ≠ (w.heap.size + 1) := by omega
 clear e3 nw1_W2_0 nw2_W2_0 r1_2 c1_2 z1_2 r2_2 c2_2 z2_2 hb2
 refine (indexFunc_at _ 8 _ 8 (lefQ p n f) (lefG p n f) _ r3_3 c3_3 (by omega) (by omega) hq HQ.out.2.1 HQ.out.2.2).mono ?_; rintro _ W4 ⟨rfl, hw4⟩
 obtain ⟨r1_4, c1_4, z1_4⟩ := keepZ hw4 z1_3 r1_3 c1_3
 obtain ⟨r2_4, c2_4, z2_4⟩ := keepZ hw4 z2_3 r2_3 c2_3
 obtain ⟨r3_4, c3_4, z3_4⟩ := keepZ hw4 z3_3 r3_3 c3_3
 obtain ⟨hb4, q4⟩ := bN hb3 hw4
 clear hw4 r1_3 c1_3 z1_3 r2_3 c2_3 z2_3 r3_3 c3_3 z3_3 hb3
 go_wp2
 refine wp_quiet_tail 10 (Below W4.heap.size W4) (by kernel_rfl) (by kernel_rfl) (Below.refl _ _).drew ?_
 simp only [List.take_succ_cons, List.take_zero, List.drop_succ_cons, List.drop_zero]
 iterate 2 (refine q_plain rfl ?_; apply Exists.intro; refine ⟨fun W hW => ?_, ?_⟩; (focus (obtain ⟨x1, y1⟩ := keepB hW z1_4 r1_4 c1_4; obtain ⟨x2, y2⟩ := keepB hW z2_4 r2_4 c2_4; obtain ⟨x3, y3⟩ := keepB hW z3_4 r3_4 c3_4; go_simp; first | done | rfl)); simp only [Act.put, List.setIfInBounds_toArray, List.set_cons_zero, List.set_cons_succ])
 (refine q_plain rfl ?_; apply Exists.intro; refine ⟨fun W hW => ?_, ?_⟩; (focus (obtain ⟨x1, y1⟩ := keepB hW z1_4 r1_4 c1_4; obtain ⟨x2, y2⟩ := keepB hW z2_4 r2_4 c2_4; obtain ⟨x3, y3⟩ := keepB hW z3_4 r3_4 c3_4; go_simp; (go_at_call 84; exact (identityLinear_any n _ hn).mono fun e w2 ⟨he, hw2⟩ => ⟨he, hW.trans (hw2.mono hW.size)⟩))); simp only [Act.put, List.setIfInBounds_toArray, List.set_cons_zero, List.set_cons_succ])
 iterate 1 (refine q_plain rfl ?_; apply Exists.intro; refine ⟨fun W hW => ?_, ?_⟩; (focus (obtain ⟨x1, y1⟩ := keepB hW z1_4 r1_4 c1_4; obtain ⟨x2, y2⟩ := keepB hW z2_4 r2_4 c2_4; obtain ⟨x3, y3⟩ := keepB hW z3_4 r3_4 c3_4; go_simp; first | done | rfl)); simp only [Act.put, List.setIfInBounds_toArray, List.set_cons_zero, List.set_cons_succ])
 (refine q_plain rfl ?_; apply Exists.intro; refine ⟨fun W hW => ?_, ?_⟩; (focus (obtain ⟨x1, y1⟩ := keepB hW z1_4 r1_4 c1_4; obtain ⟨x2, y2⟩ := keepB hW z2_4 r2_4 c2_4; obtain ⟨x3, y3⟩ := keepB hW z3_4 r3_4 c3_4; go_simp; (go_at_call 85; exact (algebraOf_any _ _ _ _).mono fun e w2 ⟨he, hw2⟩ => ⟨he, hW.trans (hw2.mono hW.size)⟩))); simp only [Act.put, List.setIfInBounds_toArray, List.set_cons_zero, List.set_cons_succ])
 iterate 2 (refine q_plain rfl ?_; apply Exists.intro; refine ⟨fun W hW => ?_, ?_⟩; (focus (obtain ⟨x1, y1⟩ := keepB hW z1_4 r1_4 c1_4; obtain ⟨x2, y2⟩ := keepB hW z2_4 r2_4 c2_4; obtain ⟨x3, y3⟩ := keepB hW z3_4 r3_4 c3_4; go_simp; first | done | rfl)); simp only [Act.put, List.setIfInBounds_toArray, List.set_cons_zero, List.set_cons_succ])
 (refine q_plain rfl ?_; apply Exists.intro; refine ⟨fun W hW => ?_, ?_⟩; (focus (obtain ⟨x1, y1⟩ := keepB hW z1_4 r1_4 c1_4; obtain ⟨x2, y2⟩ := keepB hW z2_4 r2_4 c2_4; obtain ⟨x3, y3⟩ := keepB hW z3_4 r3_4 c3_4; unfold Oper.quietAt; rw [xbuildMlt]; show Oper.quietUpon _ _ _ _ (buildS Tryz.prog 85 #[(0, .agg (alg p n f)), (1, .agg (row 8 (lefG p n f))), (2, .int .i64 (lefQ p n f))] W); rw [buildMlt]; exact ⟨rfl, rfl⟩)); simp only [Act.put, List.setIfInBounds_toArray, List.set_cons_zero, List.set_cons_succ])
 iterate 1 (refine q_plain rfl ?_; apply Exists.intro; refine ⟨fun W hW => ?_, ?_⟩; (focus (obtain ⟨x1, y1⟩ := keepB hW z1_4 r1_4 c1_4; obtain ⟨x2, y2⟩ := keepB hW z2_4 r2_4 c2_4; obtain ⟨x3, y3⟩ := keepB hW z3_4 r3_4 c3_4; go_simp; first | done | rfl)); simp only [Act.put, List.setIfInBounds_toArray, List.set_cons_zero, List.set_cons_succ])
 (refine q_plain rfl ?_; apply Exists.intro; refine ⟨fun W hW => ?_, ?_⟩; (focus (obtain ⟨x1, y1⟩ := keepB hW z1_4 r1_4 c1_4; obtain ⟨x2, y2⟩ := keepB hW z2_4 r2_4 c2_4; obtain ⟨x3, y3⟩ := keepB hW z3_4 r3_4 c3_4; go_simp; (go_at_call 83; exact (valuesOf_mlt p n (lefQ p n f) f (lefG p n f) (idK n) _ hp hp' hn (hop_bytes HF.out) HL.out hq HI.out).mono fun e w2 ⟨he, hw2⟩ => ⟨he, hW.trans (hw2.mono hW.size)⟩))); simp only [Act.put, List.setIfInBounds_toArray, List.set_cons_zero, List.set_cons_succ])
 refine wpQuiet_nil ?_
 intro W5 hw5
 obtain ⟨r1_5, c1_5, z1_5⟩ := keepZ hw5 z1_4 r1_4 c1_4
 obtain ⟨r2_5, c2_5, z2_5⟩ := keepZ hw5 z2_4 r2_4 c2_4
 obtain ⟨r3_5, c3_5, z3_5⟩ := keepZ hw5 z3_4 r3_4 c3_4
 obtain ⟨hb5, q5⟩ := bN hb4 hw5
 clear hw5 r1_4 c1_4 z1_4 r2_4 c2_4 z2_4 r3_4 c3_4 z3_4 hb4
 go_wp2_with fail
 refine bodyPost_ret (result_cell rfl aggVec _ _ (row 8 (valK p n f (lefG p n f) (lefQ p n f) (idK n) 8)) _ rfl ?_ ?_) rfl ⟨by rfl, ?_⟩
 · simp [go_sem, r1_5, c1_5, n1_3, r2_5, c2_5, n2_3, r3_5, c3_5, n3_1, n3_2]
 · simp [go_sem, r1_5, c1_5, n1_3, r2_5, c2_5, n2_3, r3_5, c3_5, n3_1, n3_2]
 · exact bt

set_option maxRecDepth 100000 in
set_option maxHeartbeats 1000000 in
theorem l05Modular_any (p : Int) (n : Nat) (f : Nat → Int) (w : World) (HO : Intable p n f) :
    Calls Tryz.prog 49 #[.agg (hop p n f)] w fun e w' => e = .returned (.agg (row 8 (modF p n f))) ∧ Below w.heap.size w w' := by
 have hp2 := (int_p2 HO).1
 have hp' := (int_p2 HO).2
 have hp : 0 < p := by omega
 have hn := HO.le
 have HF := Lib.hid HO.bytes
 have HL := Lib.hid (lef_bt HO)
 have HQ := Lib.hid (lefQ_spec HO)
 have hq := HQ.out.1
 have HO1 := Lib.hid HO
 clear HO
 have HI := Lib.hid (idk_bytes n)
 have HA := Lib.hid (mo_all (p := p) (f := f) hn)
 have hq8 : (lefQ p n f : Int) < 8 := by omega
 have hq0 : (0 : Int) ≤ (lefQ p n f : Int) := by omega
 go_enter Tryz.func49, Tryz.ntmps49
 go_wp2_with fail
 refine atomC fun W1 e1 => ?_
 have hb1 : Below w.heap.size w W1 := by rw [e1]; exact bt
 have q1 := hb1.size
 have R1 : IsRow W1 (w.heap.size) ∧ IsRow W1 (w.heap.size + 1) := by rw [e1]; simp [go_sem]
 obtain ⟨r1_1, r2_1⟩ := R1
 have C1 := (⟨congrArg (blk · (w.heap.size)) e1, congrArg (blk · (w.heap.size + 1)) e1⟩ : _ ∧ _); simp [go_sem] at C1
 obtain ⟨c1_1, c2_1⟩ := C1
 have z1_1 := isRow_lt r1_1; have z2_1 := isRow_lt r2_1
 clear e1
 refine (l05Left_lef p n f _ HO1.out).mono ?_; rintro _ W2 ⟨rfl, hw2⟩
 obtain ⟨r1_2, c1_2, z1_2⟩ := keepZ hw2 z1_1 r1_1 c1_1
 obtain ⟨r2_2, c2_2, z2_2⟩ := keepZ hw2 z2_1 r2_1 c2_1
 obtain ⟨hb2, q2⟩ := bN hb1 hw2
 clear hw2 r1_1 c1_1 z1_1 r2_1 c2_1 z2_1 hb1
 go_wp2_with fail
 have nw1_W2_0 : (w.heap.size) ≠ W2.heap.size := by omega
 have nw1_W2_1 : (w.heap.size) ≠ W2.heap.size + 1 := by omega
 have nw2_W2_0 : (w.heap.size + 1) ≠ W2.heap.size := by omega
 have nw2_W2_1 : (w.heap.size + 1) ≠ W2.heap.size + 1 := by omega
 refine atomC fun W3 e3 => ?_
 have hb3 : Below w.heap.size w W3 := by rw [e3]; exact bt
 have q3 := hb3.size
 have R3 : IsRow W3 (w.heap.size) ∧ IsRow W3 (w.heap.size + 1) ∧ IsRow W3 (W2.heap.size) ∧ IsRow W3 (W2.heap.size + 1) := by rw [e3]; simp [go_sem, r1_2, c1_2, r2_2, c2_2, nw1_W2_0, nw1_W2_1, nw2_W2_0, nw2_W2_1]
 obtain ⟨r1_3, r2_3, r3_3, r4_3⟩ := R3
 have C3 := (⟨congrArg (blk · (w.heap.size)) e3, congrArg (blk · (w.heap.size + 1)) e3, congrArg (blk · (W2.heap.size)) e3, congrArg (blk · (W2.heap.size + 1)) e3⟩ : _ ∧ _ ∧ _ ∧ _); simp [go_sem, r1_2, c1_2, r2_2, c2_2, nw1_W2_0, nw1_W2_1, nw2_W2_0, nw2_W2_1] at C3
 obtain ⟨c1_3, c2_3, c3_3, c4_3⟩ := C3
 have z1_3 := isRow_lt r1_3; have z2_3 := isRow_lt r2_3; have z3_3 := isRow_lt r3_3; have z4_3 := isRow_lt r4_3
 have n1_3 : (w.heap.size) ≠ (W2.heap.size) := by omega
 have n1_4 : (w.heap.size) ≠ (W2.heap.size + 1) := by omega
 have n2_3 : (w.heap.size + 1) ≠ (W2.heap.size) := by omega
 have n2_4 : (w.heap.size + 1) ≠ (W2.heap.size + 1) := by omega
 have n3_1 : (W2.heap.size) ≠ (w.heap.size) := by omega
 have n3_2 : (W2.heap.size) ≠ (w.heap.size + 1) := by omega
 have n4_1 : (W2.heap.size + 1) ≠ (w.heap.size) := by omega
 have n4_2 : (W2.heap.size + 1) ≠ (w.heap.size + 1) := by omega
 clear e3 nw1_W2_0 nw1_W2_1 nw2_W2_0 nw2_W2_1 r1_2 c1_2 z1_2 r2_2 c2_2 z2_2 hb2
 refine (l01First_at _ _ _ hq HQ.out.2.1 HQ.out.2.2).mono ?_; rintro _ W4 ⟨rfl, hw4⟩
 obtain ⟨r1_4, c1_4, z1_4⟩ := keepZ hw4 z1_3 r1_3 c1_3
 obtain ⟨r2_4, c2_4, z2_4⟩ := keepZ hw4 z2_3 r2_3 c2_3
 obtain ⟨r3_4, c3_4, z3_4⟩ := keepZ hw4 z3_3 r3_3 c3_3
 obtain ⟨r4_4, c4_4, z4_4⟩ := keepZ hw4 z4_3 r4_3 c4_3
 obtain ⟨hb4, q4⟩ := bN hb3 hw4
 clear hw4 r1_3 c1_3 z1_3 r2_3 c2_3 z2_3 r3_3 c3_3 z3_3 r4_3 c4_3 z4_3 hb3
 go_wp2
 go_loopw [6] (fun s6 wr => ∃ i : Nat, i ≤ n ∧ s6 = .int .i64 i ∧ Below w.heap.size w wr ∧ (IsRow wr (w.heap.size) ∧ blk wr (w.heap.size) = blk W4 (w.heap.size)) ∧ (IsRow wr (w.heap.size + 1) ∧ blk wr (w.heap.size + 1) = blk W4 (w.heap.size + 1)) ∧ (IsRow wr (W2.heap.size) ∧ blk wr (W2.heap.size) = blk W4 (W2.heap.size)) ∧ (IsRow wr (W2.heap.size + 1) ∧ blk wr (W2.heap.size + 1) = row 8 (moK p n f (lefG p n f) (lefQ p n f) i))) (fun s6 _ => n - (intOf s6).toNat)
 case atStart => exact ⟨0, by omega, rfl, hb4, ⟨r1_4, rfl⟩, ⟨r2_4, rfl⟩, ⟨r3_4, rfl⟩, ⟨r4_4, c4_4.trans (mo_zero p n f _ _)⟩⟩
 case round =>
  obtain ⟨i, hle5, rfl, hb5, ⟨r1_5, c1_5⟩, ⟨r2_5, c2_5⟩, ⟨r3_5, c3_5⟩, ⟨r4_5, c4_5⟩⟩ := hrel
  obtain ⟨W5, rfl⟩ : ∃ W5 : World, W5 = wr := ⟨_, rfl⟩
  have q5 := hb5.size
  have E1_5 := Lib.hid c1_4; replace c1_5 := c1_5.trans c1_4
  have z1_5 := isRow_lt r1_5
  have E2_5 := Lib.hid c2_4; replace c2_5 := c2_5.trans c2_4
  have z2_5 := isRow_lt r2_5
  have E3_5 := Lib.hid c3_4; replace c3_5 := c3_5.trans c3_4
  have z3_5 := isRow_lt r3_5
  have z4_5 := isRow_lt r4_5
  clear r1_4 c1_4 z1_4 r2_4 c2_4 z2_4 r3_4 c3_4 z3_4 r4_4 c4_4 z4_4 hb4
  by_cases hlt5 : i < n
  ·
   have i0_5 : (0 : Int) ≤ (i : Int) := by omega
   have i8_5 : (i : Int) < 8 := by omega
   have k8_5 : i < 8 := by omega
   have m8_5 : i * 8 + 8 ≤ 64 := by omega
   have m64_5 : i * 64 + 64 ≤ 512 := by omega
   have l1_5 : 10 + i * 64 + 64 ≤ 522 := by omega
   go_wp2
   refine wp_quiet_alloc 6 _ (.cells (row 8 zf) 27) (Below W5.heap.size W5) (Made W5 (row 8 zf)) (by kernel_rfl) rfl rfl (by kernel_rfl) (fun a W => (xallocVec _ _ _ _ _ _ _).trans (allocVec W)) (closed_below W5) (closed_made W5 _) (fun b W h => h.1) (fun W h => made_new W5 _ _ W h) (Below.refl _ _).drew ?_
   simp only [List.take_succ_cons, List.take_zero, List.drop_succ_cons, List.drop_zero]
   iterate 1 (refine e_plain rfl ?_; apply Exists.intro; refine ⟨fun D hD hK W hW => ?_, ?_⟩; (focus (obtain ⟨x1, y1⟩ := keepB (hD W hW) z1_5 r1_5 c1_5; obtain ⟨x2, y2⟩ := keepB (hD W hW) z2_5 r2_5 c2_5; obtain ⟨x3, y3⟩ := keepB (hD W hW) z3_5 r3_5 c3_5; obtain ⟨x4, y4⟩ := keepB (hD W hW) z4_5 r4_5 c4_5; unfold Oper.quietAt; go_simp; first | done | rfl)); simp only [Act.put, List.setIfInBounds_toArray, List.set_cons_zero, List.set_cons_succ])
   (refine e_plain rfl ?_; apply Exists.intro; refine ⟨fun D hD hK W hW => ?_, ?_⟩; (focus (obtain ⟨x1, y1⟩ := keepB (hD W hW) z1_5 r1_5 c1_5; obtain ⟨x2, y2⟩ := keepB (hD W hW) z2_5 r2_5 c2_5; obtain ⟨x3, y3⟩ := keepB (hD W hW) z3_5 r3_5 c3_5; obtain ⟨x4, y4⟩ := keepB (hD W hW) z4_5 r4_5 c4_5; unfold Oper.quietAt; go_simp; (go_at_call 79; exact (l03Algebra_any _ _ _ _).mono fun e w2 ⟨he, hw2⟩ => ⟨he, hK _ _ hW hw2⟩))); simp only [Act.put, List.setIfInBounds_toArray, List.set_cons_zero, List.set_cons_succ])
   iterate 2 (refine e_plain rfl ?_; apply Exists.intro; refine ⟨fun D hD hK W hW => ?_, ?_⟩; (focus (obtain ⟨x1, y1⟩ := keepB (hD W hW) z1_5 r1_5 c1_5; obtain ⟨x2, y2⟩ := keepB (hD W hW) z2_5 r2_5 c2_5; obtain ⟨x3, y3⟩ := keepB (hD W hW) z3_5 r3_5 c3_5; obtain ⟨x4, y4⟩ := keepB (hD W hW) z4_5 r4_5 c4_5; unfold Oper.quietAt; go_simp; first | done | rfl)); simp only [Act.put, List.setIfInBounds_toArray, List.set_cons_zero, List.set_cons_succ])
   (refine e_plain rfl ?_; apply Exists.intro; refine ⟨fun D hD hK W hW => ?_, ?_⟩; (focus (obtain ⟨x1, y1⟩ := keepB (hD W hW) z1_5 r1_5 c1_5; obtain ⟨x2, y2⟩ := keepB (hD W hW) z2_5 r2_5 c2_5; obtain ⟨x3, y3⟩ := keepB (hD W hW) z3_5 r3_5 c3_5; obtain ⟨x4, y4⟩ := keepB (hD W hW) z4_5 r4_5 c4_5; unfold Oper.quietAt; go_simp; (go_at_call 80; exact (l01BasisAt i (by omega) _).mono fun e w2 ⟨he, hw2⟩ => ⟨he, hK _ _ hW hw2⟩))); simp only [Act.put, List.setIfInBounds_toArray, List.set_cons_zero, List.set_cons_succ])
   (refine e_plain rfl ?_; apply Exists.intro; refine ⟨fun D hD hK W hW => ?_, ?_⟩; (focus (obtain ⟨x1, y1⟩ := keepB (hD W hW) z1_5 r1_5 c1_5; obtain ⟨x2, y2⟩ := keepB (hD W hW) z2_5 r2_5 c2_5; obtain ⟨x3, y3⟩ := keepB (hD W hW) z3_5 r3_5 c3_5; obtain ⟨x4, y4⟩ := keepB (hD W hW) z4_5 r4_5 c4_5; unfold Oper.quietAt; go_simp; (go_at_call 78; exact (l01Times_any p n f (lefG p n f) (ebas i) _ hp hp' hn (hop_bytes HF.out) HL.out (ebas_bytes i)).mono fun e w2 ⟨he, hw2⟩ => ⟨he, hK _ _ hW hw2⟩))); simp only [Act.put, List.setIfInBounds_toArray, List.set_cons_zero, List.set_cons_succ])
   refine e_nil ?_
   intro a6 W6 hW6
   obtain ⟨hw6, hl6, m1_6, m2_6⟩ := hW6
   have n1_7 : (w.heap.size) ≠ (a6) := by have := z1_5; omega
   have n7_1 : (a6) ≠ (w.heap.size) := by have := z1_5; omega
   have n2_7 : (w.heap.size + 1) ≠ (a6) := by have := z2_5; omega
   have n7_2 : (a6) ≠ (w.heap.size + 1) := by have := z2_5; omega
   have n3_7 : (W2.heap.size) ≠ (a6) := by have := z3_5; omega
   have n7_3 : (a6) ≠ (W2.heap.size) := by have := z3_5; omega
   have n4_7 : (W2.heap.size + 1) ≠ (a6) := by have := z4_5; omega
   have n7_4 : (a6) ≠ (W2.heap.size + 1) := by have := z4_5; omega
   obtain ⟨r1_6, c1_6, z1_6⟩ := keepZ hw6 z1_5 r1_5 c1_5
   obtain ⟨r2_6, c2_6, z2_6⟩ := keepZ hw6 z2_5 r2_5 c2_5
   obtain ⟨r3_6, c3_6, z3_6⟩ := keepZ hw6 z3_5 r3_5 c3_5
   obtain ⟨r4_6, c4_6, z4_6⟩ := keepZ hw6 z4_5 r4_5 c4_5
   obtain ⟨hb6, q6⟩ := bN hb5 hw6
   clear hw6 r1_5 c1_5 z1_5 r2_5 c2_5 z2_5 r3_5 c3_5 z3_5 r4_5 c4_5 z4_5 hb5
   have z7_6 := isRow_lt m1_6
   simp only [Act.put, List.setIfInBounds_toArray, List.set_cons_zero, List.set_cons_succ]
   go_wp2
   go_roundw
   case rel => exact ⟨i + 1, by omega, by go_num, bt, ⟨by simp [go_sem, r1_6, c1_6, n1_3, n1_4, n1_7, r2_6, c2_6, n2_3, n2_4, n2_7, r3_6, c3_6, n3_1, n3_2, n3_7, r4_6, c4_6, n4_1, n4_2, n4_7, m1_6, m2_6, n7_1, n7_2, n7_3, n7_4], (by rw [E1_5.out]; first | exact c1_6 | (simp [go_sem, r1_6, c1_6, n1_3, n1_4, n1_7, r2_6, c2_6, n2_3, n2_4, n2_7, r3_6, c3_6, n3_1, n3_2, n3_7, r4_6, c4_6, n4_1, n4_2, n4_7, m1_6, m2_6, n7_1, n7_2, n7_3, n7_4]; done))⟩, ⟨by simp [go_sem, r1_6, c1_6, n1_3, n1_4, n1_7, r2_6, c2_6, n2_3, n2_4, n2_7, r3_6, c3_6, n3_1, n3_2, n3_7, r4_6, c4_6, n4_1, n4_2, n4_7, m1_6, m2_6, n7_1, n7_2, n7_3, n7_4], (by rw [E2_5.out]; first | exact c2_6 | (simp [go_sem, r1_6, c1_6, n1_3, n1_4, n1_7, r2_6, c2_6, n2_3, n2_4, n2_7, r3_6, c3_6, n3_1, n3_2, n3_7, r4_6, c4_6, n4_1, n4_2, n4_7, m1_6, m2_6, n7_1, n7_2, n7_3, n7_4]; done))⟩, ⟨by simp [go_sem, r1_6, c1_6, n1_3, n1_4, n1_7, r2_6, c2_6, n2_3, n2_4, n2_7, r3_6, c3_6, n3_1, n3_2, n3_7, r4_6, c4_6, n4_1, n4_2, n4_7, m1_6, m2_6, n7_1, n7_2, n7_3, n7_4], (by rw [E3_5.out]; first | exact c3_6 | (simp [go_sem, r1_6, c1_6, n1_3, n1_4, n1_7, r2_6, c2_6, n2_3, n2_4, n2_7, r3_6, c3_6, n3_1, n3_2, n3_7, r4_6, c4_6, n4_1, n4_2, n4_7, m1_6, m2_6, n7_1, n7_2, n7_3, n7_4]; done))⟩, ⟨by simp [go_sem, r1_6, c1_6, n1_3, n1_4, n1_7, r2_6, c2_6, n2_3, n2_4, n2_7, r3_6, c3_6, n3_1, n3_2, n3_7, r4_6, c4_6, n4_1, n4_2, n4_7, m1_6, m2_6, n7_1, n7_2, n7_3, n7_4], (by first | (rw [blk_setRow _ _ _ _ r4_6, if_pos rfl]; exact mo_step p n f _ _ i) | exact (c4_6).trans (mo_step p n f _ _ i) | (simp [go_sem, r1_6, c1_6, n1_3, n1_4, n1_7, r2_6, c2_6, n2_3, n2_4, n2_7, r3_6, c3_6, n3_1, n3_2, n3_7, r4_6, c4_6, n4_1, n4_2, n4_7, m1_6, m2_6, n7_1, n7_2, n7_3, n7_4]; exact mo_step p n f _ _ i))⟩⟩
   case measure => simp [intOf]; try omega
  ·
   obtain rfl : n = i := by omega
   go_wp2_with fail
   refine bodyPost_ret (result_cell rfl aggVec _ _ (row 8 (moK p n f (lefG p n f) (lefQ p n f) n)) _ rfl ?_ ?_) rfl ⟨by rw [HA.out], ?_⟩
   · simp [go_sem, r1_5, c1_5, n1_3, n1_4, r2_5, c2_5, n2_3, n2_4, r3_5, c3_5, n3_1, n3_2, r4_5, c4_5, n4_1, n4_2]
   · simp [go_sem, r1_5, c1_5, n1_3, n1_4, r2_5, c2_5, n2_3, n2_4, r3_5, c3_5, n3_1, n3_2, r4_5, c4_5, n4_1, n4_2]
   · exact bt

end Go.Proofs.YtjpdpnplnelgcaaGreat
