/- Counits of integrals. -/
import Derived.Test.YtjpdpnplnelgcaaGreatI2
namespace Go.Proofs.YtjpdpnplnelgcaaGreat
open Go.RowKit
set_option linter.unusedSimpArgs false
set_option linter.unusedVariables false
attribute [local irreducible] wpQuiet wpQE

/-! ### linear forms: impl.weights -/
def wgt (p : Int) (g : Nat → Int) : Array Value := #[.int .i64 p] ++ row 8 g
@[go_sem] theorem wgt_size (p : Int) (g : Nat → Int) : (wgt p g).size = 9 := by simp [wgt, row_size]
@[go_sem] theorem wgt_0 (p : Int) (g : Nat → Int) : (wgt p g)[0]? = some (.int .i64 p) := by unfold wgt; rw [Array.getElem?_append]; simp
@[go_sem] theorem wgt_0' (p : Int) (g : Nat → Int) (h : 0 < (wgt p g).size) : (wgt p g)[0] = .int .i64 p := by
  have := wgt_0 p g
  rw [Array.getElem?_eq_getElem h] at this
  simpa using this
theorem wgt_get (p : Int) (g : Nat → Int) (o : Nat) (h' : o < 8) : (wgt p g)[o + 1]? = some (.int .u8 (g o)) := by
  unfold wgt
  rw [Array.getElem?_append]
  simp only [List.size_toArray, List.length_cons, List.length_nil]
  rw [if_neg (by omega), row_get? _ _ _ (by omega)]
  rfl
@[go_sem] theorem wgt_all (p : Int) (g : Nat → Int) : (wgt p g).extract 0 9 = wgt p g := by
  rw [show (9 : Nat) = (wgt p g).size from (wgt_size p g).symm]; simp
@[go_sem] theorem wgt_row (p : Int) (g : Nat → Int) : (wgt p g).extract 1 9 = row 8 g := by
  apply Array.ext_getElem?
  intro i
  rw [Array.getElem?_extract, wgt_size]
  by_cases hi : i < 8
  · rw [if_pos (by omega), row_get? _ _ i hi, Nat.add_comm, wgt_get p g i hi]
  · rw [if_neg (by omega), row_get_none _ _ i (by omega)]
@[go_sem] theorem wgt_row' (p : Int) (g : Nat → Int) : (wgt p g).extract 1 (1 + 8) = row 8 g := wgt_row p g
theorem wgt_cells (p : Int) (g : Nat → Int) : (wgt p g).all (·.oneCell') = true := by
  unfold wgt
  rw [Array.all_append, row_cells]
  simp [Value.oneCell']
@[go_sem] theorem lay_wgt (p q : Int) (f g : Nat → Int) : lay (wgt p f) 0 (wgt q g) = wgt q g := by
  apply Array.ext_getElem?
  intro i
  rw [lay_get _ _ _ _ (by rw [wgt_size, wgt_size]; omega), wgt_size]
  split
  · rfl
  · rw [Array.getElem?_eq_none (by rw [wgt_size]; omega), Array.getElem?_eq_none (by rw [wgt_size]; omega)]
theorem aggWgt : AggT Tryz.prog 88 9 := ⟨by kernel_rfl, by kernel_rfl⟩
@[go_sem ↓] theorem xloadWgt (ρ : Operand → Value) (dst : Option Tmp) (a : Operand) (ty : TypeId) (pos : String) (after : Array Edge) (guard : Option (Nat × Bool)) (w : World) :
    (execOp ρ ⟨dst, .load 88 a, ty, pos, after, guard⟩).run Tryz.prog w = loadN Tryz.prog 88 (ρ a) w := rfl
@[go_sem] theorem loadWgt (w : World) (b off : Nat) (h : Has w b (off + 9)) :
    loadN Tryz.prog 88 (.pointer (some ⟨b, off, none⟩)) w = .ok (.value (.agg ((blk w b).extract off (off + 9)))) w := loadN_at aggWgt w b off h
@[go_sem ↓] theorem xstoreWgt (ρ : Operand → Value) (dst : Option Tmp) (a x : Operand) (ty : TypeId) (pos : String) (after : Array Edge) (guard : Option (Nat × Bool)) (w : World) :
    (execOp ρ ⟨dst, .store 88 a x, ty, pos, after, guard⟩).run Tryz.prog w = storeN Tryz.prog 88 (ρ a) (ρ x) w := rfl
@[go_sem] theorem storeWgt (w : World) (b off : Nat) (p : Int) (f : Nat → Int) (h : Has w b (off + 9)) :
    storeN Tryz.prog 88 (.pointer (some ⟨b, off, none⟩)) (.agg (wgt p f)) w = .ok .skip (w.setRow b (lay (blk w b) off (wgt p f))) := storeN_at aggWgt w b off _ h (wgt_size _ _) (wgt_cells _ _)
@[go_sem ↓] theorem xallocWgt (ρ : Operand → Value) (dst : Option Tmp) (ty : TypeId) (pos : String) (after : Array Edge) (guard : Option (Nat × Bool)) (w : World) :
    (execOp ρ ⟨dst, .alloc 88, ty, pos, after, guard⟩).run Tryz.prog w = allocN Tryz.prog 88 w := rfl
theorem wgt_zeros : wgt 0 zf = ([Value.int .i64 0] ++ List.replicate 8 (Value.int .u8 0)).toArray := by kernel_rfl
@[go_sem] theorem allocWgt (w : World) : allocN Tryz.prog 88 w = .ok (.value (.pointer (some ⟨w.heap.size, 0, none⟩))) (w.alloc (.cells (wgt 0 zf) 88)) := allocN_eq _ (by rw [wgt_zeros]; kernel_rfl) w
@[go_sem ↓] theorem xbuildWgt (ρ : Operand → Value) (dst : Option Tmp) (a b : Operand) (ty : TypeId) (pos : String) (after : Array Edge) (guard : Option (Nat × Bool)) (w : World) :
    (execOp ρ ⟨dst, .build 88 #[(0, a), (1, b)], ty, pos, after, guard⟩).run Tryz.prog w = buildS Tryz.prog 88 #[(0, ρ a), (1, ρ b)] w := by kernel_rfl
@[go_sem] theorem buildWgt (p : Int) (e : Nat → Int) (w : World) : buildS Tryz.prog 88 #[(0, .int .i64 p), (1, .agg (row 8 e))] w = .ok (.value (.agg (wgt p e))) w := by
  refine build_struct (fields := fieldsOf Tryz.prog 88) (places := #[(0, 1), (1, 8)]) (zc := wgt 0 zf) (by kernel_rfl) (by rw [wgt_zeros]; kernel_rfl) (fun w => by kernel_rfl) ?_ w
  show Instr.fill _ _ [_, _] = _
  rw [fill_any (off := 0) rfl rfl (by rw [wgt_size]; omega), fill_row (off := 1) (m := 8) rfl (row_size _ _) (by simp [wgt_size])]
  show some _ = some _
  refine congrArg some ?_
  apply Array.ext_getElem?
  intro i
  rw [lay_get _ _ _ _ (by simp [wgt_size, row_size]), row_size, Array.getElem?_setIfInBounds]
  match i with
  | 0 => simp [wgt_size, wgt_0, wgt_0']
  | i + 1 =>
    by_cases hi : i < 8
    · rw [if_pos (by omega), row_get? _ _ _ (by omega), wgt_get p e i hi]; simp
    · rw [if_neg (by omega), if_neg (by omega), Array.getElem?_eq_none (by rw [wgt_size]; omega), Array.getElem?_eq_none (by rw [wgt_size]; omega)]

/-! ### the integral's bytes -/
theorem lef_range {p : Int} {n : Nat} {f : Nat → Int} (h : Intable p n f) (t : Nat) (ht : t < 8) : 0 ≤ lefG p n f t ∧ lefG p n f t < p := by
  obtain ⟨R, g, hT⟩ := lef_tells (f := f) h.prime h.le
  exact tells_rng (tel_yes hT) 0 h.left t ht
theorem lef_bytes {p : Int} {n : Nat} {f : Nat → Int} (h : Intable p n f) : Bytes 8 (lefG p n f) := fun t ht => by
  have h1 := lef_range h t ht
  have := h.prime; unfold prime31 at this; simp only [Bool.and_eq_true, decide_eq_true_eq] at this; omega
set_option maxRecDepth 100000 in
set_option maxHeartbeats 1000000 in
theorem value_any (p : Int) (u v : Nat → Int) (w : World) (hp : 0 < p) (hp' : p ≤ 255) (hu : Bytes 8 u) (hv : Bytes 8 v) :
    Calls Tryz.prog 89 #[.agg (wgt p u), .agg (row 8 v)] w fun e w' => e = .returned (.int .u8 (dotF 8 u v % p)) ∧ Below w.heap.size w w' := by
 have Hu := Lib.hid hu; clear hu
 have Hv := Lib.hid hv; clear hv
 have b1 := Int.emod_nonneg (dotF 8 u v) (show p ≠ 0 by omega)
 have b2 := Int.emod_lt_of_pos (dotF 8 u v) hp
 have w1 : IntKind.u8.wrap (dotF 8 u v % p) = dotF 8 u v % p := IntWalk.u8_in _ (by omega)
 go_enter Tryz.func89, Tryz.ntmps89
 go_wp2_with fail
 refine atomC fun W1 e1 => ?_
 have hb1 : Below w.heap.size w W1 := by rw [e1]; exact bt
 have q1 := hb1.size
 clear e1
 refine (formValue_any p u v _ hp hp' Hu.out Hv.out).mono ?_; rintro _ W2 ⟨rfl, hw2⟩
 obtain ⟨hb2, q2⟩ := bN hb1 hw2
 clear hw2 hb1
 go_wp2_with fail
 go_ret
 exact ⟨rfl, bt⟩

end Go.Proofs.YtjpdpnplnelgcaaGreat
