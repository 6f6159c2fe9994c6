/- The world as a letter at every stop of a walk; coalgebras as values and as cells. -/
import Derived.Test.YtjmmmggnbndolaaGreatPA
import Derived.Test.YtjmmmggnbndolaaGreatReg
namespace Go.Proofs.YtjmmmggnbndolaaGreat
open Go.RowKit
set_option linter.unusedSimpArgs false
set_option linter.unusedVariables false

theorem atomW {c : Code} {P : Program} {R : Exit → Act → World → Prop} {a : Act} {T : World} (h : ∀ W, W = T → c.wp P R a W) : c.wp P R a T := h T rfl
theorem atomC {P : Program} {f : FuncId} {args : Array Value} {Q : Ending → World → Prop} {T : World} (h : ∀ W, W = T → Calls P f args W Q) : Calls P f args T Q := h T rfl
theorem ret_u8' {a b : Int} (h : a = b) : Ending.returned (.int .u8 a) = .returned (.int .u8 b) := by rw [h]
theorem ret_vec {f g : Nat → Int} (h : row 8 f = row 8 g) : Ending.returned (.agg (row 8 f)) = .returned (.agg (row 8 g)) := by rw [h]
theorem ret_lin {f g : Nat → Int} (h : row 64 f = row 64 g) : Ending.returned (.agg (row 64 f)) = .returned (.agg (row 64 g)) := by rw [h]

/-! ### tactics that come again and again, as defaults of arguments -/
theorem bt {B : Nat} {a w : World} (h : Below B a w := by repeat (first | assumption | exact Below.refl _ _ | refine Below.alloc ?_ (by first | omega | (simp; try omega)) _ | refine below_setRow ?_ (by omega) _ | refine Below.drew ?_)) : Below B a w := h
theorem bu {Q : Prop} (h : Q := by first | omega | (constructor <;> first | omega | (simp; done) | (simp; omega))) : Q := h
theorem keepZ {B b : Nat} {c : Array Value} {w w' : World} (hb : Below B w w') (hlt : b < B) (h : IsRow w b) (hc : blk w b = c) : IsRow w' b ∧ blk w' b = c ∧ b < w'.heap.size := by
  obtain ⟨x, y⟩ := keepB hb hlt h hc
  exact ⟨x, y, isRow_lt x⟩
theorem bN {a b c : World} (h : Below a.heap.size a b) (k : Below b.heap.size b c) : Below a.heap.size a c ∧ a.heap.size ≤ c.heap.size := ⟨h.trans (k.mono h.size), (h.trans (k.mono h.size)).size⟩

/-! ### impl.Coalgebra: the same cells as an algebra -/
theorem aggCoa : AggT Tryz.prog 92 522 := ⟨by kernel_rfl, by kernel_rfl⟩
@[go_sem ↓] theorem xloadCoa (ρ : Operand → Value) (dst : Option Tmp) (a : Operand) (ty : TypeId) (pos : String) (after : Array Edge) (guard : Option (Nat × Bool)) (w : World) :
    (execOp ρ ⟨dst, .load 92 a, ty, pos, after, guard⟩).run Tryz.prog w = loadN Tryz.prog 92 (ρ a) w := rfl
@[go_sem] theorem loadCoa (w : World) (b off : Nat) (h : Has w b (off + 522)) :
    loadN Tryz.prog 92 (.pointer (some ⟨b, off, none⟩)) w = .ok (.value (.agg ((blk w b).extract off (off + 522)))) w := loadN_at aggCoa w b off h
@[go_sem ↓] theorem xstoreCoa (ρ : Operand → Value) (dst : Option Tmp) (a x : Operand) (ty : TypeId) (pos : String) (after : Array Edge) (guard : Option (Nat × Bool)) (w : World) :
    (execOp ρ ⟨dst, .store 92 a x, ty, pos, after, guard⟩).run Tryz.prog w = storeN Tryz.prog 92 (ρ a) (ρ x) w := rfl
@[go_sem] theorem storeCoa (w : World) (b off : Nat) (p n : Int) (f : Nat → Int) (h : Has w b (off + 522)) :
    storeN Tryz.prog 92 (.pointer (some ⟨b, off, none⟩)) (.agg (alg p n f)) w = .ok .skip (w.setRow b (lay (blk w b) off (alg p n f))) := storeN_at aggCoa w b off _ h (alg_size _ _ _) (alg_cells _ _ _)
@[go_sem ↓] theorem xallocCoa (ρ : Operand → Value) (dst : Option Tmp) (ty : TypeId) (pos : String) (after : Array Edge) (guard : Option (Nat × Bool)) (w : World) :
    (execOp ρ ⟨dst, .alloc 92, ty, pos, after, guard⟩).run Tryz.prog w = allocN Tryz.prog 92 w := rfl
@[go_sem] theorem allocCoa (w : World) : allocN Tryz.prog 92 w = .ok (.value (.pointer (some ⟨w.heap.size, 0, none⟩))) (w.alloc (.cells (alg 0 0 zf) 92)) := allocN_eq _ (by rw [alg_zeros]; kernel_rfl) w
@[go_sem ↓] theorem buildCoa (ρ : Operand → Value) (dst : Option Tmp) (ty : TypeId) (pos : String) (after : Array Edge) (guard : Option (Nat × Bool)) (w : World) :
    (execOp ρ ⟨dst, .build 92 #[], ty, pos, after, guard⟩).run Tryz.prog w = .ok (.value (.agg (alg 0 0 zf))) w := by rw [alg_zeros]; kernel_rfl

/-! ### a function that writes into one block of its caller -/
/-- below B only block b has changed -/
structure Aside (B b : Nat) (w w' : World) : Prop where
  os : w'.os = w.os
  tape : w'.tape = w.tape
  output : w'.output = w.output
  size : w.heap.size ≤ w'.heap.size
  block : ∀ k, k < B → k ≠ b → w'.heap[k]? = w.heap[k]?
theorem Aside.refl (B b : Nat) (w : World) : Aside B b w w := ⟨rfl, rfl, rfl, Nat.le_refl _, fun _ _ _ => rfl⟩
theorem Aside.tail {B b : Nat} {w a c : World} (h : Aside B b w a) (k : Below B a c) : Aside B b w c :=
  ⟨k.os.trans h.os, k.tape.trans h.tape, k.output.trans h.output, Nat.le_trans h.size k.size, fun i hi hb => (k.block i hi).trans (h.block i hi hb)⟩
theorem Aside.trans {B b : Nat} {w a c : World} (h : Aside B b w a) (k : Aside B b a c) : Aside B b w c :=
  ⟨k.os.trans h.os, k.tape.trans h.tape, k.output.trans h.output, Nat.le_trans h.size k.size, fun i hi hb => (k.block i hi hb).trans (h.block i hi hb)⟩
theorem Aside.mono {B B' b : Nat} {w w' : World} (h : Aside B b w w') (hB : B' ≤ B) : Aside B' b w w' := ⟨h.os, h.tape, h.output, h.size, fun k hk hb => h.block k (Nat.lt_of_lt_of_le hk hB) hb⟩
theorem Aside.alloc {B b : Nat} {a w : World} (h : Aside B b a w) (hB : B ≤ w.heap.size) (o : Obj) : Aside B b a (w.alloc o) := h.tail ((Below.refl B w).alloc hB o)
theorem Aside.self {B b : Nat} {a w : World} (h : Aside B b a w) (cs : Array Value) : Aside B b a (w.setRow b cs) :=
  h.trans ⟨rfl, rfl, rfl, by simp [World.setRow], fun k _ hb => setRow_other w b k cs hb⟩
theorem Aside.setRow {B b g : Nat} {a w : World} (h : Aside B b a w) (hg : B ≤ g) (cs : Array Value) : Aside B b a (w.setRow g cs) := h.tail (below_setRow (Below.refl B w) hg cs)
theorem Below.aside {b : Nat} {w a c : World} (h : Below w.heap.size w a) (k : Aside a.heap.size b a c) (hb : w.heap.size ≤ b) : Below w.heap.size w c :=
  h.trans ⟨k.os, k.tape, k.output, k.size, fun i hi => k.block i (by have := h.size; omega) (by omega)⟩
theorem keepA {B b g : Nat} {c : Array Value} {w w' : World} (h : Aside B b w w') (hlt : g < B) (hne : g ≠ b) (hr : IsRow w g) (hc : blk w g = c) : IsRow w' g ∧ blk w' g = c := by
  have e := h.block g hlt hne
  constructor
  · unfold IsRow; rw [e]; exact hr
  · unfold blk at hc ⊢; rw [e]; exact hc
end Go.Proofs.YtjmmmggnbndolaaGreat
