/- MultiplyVectors, of the program and of the reference model, and the walk of the law. -/
import Derived.Test.YtnjjcimpcnennaaP13
namespace Go.Proofs.Ytnjjcimpcnennaa
open Go.RowKit
set_option linter.unusedSimpArgs false
set_option linter.unusedVariables false
attribute [local irreducible] wpQuiet wpQE

/-! ### a list of vectors, made -/
def buildN (P : Program) (T : TypeId) (len : Nat) (ps : Array (Nat × Value)) (w : World) : Result Next := (do pure (Next.value (← Instr.buildSlice T len ps)) : Sem Next).run P w
@[go_sem ↓] theorem xbuild2 (ρ : Operand → Value) (dst : Option Tmp) (a b : Operand) (ty : TypeId) (pos : String) (after : Array Edge) (guard : Option (Nat × Bool)) (w : World) :
    (execOp ρ ⟨dst, .buildSlice 84 2 #[(0, a), (1, b)], ty, pos, after, guard⟩).run Try.prog w = buildN Try.prog 84 2 #[(0, ρ a), (1, ρ b)] w := by kernel_rfl
@[go_sem ↓] theorem xbuild1 (ρ : Operand → Value) (dst : Option Tmp) (a : Operand) (ty : TypeId) (pos : String) (after : Array Edge) (guard : Option (Nat × Bool)) (w : World) :
    (execOp ρ ⟨dst, .buildSlice 84 1 #[(0, a)], ty, pos, after, guard⟩).run Try.prog w = buildN Try.prog 84 1 #[(0, ρ a)] w := by kernel_rfl
/-- v and u behind each other -/
def pair (v u : Nat → Int) : Nat → Int := fun i => if i < 8 then v i else u (i - 8)
@[go_sem] theorem build2 (v u : Nat → Int) (w : World) : buildN Try.prog 84 2 #[(0, .agg (row 8 v)), (1, .agg (row 8 u))] w = .ok (.value (.slice (some ⟨w.heap.size, 0, none⟩) 2 2)) (w.alloc (.cells (row 16 (pair v u)) 28)) := by kernel_rfl
@[go_sem] theorem build1 (v : Nat → Int) (w : World) : buildN Try.prog 84 1 #[(0, .agg (row 8 v))] w = .ok (.value (.slice (some ⟨w.heap.size, 0, none⟩) 1 1)) (w.alloc (.cells (row 8 v) 28)) := by kernel_rfl
/-- entry i of a list of vectors that lies in a row -/
def nth (F : Nat → Int) (i : Nat) : Nat → Int := fun t => F (i * 8 + t)
theorem nth_row (F : Nat → Int) (N i : Nat) (h : i * 8 + 8 ≤ N) : (row N F).extract (0 + i * 8) (0 + i * 8 + 8) = row 8 (nth F i) := by
  rw [row_extract _ _ _ _ (by omega), show 0 + i * 8 + 8 - (0 + i * 8) = 8 by omega]
  exact row_congr fun t _ => by unfold nth; rw [Nat.zero_add]
theorem pair_bytes {v u : Nat → Int} (hv : Bytes 8 v) (hu : Bytes 8 u) (i : Nat) (hi : i < 2) : Bytes 8 (nth (pair v u) i) := by
  intro t ht
  unfold nth pair
  match i, hi with
  | 0, _ => rw [if_pos (by omega), Nat.zero_mul, Nat.zero_add]; exact hv t ht
  | 1, _ => rw [if_neg (by omega), show 1 * 8 + t - 8 = t by omega]; exact hu t ht
theorem nth_zero (v : Nat → Int) : nth v 0 = v := by funext t; simp [nth]
/-- the vectors that the calls on v and u check -/
def okP (p n : Int) (f v u : Nat → Int) : Bool := okB p n f 2 (nth (pair v u))

/-- the product, or zeros -/
def timesR (p n : Int) (f v u : Nat → Int) : Nat → Int := match okP p n f v u with | true => mulF p n.toNat (mtab f) v u | false => zf
theorem okP_alg {p n : Int} {f v u : Nat → Int} (h : okP p n f v u = true) : algB p n f = true := by
  unfold okP okB at h
  simp only [Bool.and_eq_true] at h
  exact h.1


end Go.Proofs.Ytnjjcimpcnennaa
