/- The start that fits where an argument is a module. -/
import Derived.Test.YtjmmmggnbndolaaGreatWit
namespace Go.Proofs.YtjmmmggnbndolaaGreat
open Go.ChangeShapes Go.WideShapes Go.ChangeAt Go.RowKit
set_option maxRecDepth 100000
theorem ok_mod (w : World) (r : Reach) (base : Nat) : Value.okWide Tryz.prog w r base 28 (.agg ([Value.int .i64 0] ++ List.replicate 512 (Value.int .u8 0)).toArray) := by
  unfold Value.okWide
  rw [Tryz.underlying28]
  have hs : ([Value.int .i64 0] ++ List.replicate 512 (Value.int .u8 0)).toArray.size = 513 := by rw [List.size_toArray, List.length_append, List.length_replicate]; rfl
  have hl : ([2] ++ List.replicate 512 5 : List TypeId).length = 513 := by rw [List.length_append, List.length_replicate]; rfl
  refine ⟨_, rfl, hs.trans (by kernel_rfl), [2] ++ List.replicate 512 5, by kernel_rfl, ⟨1, by rw [hs, hl]⟩, fun i v hv => ?_⟩
  have hi : i < 513 := by rw [← hs]; exact (Array.getElem?_eq_some_iff.1 hv).1
  rw [hl, Nat.mod_eq_of_lt hi]
  rw [List.getElem?_toArray, List.getElem?_append] at hv
  rw [List.getElem?_append]
  simp only [List.length_cons, List.length_nil] at hv ⊢
  by_cases h2 : i < 1
  · rw [if_pos (by omega)] at hv ⊢
    obtain rfl : i = 0 := by omega
    have e : v = .int .i64 0 := by simpa using hv.symm
    subst e
    exact ⟨2, rfl, cell_zero Tryz.underlying2⟩
  · rw [if_neg (by omega)] at hv ⊢
    rw [List.getElem?_replicate, if_pos (by omega)] at hv ⊢
    have e : v = .int .u8 0 := by simpa using hv.symm
    subst e
    exact ⟨5, rfl, cell_zero Tryz.underlying5⟩
end Go.Proofs.YtjmmmggnbndolaaGreat
