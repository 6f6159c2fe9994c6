/- The start that fits where an argument is a Hopf algebra. -/
import Derived.Test.YtjmmmggnbndolaaGreatWit0
namespace Go.Proofs.YtjmmmggnbndolaaGreat
open Go.ChangeShapes Go.WideShapes Go.ChangeAt Go.RowKit
set_option maxRecDepth 100000
theorem ok_hop (w : World) (r : Reach) (base : Nat) : Value.okWide Tryz.prog w r base 26 (.agg ([Value.int .i64 0, Value.int .i64 0] ++ List.replicate 1104 (Value.int .u8 0)).toArray) := by
  unfold Value.okWide
  rw [Tryz.underlying26]
  have hs : ([Value.int .i64 0, Value.int .i64 0] ++ List.replicate 1104 (Value.int .u8 0)).toArray.size = 1106 := by rw [List.size_toArray, List.length_append, List.length_replicate]; rfl
  have hl : ([2, 2] ++ List.replicate 1104 5 : List TypeId).length = 1106 := by rw [List.length_append, List.length_replicate]; rfl
  refine ⟨_, rfl, hs.trans (by kernel_rfl), [2, 2] ++ List.replicate 1104 5, by kernel_rfl, ⟨1, by rw [hs, hl]⟩, fun i v hv => ?_⟩
  have hi : i < 1106 := by rw [← hs]; exact (Array.getElem?_eq_some_iff.1 hv).1
  rw [hl, Nat.mod_eq_of_lt hi]
  rw [List.getElem?_toArray, List.getElem?_append] at hv
  rw [List.getElem?_append]
  simp only [List.length_cons, List.length_nil] at hv ⊢
  by_cases h2 : i < 2
  · rw [if_pos (by omega)] at hv ⊢
    have e : v = .int .i64 0 := by
      match i, h2 with
      | 0, _ => simpa using hv.symm
      | 1, _ => simpa using hv.symm
    subst e
    refine ⟨2, ?_, cell_zero Tryz.underlying2⟩
    match i, h2 with
    | 0, _ => rfl
    | 1, _ => rfl
  · rw [if_neg (by omega)] at hv ⊢
    rw [List.getElem?_replicate, if_pos (by omega)] at hv ⊢
    have e : v = .int .u8 0 := by simpa using hv.symm
    subst e
    exact ⟨5, rfl, cell_zero Tryz.underlying5⟩
end Go.Proofs.YtjmmmggnbndolaaGreat
