/- Reduced lists of vectors by the program. -/
import Derived.Test.YtfmhgfnadgaiaaaGreatL3
import Derived.Deep.OwnRows
import Derived.Laws.Cover3
namespace Go.Proofs.YtfmhgfnadgaiaaaGreat
open Go.RowKit
set_option linter.unusedSimpArgs false
set_option linter.unusedVariables false
attribute [local irreducible] wpQuiet wpQE

theorem FL.grown {w w' : World} {row : Option Nat} {B U b off m N : Nat} {g : Nat → Nat → Int} {G C : Nat → Nat} {F : Nat → Nat → Int} (h : FL w B U b off m N g G C F) (hg : w.grownBy w' row) (hk : ∀ k, row = some k → U ≤ k) : FL w' B U b off m N g G C F :=
  h.of fun x _ h2 hr => hg.block x (isRow_lt hr) fun e => by have := hk x e.symm; omega
theorem VL.own {w : World} {B U k : Nat} {a : Option Addr} {m c : Nat} {f : Nat → Nat → Int} (h : VL w B U a m c f) (e : ownB a = Option.some k) : B ≤ k := by
  rcases h with ⟨rfl, _⟩ | ⟨g, F, rfl, h2, _⟩
  · cases e
  · have : g = k := by simpa [ownB] using e
    omega
theorem BL.own {w : World} {B U k : Nat} {a : Option Addr} {m c : Nat} {f : Nat → Nat → Int} (h : BL w B U a m c f) (e : ownB a = Option.some k) : B ≤ k := by
  rcases h with ⟨rfl, _⟩ | ⟨g, F, rfl, h2, _⟩
  · cases e
  · have : g = k := by simpa [ownB] using e
    omega
theorem FL.none {w : World} {B U b N : Nat} {g : Nat → Nat → Int} {G C : Nat → Nat} {F : Nat → Nat → Int} (hB : B ≤ b) (hU : b < U) (hr : IsRow w b) : FL w B U b 0 0 N g G C F :=
  ⟨hB, hU, hr, fun i hi => by omega, fun i hi => by omega, fun i j hi => by omega, fun i hi => by omega, fun i hi => by omega, fun i hi => by omega, fun i hi => by omega, fun i hi => by omega⟩
/-- one row more -/
theorem flSnoc {w w' : World} {B U b i M N y c : Nat} {g : Nat → Nat → Int} {G C : Nat → Nat} {F : Nat → Nat → Int} {f : Nat → Int} (h : FL w B U b 0 i N g G C F) (hs : (blk w b).size = M) (hi : i < M) (hU : U ≤ y) (hy : IsRow w y) (hc : blk w y = row c f) (hb : Bytes c f) (hN : N ≤ c) (hv : ∀ t, t < N → f t = g i t)
    (hw : ∀ x, x < w.heap.size → x ≠ b → w'.heap[x]? = w.heap[x]?) (hz : w.heap.size ≤ w'.heap.size) (hr : IsRow w' b) (hcc : blk w' b = (blk w b).setIfInBounds i (.slice (some ⟨y, 0, none⟩) N c)) : FL w' B w.heap.size b 0 (i + 1) N g (setN G i y) (setN C i c) (setF F i f) ∧ (blk w' b).size = M := by
  have keep : ∀ x, x ≠ b → IsRow w x → IsRow w' x ∧ blk w' x = blk w x := fun x hx hxr => by
    have e := hw x (isRow_lt hxr) hx
    constructor
    · unfold IsRow; rw [e]; exact hxr
    · unfold blk; rw [e]
  have hbt := h.top
  have hbb := h.base
  have hyb : y ≠ b := by omega
  have hyl := isRow_lt hy
  refine ⟨⟨h.base, isRow_lt h.row, hr, fun k hk => ?_, fun k hk => ?_, fun k l hk hl hkl => ?_, fun k hk => ?_, fun k hk => ?_, fun k hk => ?_, fun k hk => ?_, fun k hk t ht => ?_⟩, by rw [hcc, Array.size_setIfInBounds]; exact hs⟩
  · rw [hcc, Nat.zero_add, Array.getElem?_setIfInBounds]
    unfold setN
    by_cases e : k = i
    · subst e; rw [if_pos rfl, if_pos (by omega), if_pos rfl, if_pos rfl]
    · rw [if_neg (Ne.symm e), if_neg e, if_neg e]
      have := h.cell k (by omega)
      rwa [Nat.zero_add] at this
  · unfold setN
    by_cases e : k = i
    · rw [if_pos e]; exact ⟨by omega, by omega, hyb⟩
    · rw [if_neg e]
      have := h.gB k (by omega)
      have := isRow_lt (h.isr k (by omega))
      exact ⟨by omega, by omega, by omega⟩
  · unfold setN
    by_cases e : k = i
    · by_cases e2 : l = i
      · omega
      · rw [if_pos e, if_neg e2]
        have := (h.gB l (by omega)).2.1
        omega
    · by_cases e2 : l = i
      · rw [if_neg e, if_pos e2]
        have := (h.gB k (by omega)).2.1
        omega
      · rw [if_neg e, if_neg e2]; exact h.inj k l (by omega) (by omega) hkl
  · unfold setN
    by_cases e : k = i
    · rw [if_pos e]; exact (keep y hyb hy).1
    · rw [if_neg e]; exact (keep _ (h.gB k (by omega)).2.2 (h.isr k (by omega))).1
  · unfold setN setF
    by_cases e : k = i
    · rw [if_pos e, if_pos e, if_pos e, (keep y hyb hy).2]; exact hc
    · rw [if_neg e, if_neg e, if_neg e, (keep _ (h.gB k (by omega)).2.2 (h.isr k (by omega))).2]; exact h.blk k (by omega)
  · unfold setN
    by_cases e : k = i
    · rw [if_pos e]; exact hN
    · rw [if_neg e]; exact h.len k (by omega)
  · unfold setN setF
    by_cases e : k = i
    · rw [if_pos e, if_pos e]; exact hb
    · rw [if_neg e, if_neg e]; exact h.bytes k (by omega)
  · unfold setF
    by_cases e : k = i
    · rw [if_pos e, hv t ht, e]
    · rw [if_neg e]; exact h.val k (by omega) t ht
theorem made_size (z : Value) (n : Nat) : (madeCells #[z] n).size = n := size_madeCells _ _
end Go.Proofs.YtfmhgfnadgaiaaaGreat
