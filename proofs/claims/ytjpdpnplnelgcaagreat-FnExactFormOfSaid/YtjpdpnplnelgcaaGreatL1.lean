/- Lists of vectors as values: the laws' eqVectorS, markVectorS, heldVectorS; what a function that returns a list of vectors leaves. -/
import Derived.Test.YtjpdpnplnelgcaaGreatGen
import Derived.Test.YtjpdpnplnelgcaaGreatEqs
import Derived.Test.YtjpdpnplnelgcaaGreatSl
namespace Go.Proofs.YtjpdpnplnelgcaaGreat
open Go.RowKit
set_option linter.unusedSimpArgs false
set_option linter.unusedVariables false
attribute [local irreducible] wpQuiet wpQE

@[go_sem ↓] theorem xbuild0 (ρ : Operand → Value) (dst : Option Tmp) (ty : TypeId) (pos : String) (after : Array Edge) (guard : Option (Nat × Bool)) (w : World) :
    (execOp ρ ⟨dst, .buildSlice 63 0 #[], ty, pos, after, guard⟩).run Tryz.prog w = .ok (.value (.slice (some ⟨w.heap.size, 0, none⟩) 0 0)) (w.alloc (.cells (row 0 zf) 27)) := by kernel_rfl
/-! ### lists of vectors as values -/
/-- the slice at a of length m and capacity c holds the m vectors f; its block, if it has one, lies in B .. U - 1 -/
def VL (w : World) (B U : Nat) (a : Option Addr) (m c : Nat) (f : Nat → Nat → Int) : Prop :=
  (a = none ∧ m = 0 ∧ c = 0) ∨ ∃ g F, a = some ⟨g, 0, none⟩ ∧ B ≤ g ∧ g < U ∧ IsRow w g ∧ m ≤ c ∧ c ≤ maxLen ∧ blk w g = row (c * 8) F ∧ Bytes (c * 8) F ∧ ∀ i, i < m → ∀ t, t < 8 → F (i * 8 + t) = f i t
def ownB (a : Option Addr) : Option Nat := a.map (·.block)
theorem VL.of {w w' : World} {B U : Nat} {a : Option Addr} {m c : Nat} {f : Nat → Nat → Int} (h : VL w B U a m c f) (k : ∀ g, B ≤ g → g < U → ownB a = some g → IsRow w g → w'.heap[g]? = w.heap[g]?) : VL w' B U a m c f := by
  rcases h with h | ⟨g, F, rfl, h2, h3, h4, h5, h8, h6, h9, h7⟩
  · exact .inl h
  · have e := k g h2 h3 rfl h4
    refine .inr ⟨g, F, rfl, h2, h3, ?_, h5, h8, ?_, h9, h7⟩
    · unfold IsRow; rw [e]; exact h4
    · unfold blk at h6 ⊢; rw [e]; exact h6
theorem VL.below {w w' : World} {B U X : Nat} {a : Option Addr} {m c : Nat} {f : Nat → Nat → Int} (h : VL w B U a m c f) (hw : Below X w w') (hU : U ≤ X) : VL w' B U a m c f := h.of fun g _ h2 _ _ => hw.block g (by omega)
theorem VL.alloc {w : World} {B U : Nat} {a : Option Addr} {m c : Nat} {f : Nat → Nat → Int} (h : VL w B U a m c f) (o : Obj) : VL (w.alloc o) B U a m c f := h.of fun g _ _ _ hr => Below.heap_alloc _ _ _ (isRow_lt hr)
theorem VL.drew {w : World} {B U : Nat} {a : Option Addr} {m c : Nat} {f : Nat → Nat → Int} (h : VL w B U a m c f) : VL w.drew B U a m c f := h.of fun _ _ _ _ _ => rfl
theorem VL.setRow {w : World} {B U : Nat} {a : Option Addr} {m c : Nat} {f : Nat → Nat → Int} (h : VL w B U a m c f) {b : Nat} (hb : b < B ∨ U ≤ b) (cs : Array Value) : VL (w.setRow b cs) B U a m c f := h.of fun g h1 h2 _ _ => setRow_other w b g cs (by omega)
theorem VL.aside {w w' : World} {B U X b : Nat} {a : Option Addr} {m c : Nat} {f : Nat → Nat → Int} (h : VL w B U a m c f) (hw : Aside X b w w') (hU : U ≤ X) (hb : b < B ∨ U ≤ b) : VL w' B U a m c f := h.of fun g h1 h2 _ _ => hw.block g (by omega) (by omega)
theorem vtV {w : World} {B U : Nat} {a : Option Addr} {m c : Nat} {f : Nat → Nat → Int} (h : VL w B U a m c f := by repeat (first | assumption | refine VL.alloc ?_ _ | refine VL.drew ?_ | refine VL.setRow ?_ (by omega) _)) : VL w B U a m c f := h
theorem VL.grown {w w' : World} {B U : Nat} {a b : Option Addr} {m c : Nat} {f : Nat → Nat → Int} (h : VL w B U a m c f) (hg : w.grownBy w' (ownB b)) (hne : ownB a = none ∨ ownB a ≠ ownB b) : VL w' B U a m c f := h.of fun g _ _ ha hr => hg.block g (isRow_lt hr) (by rcases hne with h0 | h0; (rw [h0] at ha; cases ha); rw [← ha]; exact h0)
theorem VL.ne {w : World} {B U b : Nat} {a : Option Addr} {m c : Nat} {f : Nat → Nat → Int} (h : VL w B U a m c f) (hb : b < B ∨ U ≤ b) : some b ≠ ownB a := by
  rcases h with ⟨rfl, _⟩ | ⟨g, F, rfl, h2, h3, _⟩
  · exact fun e => by cases e
  · exact fun e => by have : b = g := by simpa [ownB] using e
                      omega
theorem VL.same {w : World} {B U : Nat} {a : Option Addr} {m m' c : Nat} {f f' : Nat → Nat → Int} (h : VL w B U a m c f) (e : m = m') (hf : ∀ i, i < m → ∀ t, t < 8 → f i t = f' i t) : VL w B U a m' c f' := by
  subst e
  rcases h with h | ⟨g, F, rfl, h2, h3, h4, h5, h8, h6, h9, h7⟩
  · exact .inl h
  · exact .inr ⟨g, F, rfl, h2, h3, h4, h5, h8, h6, h9, fun i hi t ht => (h7 i hi t ht).trans (hf i hi t ht)⟩
theorem VL.wider {w : World} {B U B' U' : Nat} {a : Option Addr} {m c : Nat} {f : Nat → Nat → Int} (h : VL w B U a m c f) (hB : B' ≤ B) (hU : U ≤ U') : VL w B' U' a m c f := by
  rcases h with h | ⟨g, F, rfl, h2, h3, h4⟩
  · exact .inl h
  · exact .inr ⟨g, F, rfl, by omega, by omega, h4⟩
theorem VL.nil (w : World) (B U : Nat) (f : Nat → Nat → Int) : VL w B U none 0 0 f := .inl ⟨rfl, rfl, rfl⟩
theorem VL.nilOf {w : World} {B U m : Nat} {f : Nat → Nat → Int} (e : m = 0) : VL w B U none m 0 f := .inl ⟨rfl, e, rfl⟩
theorem VL.some {w : World} {B U : Nat} {a : Option Addr} {m c : Nat} {f : Nat → Nat → Int} (h : VL w B U a m c f) (hm : 0 < m) : ∃ g F, a = some ⟨g, 0, none⟩ ∧ B ≤ g ∧ g < U ∧ IsRow w g ∧ m ≤ c ∧ c ≤ maxLen ∧ blk w g = row (c * 8) F ∧ Bytes (c * 8) F ∧ ∀ i, i < m → ∀ t, t < 8 → F (i * 8 + t) = f i t := by
  rcases h with ⟨_, h, _⟩ | h
  · omega
  · exact h
theorem VL.empty {w : World} {B U g : Nat} (hB : B ≤ g) (hU : g < U) (hr : IsRow w g) (hc : blk w g = row 0 zf) (f : Nat → Nat → Int) : VL w B U (Option.some ⟨g, 0, none⟩) 0 0 f := .inr ⟨g, zf, rfl, hB, hU, hr, Nat.le_refl _, Nat.zero_le _, hc, fun i hi => by omega, fun i hi => by omega⟩
/-! ### append onto a list of vectors -/
/-- f with v behind the first n -/
def addV (f : Nat → Nat → Int) (n : Nat) (v : Nat → Int) : Nat → Nat → Int := fun i => if i < n then f i else v
theorem addV_old {f : Nat → Nat → Int} {n i : Nat} {v : Nat → Int} (h : i < n) : addV f n v i = f i := if_pos h
theorem addV_new {f : Nat → Nat → Int} {n : Nat} {v : Nat → Int} : addV f n v n = v := if_neg (Nat.lt_irrefl _)
theorem infoVec : (Tryz.prog.info? 27).map (fun i => (i.zero, i.size, i.bytes)) = some (some (.agg (row 8 zf)), 8, 8) := by rw [row_zeros]; kernel_rfl
theorem sliceVec : Tryz.prog.underlying 63 = some (.slice 27) := by kernel_rfl
theorem appendV (w : World) {ops : Array Oper} {rest : List Oper} {o : Oper} {A : Act} {Q : Exit → Act → World → Prop} (hgd : o.guard = none) (s x : Operand)
    (ho : o.op = .call { callee := .builtin .append, args := #[s, x], argTypes := #[63, 63] })
    {B U : Nat} {a : Option Addr} {m c : Nat} {f : Nat → Nat → Int} (h : VL w B U a m c f) (hB : B ≤ w.heap.size) (hm : m + 1 ≤ 1000000) (hv : A.eval s = .slice a m c)
    (sb c1 : Nat) (u : Nat → Int) (hx : A.eval x = .slice (some ⟨sb, 0, none⟩) 1 c1) (hsc : blk w sb = row 8 u) (hu : Bytes 8 u)
    (k : ∀ a' c' w', w.grownBy w' (ownB a) → (ownB a' = ownB a ∨ ∃ g, ownB a' = some g ∧ w.heap.size ≤ g) → VL w' B w'.heap.size a' (m + 1) c' (addV f m u) → wpList Tryz.prog ops Q rest (A.put o.dst (.slice a' (m + 1) c')) w') : wpList Tryz.prog ops Q (o :: rest) A w := by
  obtain ⟨i0, hi, hz0, hz1, hz2⟩ := info_parts infoVec
  rcases h with ⟨rfl, rfl, rfl⟩ | ⟨g, F, rfl, h2, h3, h4, h5, h8, h6, h9, h7⟩
  · refine wpList_bornB w hgd s x _ ho _ i0 _ 8 8 sliceVec hi hz0 hz1 hz2 rfl hv sb 0 1 c1 8 u hx hsc (by omega) hu (by omega) (by unfold maxLen; omega) (by omega) fun g' cap' F' w' hG => ?_
    refine k _ _ _ hG.by_ (.inr ⟨g', rfl, hG.new⟩) (.inr ⟨g', F', rfl, by have := hG.new; omega, isRow_lt hG.row, hG.row, hG.len, hG.max, hG.blk, hG.bytes, fun i hi t ht => ?_⟩)
    obtain rfl : i = 0 := by omega
    rw [addV_new, Nat.zero_mul, Nat.zero_add, hG.more t (by omega), Nat.zero_add]
  · refine wpList_growB w hgd s x _ ho _ i0 _ 8 8 sliceVec hi hz0 hz1 hz2 rfl g m c F hv h4 h5 h8 h6 h9 sb 0 1 c1 8 u hx hsc (by omega) hu (by unfold maxLen; omega) (by omega) fun g' cap' F' w' hG => ?_
    refine k _ _ _ hG.by_ (hG.new.elim (fun e => .inl (by rw [e])) fun e => .inr ⟨g', rfl, e⟩) (.inr ⟨g', F', rfl, by have := hG.new; omega, isRow_lt hG.row, hG.row, hG.len, hG.max, hG.blk, hG.bytes, fun i hi t ht => ?_⟩)
    by_cases h1 : i < m
    · rw [addV_old h1, hG.old _ (by omega)]
      exact h7 i h1 t ht
    · obtain rfl : i = m := by omega
      rw [addV_new, hG.more t (by omega), Nat.zero_add]
theorem below_own {n : Nat} {w0 w w' : World} {B U : Nat} {a : Option Addr} {m c : Nat} {f : Nat → Nat → Int} (hb : Below n w0 w) (h : VL w B U a m c f) (hg : w.grownBy w' (ownB a)) (hn : n ≤ w.heap.size) (hB : n ≤ B) : Below n w0 w' :=
  hb.grown hg hn fun k e => by
    rcases h with ⟨rfl, _⟩ | ⟨g, F, rfl, h2, _⟩
    · cases e
    · have : g = k := by simpa [ownB] using e
      omega
/-- two lists lie in different blocks -/
def ApartV (a b : Option Addr) : Prop := ownB a = none ∨ ownB a ≠ ownB b
theorem apart_symm {a b : Option Addr} (h : ApartV a b) : ApartV b a := by
  rcases h with h | h
  · by_cases hb : ownB b = none
    · exact .inl hb
    · exact .inr (by rw [h]; exact hb)
  · by_cases hb : ownB b = none
    · exact .inl hb
    · exact .inr (Ne.symm h)
theorem apart_range {w w' : World} {B U B' U' : Nat} {a b : Option Addr} {m c m' c' : Nat} {f f' : Nat → Nat → Int} (h : VL w B U a m c f) (h' : VL w' B' U' b m' c' f') (hU : U ≤ B') : ApartV a b := by
  rcases h with ⟨rfl, _⟩ | ⟨g, F, rfl, h2, h3, _⟩
  · exact .inl rfl
  · rcases h' with ⟨rfl, _⟩ | ⟨g', F', rfl, h2', h3', _⟩
    · exact .inr (fun e => by cases e)
    · exact .inr (fun e => by have : g = g' := by simpa [ownB] using e
                              omega)
theorem apart_new {w : World} {B U : Nat} {a a' b : Option Addr} {m c : Nat} {f : Nat → Nat → Int} (h : ApartV b a) (hb : VL w B U b m c f) (hU : U ≤ w.heap.size) (e : ownB a' = ownB a ∨ ∃ g, ownB a' = Option.some g ∧ w.heap.size ≤ g) : ApartV b a' := by
  rcases e with e | ⟨g, e, hg⟩
  · unfold ApartV; rw [e]; exact h
  · rcases hb with ⟨rfl, _⟩ | ⟨g2, F, rfl, _, h3, _⟩
    · exact .inl rfl
    · exact .inr (by rw [e]; exact fun x => by have : g2 = g := by simpa [ownB] using x
                                               omega)

end Go.Proofs.YtjpdpnplnelgcaaGreat
