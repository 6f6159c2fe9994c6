/- Lists of vectors as arguments of a law: how they are opened, and how they are read. -/
import Derived.Test.YtjmmmggnbndolaaGreatL1
import Derived.Test.YtjmmmggnbndolaaGreatClo
import Derived.Deep.Slices
import Derived.ChangeSame
namespace Go.Proofs.YtjmmmggnbndolaaGreat
open Go.RowKit
set_option linter.unusedSimpArgs false
set_option linter.unusedVariables false
attribute [local irreducible] wpQuiet wpQE

open Go.ChangeShapes Go.WideShapes Go.Deep
theorem run_loadCells_cs {P : Program} (w : World) (b off m : Nat) {cs : Array Value} {t : TypeId} {z : Nat × Nat} (hb : w.heap[b]? = some (.cells cs t z)) (hn : off + m ≤ cs.size) : (loadCells ⟨b, off, none⟩ m).run P w = .ok (cs.extract off (off + m)) w := by
  have := run_loadCells_list (P := P) w ⟨b, off, none⟩ (cs.extract off (off + m)).toList (fun j v hv => by
    rw [Addr.add_lit, cell_of_row _ _ _ _ _ _ hb]
    have hv' : (cs.extract off (off + m))[j]? = some v := by rw [Array.getElem?_toList] at hv; exact hv
    rw [Array.getElem?_extract] at hv'
    split at hv'
    · exact hv'
    · cases hv')
  have hl : (cs.extract off (off + m)).toList.length = m := by rw [Array.length_toList, Array.size_extract]; omega
  rw [hl, Array.toArray_toList] at this
  exact this
theorem loadN_cs {P : Program} {T m : Nat} (hT : AggT P T m) (w : World) (b off : Nat) {cs : Array Value} {t : TypeId} {z : Nat × Nat} (hb : w.heap[b]? = some (.cells cs t z)) (hn : off + m ≤ cs.size) : loadN P T (.pointer (some ⟨b, off, none⟩)) w = .ok (.value (.agg (cs.extract off (off + m)))) w := by
  have h : (loadVar T ⟨b, off, none⟩).run P w = .ok (.agg (cs.extract off (off + m))) w := by
    unfold loadVar
    rw [Sem.run_bind, run_isAgg_any hT, Result.andThen]
    simp only [↓reduceIte]
    rw [Sem.run_bind, run_sizeOf_any hT, Result.andThen, Sem.run_bind, run_loadCells_cs w b off m hb hn, Result.andThen]
    rfl
  unfold loadN Instr.loadAt Instr.sureAddr
  rw [Sem.run_bind, Sem.run_bind, Sem.run_pure, Result.andThen, h, Result.andThen, Sem.run_pure]
/-- in block b, before U, lie the m vectors g from off on, whatever of it is frozen -/
def AC (w : World) (U b off m : Nat) (g : Nat → Nat → Int) : Prop := b < U ∧ ∃ cs t z, w.heap[b]? = some (.cells cs t z) ∧ off + m * 8 ≤ cs.size ∧ ∀ i, i < m → cs.extract (off + i * 8) (off + i * 8 + 8) = row 8 (g i) ∧ Bytes 8 (g i)
theorem AC.of {w w' : World} {U b off m : Nat} {g : Nat → Nat → Int} (h : AC w U b off m g) (k : b < U → b < w.heap.size → w'.heap[b]? = w.heap[b]?) : AC w' U b off m g := by
  obtain ⟨h1, cs, t, z, h2, h3⟩ := h
  exact ⟨h1, cs, t, z, by rw [k h1 (by rw [Array.getElem?_eq_some_iff] at h2; exact h2.1)]; exact h2, h3⟩
theorem AC.below {w w' : World} {U X b off m : Nat} {g : Nat → Nat → Int} (h : AC w U b off m g) (hw : Below X w w') (hU : U ≤ X) : AC w' U b off m g := h.of fun h1 _ => hw.block b (by omega)
theorem AC.alloc {w : World} {U b off m : Nat} {g : Nat → Nat → Int} (h : AC w U b off m g) (o : Obj) : AC (w.alloc o) U b off m g := h.of fun _ hr => Below.heap_alloc _ _ _ hr
theorem AC.drew {w : World} {U b off m : Nat} {g : Nat → Nat → Int} (h : AC w U b off m g) : AC w.drew U b off m g := h.of fun _ _ => rfl
theorem AC.setRow {w : World} {U b off m : Nat} {g : Nat → Nat → Int} (h : AC w U b off m g) {x : Nat} (hx : U ≤ x) (cs : Array Value) : AC (w.setRow x cs) U b off m g := h.of fun h1 _ => setRow_other w x b cs (by omega)
theorem AC.load {w : World} {U b off m : Nat} {g : Nat → Nat → Int} (h : AC w U b off m g) {i : Nat} (hi : i < m) : loadN Tryz.prog 22 (.pointer (some ⟨b, off + i * 8, none⟩)) w = .ok (.value (.agg (row 8 (g i)))) w := by
  obtain ⟨_, cs, t, z, h2, h3, h4⟩ := h
  rw [loadN_cs (T := 22) (m := 8) ⟨by kernel_rfl, by kernel_rfl⟩ w b (off + i * 8) h2 (by omega), (h4 i hi).1]
theorem AC.bytes {w : World} {U b off m : Nat} {g : Nat → Nat → Int} (h : AC w U b off m g) {i : Nat} (hi : i < m) : Bytes 8 (g i) := by
  obtain ⟨_, cs, t, z, h2, h3, h4⟩ := h
  exact (h4 i hi).2
/-- the slice at a holds the m vectors g -/
def AL (w : World) (U : Nat) (a : Option Addr) (m c : Nat) (g : Nat → Nat → Int) : Prop := m ≤ c ∧ c ≤ maxLen ∧ (m = 0 ∨ ∃ b off, a = some ⟨b, off, none⟩ ∧ AC w U b off m g)
theorem AL.below {w w' : World} {U X : Nat} {a : Option Addr} {m c : Nat} {g : Nat → Nat → Int} (h : AL w U a m c g) (hw : Below X w w') (hU : U ≤ X) : AL w' U a m c g := by
  obtain ⟨h1, h2, h3 | ⟨b, off, h3, h4⟩⟩ := h
  · exact ⟨h1, h2, .inl h3⟩
  · exact ⟨h1, h2, .inr ⟨b, off, h3, h4.below hw hU⟩⟩
theorem AL.alloc {w : World} {U : Nat} {a : Option Addr} {m c : Nat} {g : Nat → Nat → Int} (h : AL w U a m c g) (o : Obj) : AL (w.alloc o) U a m c g := by
  obtain ⟨h1, h2, h3 | ⟨b, off, h3, h4⟩⟩ := h
  · exact ⟨h1, h2, .inl h3⟩
  · exact ⟨h1, h2, .inr ⟨b, off, h3, h4.alloc o⟩⟩
theorem AL.drew {w : World} {U : Nat} {a : Option Addr} {m c : Nat} {g : Nat → Nat → Int} (h : AL w U a m c g) : AL w.drew U a m c g := by
  obtain ⟨h1, h2, h3 | ⟨b, off, h3, h4⟩⟩ := h
  · exact ⟨h1, h2, .inl h3⟩
  · exact ⟨h1, h2, .inr ⟨b, off, h3, h4.drew⟩⟩
theorem AL.setRow {w : World} {U : Nat} {a : Option Addr} {m c : Nat} {g : Nat → Nat → Int} (h : AL w U a m c g) {x : Nat} (hx : U ≤ x) (cs : Array Value) : AL (w.setRow x cs) U a m c g := by
  obtain ⟨h1, h2, h3 | ⟨b, off, h3, h4⟩⟩ := h
  · exact ⟨h1, h2, .inl h3⟩
  · exact ⟨h1, h2, .inr ⟨b, off, h3, h4.setRow hx cs⟩⟩
theorem AL.bytes {w : World} {U : Nat} {a : Option Addr} {m c : Nat} {g : Nat → Nat → Int} (h : AL w U a m c g) {i : Nat} (hi : i < m) : Bytes 8 (g i) := by
  obtain ⟨h1, h2, h3 | ⟨b, off, h3, h4⟩⟩ := h
  · omega
  · exact h4.bytes hi
/-! ### the laws' own functions on lists of vectors -/
theorem VL.cut {w : World} {B U : Nat} {a : Option Addr} {n m c : Nat} {f f' : Nat → Nat → Int} (h : VL w B U a n c f) (e : m ≤ n) (hf : ∀ i, i < m → ∀ t, t < 8 → f i t = f' i t) : VL w B U a m c f' := by
  rcases h with ⟨h1, h2, h3⟩ | ⟨g, F, rfl, h2, h3, h4, h5, h8, h6, h9, h7⟩
  · exact .inl ⟨h1, by omega, h3⟩
  · exact .inr ⟨g, F, rfl, h2, h3, h4, by omega, h8, h6, h9, fun i hi t ht => (h7 i (by omega) t ht).trans (hf i hi t ht)⟩
theorem AL.at {w : World} {U i : Nat} {a : Option Addr} {m c : Nat} {g : Nat → Nat → Int} (h : AL w U a m c g) (hi : i < m) : ∃ b off, a = some ⟨b, off, none⟩ ∧ AC w U b off m g := by
  obtain ⟨h1, h2, h3 | h3⟩ := h
  · omega
  · exact h3
end Go.Proofs.YtjmmmggnbndolaaGreat
