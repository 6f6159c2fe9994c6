/- Lists of vectors as arguments of a law: how they are opened, and how they are read. -/
import Derived.Test.YtjmmmggnbndolaaL1
import Derived.Test.YtjmmmggnbndolaaClo
import Derived.Deep.Slices
import Derived.ChangeSame
namespace Go.Proofs.Ytjmmmggnbndolaa
open Go.RowKit
set_option linter.unusedSimpArgs false
set_option linter.unusedVariables false
attribute [local irreducible] wpQuiet wpQE

open Go.ChangeShapes Go.WideShapes Go.Deep
theorem run_loadCells_cs {P : Program} (w : World) (b off m : Nat) {cs : Array Value} {t : TypeId} {z : Nat × Nat} (hb : w.heap[b]? = some (.cells cs t z)) (hn : off + m ≤ cs.size) : (loadCells ⟨b, off, none⟩ m).run P w = .ok (cs.extract off (off + m)) w := by
  have := run_loadCells_list (P := P) w ⟨b, off, none⟩ (cs.extract off (off + m)).toList (fun j v hv => by
    rw [Addr.add_lit, cell_of_row _ _ _ _ _ _ hb]
    have hv' : (cs.extract off (off + m))[j]? = some v := by rw [Array.getElem?_toList] at hv; exact hv
    rw [Array.getElem?_extract] at hv'
    split at hv'
    · exact hv'
    · cases hv')
  have hl : (cs.extract off (off + m)).toList.length = m := by rw [Array.length_toList, Array.size_extract]; omega
  rw [hl, Array.toArray_toList] at this
  exact this
theorem loadN_cs {P : Program} {T m : Nat} (hT : AggT P T m) (w : World) (b off : Nat) {cs : Array Value} {t : TypeId} {z : Nat × Nat} (hb : w.heap[b]? = some (.cells cs t z)) (hn : off + m ≤ cs.size) : loadN P T (.pointer (some ⟨b, off, none⟩)) w = .ok (.value (.agg (cs.extract off (off + m)))) w := by
  have h : (loadVar T ⟨b, off, none⟩).run P w = .ok (.agg (cs.extract off (off + m))) w := by
    unfold loadVar
    rw [Sem.run_bind, run_isAgg_any hT, Result.andThen]
    simp only [↓reduceIte]
    rw [Sem.run_bind, run_sizeOf_any hT, Result.andThen, Sem.run_bind, run_loadCells_cs w b off m hb hn, Result.andThen]
    rfl
  unfold loadN Instr.loadAt Instr.sureAddr
  rw [Sem.run_bind, Sem.run_bind, Sem.run_pure, Result.andThen, h, Result.andThen, Sem.run_pure]
/-- in block b, before U, lie the m vectors g from off on, whatever of it is frozen -/
def AC (w : World) (U b off m : Nat) (g : Nat → Nat → Int) : Prop := b < U ∧ ∃ cs t z, w.heap[b]? = some (.cells cs t z) ∧ off + m * 8 ≤ cs.size ∧ ∀ i, i < m → cs.extract (off + i * 8) (off + i * 8 + 8) = row 8 (g i) ∧ Bytes 8 (g i)
theorem AC.of {w w' : World} {U b off m : Nat} {g : Nat → Nat → Int} (h : AC w U b off m g) (k : b < U → b < w.heap.size → w'.heap[b]? = w.heap[b]?) : AC w' U b off m g := by
  obtain ⟨h1, cs, t, z, h2, h3⟩ := h
  exact ⟨h1, cs, t, z, by rw [k h1 (by rw [Array.getElem?_eq_some_iff] at h2; exact h2.1)]; exact h2, h3⟩
theorem AC.below {w w' : World} {U X b off m : Nat} {g : Nat → Nat → Int} (h : AC w U b off m g) (hw : Below X w w') (hU : U ≤ X) : AC w' U b off m g := h.of fun h1 _ => hw.block b (by omega)
theorem AC.alloc {w : World} {U b off m : Nat} {g : Nat → Nat → Int} (h : AC w U b off m g) (o : Obj) : AC (w.alloc o) U b off m g := h.of fun _ hr => Below.heap_alloc _ _ _ hr
theorem AC.drew {w : World} {U b off m : Nat} {g : Nat → Nat → Int} (h : AC w U b off m g) : AC w.drew U b off m g := h.of fun _ _ => rfl
theorem AC.setRow {w : World} {U b off m : Nat} {g : Nat → Nat → Int} (h : AC w U b off m g) {x : Nat} (hx : U ≤ x) (cs : Array Value) : AC (w.setRow x cs) U b off m g := h.of fun h1 _ => setRow_other w x b cs (by omega)
theorem AC.load {w : World} {U b off m : Nat} {g : Nat → Nat → Int} (h : AC w U b off m g) {i : Nat} (hi : i < m) : loadN Try.prog 31 (.pointer (some ⟨b, off + i * 8, none⟩)) w = .ok (.value (.agg (row 8 (g i)))) w := by
  obtain ⟨_, cs, t, z, h2, h3, h4⟩ := h
  rw [loadN_cs (T := 31) (m := 8) ⟨by kernel_rfl, by kernel_rfl⟩ w b (off + i * 8) h2 (by omega), (h4 i hi).1]
theorem AC.bytes {w : World} {U b off m : Nat} {g : Nat → Nat → Int} (h : AC w U b off m g) {i : Nat} (hi : i < m) : Bytes 8 (g i) := by
  obtain ⟨_, cs, t, z, h2, h3, h4⟩ := h
  exact (h4 i hi).2
/-- the slice at a holds the m vectors g -/
def AL (w : World) (U : Nat) (a : Option Addr) (m c : Nat) (g : Nat → Nat → Int) : Prop := m ≤ c ∧ c ≤ maxLen ∧ (m = 0 ∨ ∃ b off, a = some ⟨b, off, none⟩ ∧ AC w U b off m g)
theorem AL.below {w w' : World} {U X : Nat} {a : Option Addr} {m c : Nat} {g : Nat → Nat → Int} (h : AL w U a m c g) (hw : Below X w w') (hU : U ≤ X) : AL w' U a m c g := by
  obtain ⟨h1, h2, h3 | ⟨b, off, h3, h4⟩⟩ := h
  · exact ⟨h1, h2, .inl h3⟩
  · exact ⟨h1, h2, .inr ⟨b, off, h3, h4.below hw hU⟩⟩
theorem AL.alloc {w : World} {U : Nat} {a : Option Addr} {m c : Nat} {g : Nat → Nat → Int} (h : AL w U a m c g) (o : Obj) : AL (w.alloc o) U a m c g := by
  obtain ⟨h1, h2, h3 | ⟨b, off, h3, h4⟩⟩ := h
  · exact ⟨h1, h2, .inl h3⟩
  · exact ⟨h1, h2, .inr ⟨b, off, h3, h4.alloc o⟩⟩
theorem AL.drew {w : World} {U : Nat} {a : Option Addr} {m c : Nat} {g : Nat → Nat → Int} (h : AL w U a m c g) : AL w.drew U a m c g := by
  obtain ⟨h1, h2, h3 | ⟨b, off, h3, h4⟩⟩ := h
  · exact ⟨h1, h2, .inl h3⟩
  · exact ⟨h1, h2, .inr ⟨b, off, h3, h4.drew⟩⟩
theorem AL.setRow {w : World} {U : Nat} {a : Option Addr} {m c : Nat} {g : Nat → Nat → Int} (h : AL w U a m c g) {x : Nat} (hx : U ≤ x) (cs : Array Value) : AL (w.setRow x cs) U a m c g := by
  obtain ⟨h1, h2, h3 | ⟨b, off, h3, h4⟩⟩ := h
  · exact ⟨h1, h2, .inl h3⟩
  · exact ⟨h1, h2, .inr ⟨b, off, h3, h4.setRow hx cs⟩⟩
theorem AL.bytes {w : World} {U : Nat} {a : Option Addr} {m c : Nat} {g : Nat → Nat → Int} (h : AL w U a m c g) {i : Nat} (hi : i < m) : Bytes 8 (g i) := by
  obtain ⟨h1, h2, h3 | ⟨b, off, h3, h4⟩⟩ := h
  · omega
  · exact h4.bytes hi
theorem open_vecs {H : Type} {enc : TypeId × Value → H} {P : Program} {w : World} {r : Reach} {b0 : Nat} {t e u : TypeId} {v : Value} {d : DataW H} {ps : List MemPlace} (ht : P.underlying t = some (.slice e)) (he : P.underlying e = some (.array 8 u)) (hu : P.underlying u = some (.int .u8)) (hc : P.cellsOf e = 8) (hcu : P.cellsOf u = 1)
    (hval : Value.okWide P w r b0 t v) (hd : DataW.Trod enc P w 0 (fun _ => true) true t v d ps) : ∃ (a : Option Addr) (m c : Nat) (g : Nat → Nat → Int), v = .slice a m c ∧ AL w w.heap.size a m c g := by
  obtain ⟨a0, m, c, rfl⟩ := okWide_slice ht hval
  obtain ⟨fuel, hf⟩ := hd
  rcases open_slice ht hf with ⟨h1, _⟩ | ⟨a, len, cap, k, n, D, Pl, h1, _, hl, hm, hk, _, hi⟩
  · simp [Value.cells] at h1
    obtain ⟨rfl, rfl, rfl⟩ := h1
    exact ⟨none, 0, 0, fun _ _ => 0, rfl, Nat.le_refl _, Nat.zero_le _, .inl rfl⟩
  · simp [Value.cells] at h1
    obtain ⟨rfl, rfl, rfl⟩ := h1
    have hk : k = c := by simpa using hk
    subst hk
    rw [hc] at hi
    have key : ∀ i, i < k → ∀ j, j < 8 → ∃ x : Int, w.cell? (a.add (i * 8 + j)) = some (.int .u8 x) ∧ 0 ≤ x ∧ x ≤ 255 := by
      intro i hi' j hj
      obtain ⟨cs, h2, h3⟩ := hi i hi'
      obtain ⟨_, hlen, hat⟩ := World.cells?_some h2
      obtain ⟨xs, n', _, _, hcl, hxl, hx⟩ := DataW.trod_array he h3
      have h4 := hx j hj
      rw [hcu, Nat.mul_one] at h4
      have e1 : xs[j]? = some (xs[j]'(by omega)) := List.getElem?_eq_getElem (by omega)
      rw [e1] at h4
      obtain ⟨x, h5, _, h6⟩ := DataW.trod_int hu h4
      have h7 : cs[j]? = some (.int .u8 x) := by
        have e2 : (cs.drop j).take 1 = [cs[j]'(by omega)] := by rw [List.drop_eq_getElem_cons (by omega)]; rfl
        rw [e2] at h5
        rw [List.getElem?_eq_getElem (by omega), List.head_eq_of_cons_eq h5]
      refine ⟨x, ?_, ?_⟩
      · rw [← Go.Deep.add_add, hat j hj, h7]
      · simp [Lit.wf, IntKind.min, IntKind.max, IntKind.signed, IntKind.bits] at h6
        omega
    by_cases hm0 : m = 0
    · subst hm0
      exact ⟨some a, 0, k, fun _ _ => 0, rfl, hl, hm, .inl rfl⟩
    · obtain ⟨x0, h0, _⟩ := key 0 (by omega) 0 (by omega)
      obtain ⟨b, off, sp⟩ := a
      have h0' : w.cell? ⟨b, off, sp⟩ = some (.int .u8 x0) := h0
      unfold World.cell? at h0'
      split at h0'
      · rename_i cs t' z hb
        split at h0'
        · cases h0'
        · rename_i hsp
          obtain rfl : sp = none := by cases sp; rfl; simp at hsp
          have get : ∀ i, i < m → ∀ j, j < 8 → ∃ x : Int, cs[off + (i * 8 + j)]? = some (.int .u8 x) ∧ 0 ≤ x ∧ x ≤ 255 := fun i hi' j hj => by
            obtain ⟨x, h1, h2⟩ := key i (by omega) j hj
            rw [Addr.add_lit, cell_of_row _ _ _ _ _ _ hb] at h1
            exact ⟨x, h1, h2⟩
          have hs : off + m * 8 ≤ cs.size := by
            obtain ⟨x, h1, _⟩ := get (m - 1) (by omega) 7 (by omega)
            have := (Array.getElem?_eq_some_iff.1 h1).1
            omega
          refine ⟨some ⟨b, off, none⟩, m, k, fun i j => cellInt cs (off + (i * 8 + j)), rfl, hl, hm, .inr ⟨b, off, rfl, ?_, cs, t', z, hb, hs, fun i hi' => ⟨?_, ?_⟩⟩⟩
          · exact (Array.getElem?_eq_some_iff.1 hb).1
          · apply Array.ext_getElem?
            intro j
            rw [Array.getElem?_extract]
            by_cases hj : j < 8
            · obtain ⟨x, h1, _⟩ := get i hi' j hj
              rw [if_pos (by omega), row_get? _ _ _ hj, show off + i * 8 + j = off + (i * 8 + j) by omega, h1]
              simp only [cellInt, h1]
            · rw [if_neg (by omega), row_get_none _ _ _ (by omega)]
          · intro j hj
            obtain ⟨x, h1, h2⟩ := get i hi' j hj
            simp only [cellInt, h1]
            exact h2
      · cases h0'

/-! ### the laws' own functions on lists of vectors -/
theorem mark_row : #[Value.int .u8 201, .int .u8 0, .int .u8 0, .int .u8 0, .int .u8 0, .int .u8 0, .int .u8 0, .int .u8 0] = row 8 fun t => if t = 0 then 201 else 0 := by kernel_rfl
def roomN (m : Nat) : Nat := if m % 6 = 5 then 0 else if m % 3 = 0 then 1 else m
theorem room5 {m : Nat} (h : m % 6 = 5) : roomN m = 0 := if_pos h
theorem room3 {m : Nat} (h : ¬ m % 6 = 5) (h3 : m % 3 = 0) : roomN m = 1 := by unfold roomN; rw [if_neg h, if_pos h3]
theorem room1 {m : Nat} (h : ¬ m % 6 = 5) (h3 : ¬ m % 3 = 0) : roomN m = m := by unfold roomN; rw [if_neg h, if_neg h3]
theorem room_le (m : Nat) : roomN m ≤ m + 1 := by
  unfold roomN
  split
  · omega
  · split <;> omega
theorem made_rows (n : Nat) : madeCells (row 8 zf) n = row n zf := by
  apply Array.ext
  · rw [size_madeCells, row_size]
  · intro i h1 h2
    rw [size_madeCells] at h1
    have h3 : i % 8 < 8 := Nat.mod_lt _ (by omega)
    have e : (row 8 zf)[i % 8]? = some (.int .u8 0) := row_get? 8 zf (i % 8) h3
    have e2 : (row n zf)[i]? = some (.int .u8 0) := row_get? n zf i h1
    rw [Array.getElem?_eq_getElem h2] at e2
    rw [Option.some.inj e2]
    unfold madeCells
    simp only [Array.getElem_map, Array.getElem_range, row_size]
    rw [getElem!_def, e]
theorem make_vecs (n : Nat) (h : n ≤ 3000000) (w : World) : (Instr.makeSlice 24 (.int .i64 (n : Int)) (.int .i64 (n : Int))).run Try.prog w = .ok (.slice (some ⟨w.heap.size, 0, none⟩) n n) (w.alloc (.cells (row (n * 8) zf) 38)) := by
  obtain ⟨i0, hi, hz0, hz1, hz2⟩ := info_parts infoVec
  have hr := run_make (P := Try.prog) w 24 38 i0 (.agg (row 8 zf)) sliceVec hi hz0 .i64 .i64 n n (by omega) (Int.le_refl _) (by rw [hz2]; omega) (by omega)
  rw [Int.toNat_natCast, hz1] at hr
  rw [hr]
  have e : (Value.agg (row 8 zf)).cells = row 8 zf := rfl
  rw [e, made_rows]
/-- what a copy of a list holds: the vectors, and behind them the marks -/
def extG (m : Nat) (g : Nat → Nat → Int) : Nat → Nat → Int := fun i => if i < m then g i else fun t => if t = 0 then 201 else 0
/-- the first k of them, zeros behind -/
def extK (m : Nat) (g : Nat → Nat → Int) (k : Nat) : Nat → Int := fun u => if u / 8 < k then extG m g (u / 8) (u % 8) else 0
theorem ext_zero (N m : Nat) (g : Nat → Nat → Int) : row N zf = row N (extK m g 0) := row_congr fun u _ => by unfold extK zf; rw [if_neg (by omega)]
theorem ext_lay {N m k : Nat} {g : Nat → Nat → Int} {v : Nat → Int} (hk : k < N) (hv : ∀ t, t < 8 → v t = extG m g k t) : lay (row (N * 8) (extK m g k)) (k * 8) (row 8 v) = row (N * 8) (extK m g (k + 1)) := by
  rw [lay_row _ _ _ _ _ (by omega)]
  refine row_congr fun u hu => ?_
  unfold extK
  by_cases h : k * 8 ≤ u ∧ u < k * 8 + 8
  · rw [if_pos h, if_pos (by omega), show u / 8 = k by omega, show u - k * 8 = u % 8 by omega, hv _ (by omega)]
  · rw [if_neg h]
    by_cases h2 : u / 8 < k
    · rw [if_pos h2, if_pos (by omega)]
    · rw [if_neg h2, if_neg (by omega)]
theorem ext_bytes {N m k : Nat} {g : Nat → Nat → Int} (hg : ∀ i, i < m → Bytes 8 (g i)) : Bytes N (extK m g k) := fun u _ => by
  unfold extK extG
  split
  · split
    · exact hg _ (by assumption) _ (by omega)
    · dsimp only
      split <;> omega
  · omega
theorem ext_list {w : World} {B U b N m : Nat} {g : Nat → Nat → Int} (hB : B ≤ b) (hU : b < U) (hr : IsRow w b) (hc : blk w b = row (N * 8) (extK m g N)) (hN : N ≤ 3000000) (hg : ∀ i, i < m → Bytes 8 (g i)) : VL w B U (some ⟨b, 0, none⟩) N N (extG m g) :=
  .inr ⟨b, extK m g N, rfl, hB, hU, hr, Nat.le_refl _, by unfold maxLen; omega, hc, ext_bytes hg, fun i hi t ht => by unfold extK; rw [if_pos (by omega), show (i * 8 + t) / 8 = i by omega, show (i * 8 + t) % 8 = t by omega]⟩
theorem VL.cut {w : World} {B U : Nat} {a : Option Addr} {n m c : Nat} {f f' : Nat → Nat → Int} (h : VL w B U a n c f) (e : m ≤ n) (hf : ∀ i, i < m → ∀ t, t < 8 → f i t = f' i t) : VL w B U a m c f' := by
  rcases h with ⟨h1, h2, h3⟩ | ⟨g, F, rfl, h2, h3, h4, h5, h8, h6, h9, h7⟩
  · exact .inl ⟨h1, by omega, h3⟩
  · exact .inr ⟨g, F, rfl, h2, h3, h4, by omega, h8, h6, h9, fun i hi t ht => (h7 i (by omega) t ht).trans (hf i hi t ht)⟩
theorem ext_low {m i : Nat} {g : Nat → Nat → Int} (h : i < m) (t : Nat) : extG m g i t = g i t := by unfold extG; rw [if_pos h]
theorem ext_high {m i : Nat} {g : Nat → Nat → Int} (h : m ≤ i) (t : Nat) : extG m g i t = if t = 0 then 201 else 0 := by unfold extG; rw [if_neg (show ¬ i < m by omega)]
theorem AL.at {w : World} {U i : Nat} {a : Option Addr} {m c : Nat} {g : Nat → Nat → Int} (h : AL w U a m c g) (hi : i < m) : ∃ b off, a = some ⟨b, off, none⟩ ∧ AC w U b off m g := by
  obtain ⟨h1, h2, h3 | h3⟩ := h
  · omega
  · exact h3
/-- the whole block of a list is written, and no other one -/
theorem VL.amid {w w' : World} {B U X : Nat} {a : Option Addr} {m c : Nat} {f : Nat → Nat → Int} (h : VL w B U a m c f) (hw : ∀ k, X ≤ k → k < w.heap.size → w'.heap[k]? = w.heap[k]?) (hB : X ≤ B) : VL w' B U a m c f := h.of fun g h1 _ _ hr => hw g (by omega) (isRow_lt hr)
theorem markVectorS_amid {w : World} {B U : Nat} {a : Option Addr} {m c : Nat} {f : Nat → Nat → Int} {q : Int} (hm : m ≤ 1000000) (h0 : 0 ≤ q) (h1 : q ≤ 1000) (hB : B ≤ w.heap.size) (h : VL w B U a m c f) :
    Calls Try.prog 12 #[.slice a m c, .int .i64 q] w fun e w' => e = .returned (.int .i64 (q + ((m * 8 : Nat) : Int))) ∧ Below B w w' ∧ (∀ k, U ≤ k → k < w.heap.size → w'.heap[k]? = w.heap[k]?) ∧ VL w' B U a m c (mkL q) := by
  rcases Nat.eq_zero_or_pos m with rfl | hp
  · refine (markVectorS_zero a c q w).mono ?_
    rintro e w' ⟨rfl, rfl⟩
    exact ⟨by simp, Below.refl _ _, fun _ _ _ => rfl, h.same rfl fun i hi => by omega⟩
  · obtain ⟨g, F, rfl, hg, hgU, hr, hc, hcm, hb, hFb, hF⟩ := h.some hp
    refine (markVectorS_some g m c F q w hm hc hr hb h0 h1).mono ?_
    rintro e w' ⟨rfl, hw, hr', hb'⟩
    refine ⟨rfl, ⟨hw.os, hw.tape, hw.output, hw.size, fun k hk => hw.block k (by omega) (by omega)⟩, fun k hk hk2 => hw.block k hk2 (by omega), .inr ⟨g, _, rfl, hg, hgU, hr', hc, hcm, hb', mkF_bytes hFb, fun i hi t ht => ?_⟩⟩
    unfold mkF mkL
    rw [if_pos (by omega)]

set_option maxRecDepth 100000 in
set_option maxHeartbeats 1000000 in
theorem roomBehind_any (m : Nat) (w : World) (hm : m ≤ 1000000) :
    Calls Try.prog 24 #[.int .i64 m] w fun e w' => e = .returned (.int .i64 (roomN m)) ∧ Below w.heap.size w w' := by
 have t6 : ((m : Nat) : Int).tmod 6 = (m : Int) % 6 := Int.tmod_eq_emod_of_nonneg (by omega)
 have t3 : ((m : Nat) : Int).tmod 3 = (m : Int) % 3 := Int.tmod_eq_emod_of_nonneg (by omega)
 by_cases h5 : m % 6 = 5
 ·
  have x5 : ((m : Int) % 6 == 5) = true := by rw [beq_iff_eq]; omega
  have H := Lib.hid (room5 h5)
  go_enter Try.func24, Try.ntmps24
  go_wp2_with fail
  go_ret
  exact ⟨ret_int (by rw [H.out]; rfl), bt⟩
 ·
  by_cases h3 : m % 3 = 0
  ·
   have x5 : ((m : Int) % 6 == 5) = false := by rw [beq_eq_false_iff_ne]; omega
   have x3 : ((m : Int) % 3 == 0) = true := by rw [beq_iff_eq]; omega
   have H := Lib.hid (room3 h5 h3)
   go_enter Try.func24, Try.ntmps24
   go_wp2_with fail
   go_ret
   exact ⟨ret_int (by rw [H.out]; rfl), bt⟩
  ·
   have x5 : ((m : Int) % 6 == 5) = false := by rw [beq_eq_false_iff_ne]; omega
   have x3 : ((m : Int) % 3 == 0) = false := by rw [beq_eq_false_iff_ne]; omega
   have H := Lib.hid (room1 h5 h3)
   go_enter Try.func24, Try.ntmps24
   go_wp2_with fail
   go_ret
   exact ⟨ret_int (by rw [H.out]), bt⟩

set_option maxRecDepth 100000 in
set_option maxHeartbeats 1000000 in
theorem toVectorS_false (U : Nat) (a : Option Addr) (m c : Nat) (g : Nat → Nat → Int) (w : World) (hm : m ≤ 1000000) (hU : U ≤ w.heap.size) (hA : AL w U a m c g) :
    Calls Try.prog 8 #[.slice a m c, .bool false] w fun e w' => ∃ b, e = .returned (.slice (some ⟨b, 0, none⟩) m (m + roomN m)) ∧ Below w.heap.size w w' ∧ VL w' w.heap.size w'.heap.size (some ⟨b, 0, none⟩) (m + roomN m) (m + roomN m) (extG m g) := by
 have hq := room_le m
 have q0 : IntKind.i64.wrap ((m : Int) + (roomN m : Int)) = ((m + roomN m : Nat) : Int) := by rw [IntWalk.i64_in _ (by omega)]; omega
 have hmk := make_vecs (m + roomN m) (by omega)
 have HGB : Hid (∀ i, i < m → Bytes 8 (g i)) := Lib.hid fun i hi => hA.bytes hi
 obtain ⟨N, hN⟩ : ∃ N, m + roomN m = N := ⟨_, rfl⟩
 rw [hN] at q0 hmk ⊢
 have hmN : m ≤ N := by omega
 have hN3 : N ≤ 3000000 := by omega
 go_enter Try.func8, Try.ntmps8
 go_wp2_with fail
 refine atomC fun W1 e1 => ?_
 have hb1 : Below w.heap.size w W1 := by rw [e1]; exact bt
 have q1 := hb1.size
 have hvA_1 : AL W1 U a m c g := by rw [e1]; (repeat (first | exact hA | refine AL.alloc ?_ _ | refine AL.drew ?_ | refine AL.setRow ?_ (by omega) _))
 clear e1 hA
 refine (roomBehind_any m _ hm).mono ?_; rintro _ W2 ⟨rfl, hw2⟩
 obtain ⟨hb2, q2⟩ := bN hb1 hw2
 have sz2 := hw2.size
 have hvA_2 := hvA_1.below hw2 (by omega)
 clear hw2 hvA_1 hb1
 go_wp2
 refine atomW fun W3 e3 => ?_
 have hb3 : Below w.heap.size w W3 := by rw [e3]; exact bt
 have q3 := hb3.size
 have r20_3 : IsRow W3 (W2.heap.size) := by rw [e3]; simp [go_sem]
 have c20_3 := congrArg (fun x => blk x (W2.heap.size)) e3; simp [go_sem] at c20_3
 have z20_3 := isRow_lt r20_3
 have hvA_3 : AL W3 U a m c g := by rw [e3]; (repeat (first | exact hvA_2 | refine AL.alloc ?_ _ | refine AL.drew ?_ | refine AL.setRow ?_ (by omega) _))
 clear e3 hvA_2 hb2
 go_loopw [6] (fun s6 wr => ∃ i : Nat, i ≤ m ∧ s6 = .int .i64 i ∧ Below w.heap.size w wr ∧ (IsRow wr (W2.heap.size) ∧ blk wr (W2.heap.size) = row (N * 8) (extK m g i)) ∧ AL wr U a m c g ∧ ((0) ≤ (U) ∧ (U) ≤ wr.heap.size)) (fun s6 _ => m - (intOf s6).toNat)
 case atStart => exact ⟨0, by omega, rfl, hb3, ⟨r20_3, c20_3.trans (ext_zero (N * 8) m g)⟩, hvA_3, (by omega)⟩
 case round =>
  obtain ⟨i, hle4, rfl, hb4, ⟨r20_4, c20_4⟩, hvA_4, hUA_4⟩ := hrel
  obtain ⟨W4, rfl⟩ : ∃ W4 : World, W4 = wr := ⟨_, rfl⟩
  have q4 := hb4.size
  have z20_4 := isRow_lt r20_4
  clear r20_3 c20_3 z20_3 hb3 hvA_3
  by_cases hlt4 : i < m
  ·
   obtain ⟨b, off, ea, hAC⟩ := hvA_4.at hlt4
   subst ea
   have hld := hAC.load hlt4
   have hc1 : i * 8 + 8 ≤ N * 8 := by omega
   go_wp2_with fail
   refine (toVector_any (g i) _).mono ?_; rintro _ W5 ⟨rfl, hw5⟩
   obtain ⟨r20_5, c20_5, z20_5⟩ := keepZ hw5 z20_4 r20_4 c20_4
   obtain ⟨hb5, q5⟩ := bN hb4 hw5
   have sz5 := hw5.size
   have hvA_5 := hvA_4.below hw5 (by omega)
   clear hw5 hvA_4 r20_4 c20_4 z20_4 hb4
   go_wp2
   go_roundw
   case rel => exact ⟨i + 1, by omega, by go_num, bt, ⟨by simp [go_sem, r20_5, c20_5], (by first | (rw [blk_setRow _ _ _ _ r20_5, if_pos rfl]; exact ext_lay (by omega) fun t ht => (ext_low hlt4 t).symm) | exact (c20_5).trans (ext_lay (by omega) fun t ht => (ext_low hlt4 t).symm) | (simp [go_sem, r20_5, c20_5]; exact ext_lay (by omega) fun t ht => (ext_low hlt4 t).symm))⟩, (by (repeat (first | exact hvA_5 | refine AL.alloc ?_ _ | refine AL.drew ?_ | refine AL.setRow ?_ (by omega) _))), bu⟩
   case measure => simp [intOf]; try omega
  ·
   obtain rfl : m = i := by omega
   go_wp2
   go_loopw [7] (fun s7 wr => ∃ i : Nat, m ≤ i ∧ i ≤ N ∧ s7 = .int .i64 i ∧ Below w.heap.size w wr ∧ (IsRow wr (W2.heap.size) ∧ blk wr (W2.heap.size) = row (N * 8) (extK m g i)) ∧ AL wr U a m c g ∧ ((0) ≤ (U) ∧ (U) ≤ wr.heap.size)) (fun s7 _ => N - (intOf s7).toNat)
   case atStart => exact ⟨m, by omega, by omega, rfl, hb4, ⟨r20_4, c20_4⟩, hvA_4, (by omega)⟩
   case round =>
    obtain ⟨i, hlo, hle6, rfl, hb6, ⟨r20_6, c20_6⟩, hvA_6, hUA_6⟩ := hrel
    obtain ⟨W6, rfl⟩ : ∃ W6 : World, W6 = wr := ⟨_, rfl⟩
    have q6 := hb6.size
    have z20_6 := isRow_lt r20_6
    clear r20_4 c20_4 z20_4 hb4 hvA_4
    by_cases hlt6 : i < N
    ·
     have hc1 : i * 8 + 8 ≤ N * 8 := by omega
     have hmr := mark_row
     go_wp2
     go_roundw
     case rel => exact ⟨i + 1, by omega, by omega, by go_num, bt, ⟨by simp [go_sem, r20_6, c20_6], (by first | (rw [blk_setRow _ _ _ _ r20_6, if_pos rfl]; exact ext_lay (by omega) fun t ht => (ext_high (by omega) t).symm) | exact (c20_6).trans (ext_lay (by omega) fun t ht => (ext_high (by omega) t).symm) | (simp [go_sem, r20_6, c20_6]; exact ext_lay (by omega) fun t ht => (ext_high (by omega) t).symm))⟩, (by (repeat (first | exact hvA_6 | refine AL.alloc ?_ _ | refine AL.drew ?_ | refine AL.setRow ?_ (by omega) _))), bu⟩
     case measure => simp [intOf]; try omega
    ·
     obtain rfl : N = i := by omega
     go_wp2_with fail
     go_ret
     exact ⟨_, rfl, bt, ext_list (by omega) z20_6 r20_6 c20_6 hN3 HGB.out⟩

set_option maxRecDepth 100000 in
set_option maxHeartbeats 1000000 in
theorem toVectorS_true (U : Nat) (a : Option Addr) (m c : Nat) (g : Nat → Nat → Int) (w : World) (hm : m ≤ 1000000) (hU : U ≤ w.heap.size) (hA : AL w U a m c g) (h0 : 0 < m) :
    Calls Try.prog 8 #[.slice a m c, .bool true] w fun e w' => ∃ b, e = .returned (.slice (some ⟨b, 0, none⟩) m (m + roomN m)) ∧ Below w.heap.size w w' ∧ VL w' w.heap.size w'.heap.size (some ⟨b, 0, none⟩) (m + roomN m) (m + roomN m) (extG m g) := by
 have hq := room_le m
 have q0 : IntKind.i64.wrap ((m : Int) + (roomN m : Int)) = ((m + roomN m : Nat) : Int) := by rw [IntWalk.i64_in _ (by omega)]; omega
 have hmk := make_vecs (m + roomN m) (by omega)
 have HGB : Hid (∀ i, i < m → Bytes 8 (g i)) := Lib.hid fun i hi => hA.bytes hi
 obtain ⟨N, hN⟩ : ∃ N, m + roomN m = N := ⟨_, rfl⟩
 rw [hN] at q0 hmk ⊢
 have hmN : m ≤ N := by omega
 have hN3 : N ≤ 3000000 := by omega
 have x0 : (((m : Nat) : Int) == 0) = false := by rw [beq_eq_false_iff_ne]; omega
 go_enter Try.func8, Try.ntmps8
 go_wp2_with fail
 refine atomC fun W1 e1 => ?_
 have hb1 : Below w.heap.size w W1 := by rw [e1]; exact bt
 have q1 := hb1.size
 have hvA_1 : AL W1 U a m c g := by rw [e1]; (repeat (first | exact hA | refine AL.alloc ?_ _ | refine AL.drew ?_ | refine AL.setRow ?_ (by omega) _))
 clear e1 hA
 refine (roomBehind_any m _ hm).mono ?_; rintro _ W2 ⟨rfl, hw2⟩
 obtain ⟨hb2, q2⟩ := bN hb1 hw2
 have sz2 := hw2.size
 have hvA_2 := hvA_1.below hw2 (by omega)
 clear hw2 hvA_1 hb1
 go_wp2
 refine atomW fun W3 e3 => ?_
 have hb3 : Below w.heap.size w W3 := by rw [e3]; exact bt
 have q3 := hb3.size
 have r20_3 : IsRow W3 (W2.heap.size) := by rw [e3]; simp [go_sem]
 have c20_3 := congrArg (fun x => blk x (W2.heap.size)) e3; simp [go_sem] at c20_3
 have z20_3 := isRow_lt r20_3
 have hvA_3 : AL W3 U a m c g := by rw [e3]; (repeat (first | exact hvA_2 | refine AL.alloc ?_ _ | refine AL.drew ?_ | refine AL.setRow ?_ (by omega) _))
 clear e3 hvA_2 hb2
 go_loopw [6] (fun s6 wr => ∃ i : Nat, i ≤ m ∧ s6 = .int .i64 i ∧ Below w.heap.size w wr ∧ (IsRow wr (W2.heap.size) ∧ blk wr (W2.heap.size) = row (N * 8) (extK m g i)) ∧ AL wr U a m c g ∧ ((0) ≤ (U) ∧ (U) ≤ wr.heap.size)) (fun s6 _ => m - (intOf s6).toNat)
 case atStart => exact ⟨0, by omega, rfl, hb3, ⟨r20_3, c20_3.trans (ext_zero (N * 8) m g)⟩, hvA_3, (by omega)⟩
 case round =>
  obtain ⟨i, hle4, rfl, hb4, ⟨r20_4, c20_4⟩, hvA_4, hUA_4⟩ := hrel
  obtain ⟨W4, rfl⟩ : ∃ W4 : World, W4 = wr := ⟨_, rfl⟩
  have q4 := hb4.size
  have z20_4 := isRow_lt r20_4
  clear r20_3 c20_3 z20_3 hb3 hvA_3
  by_cases hlt4 : i < m
  ·
   obtain ⟨b, off, ea, hAC⟩ := hvA_4.at hlt4
   subst ea
   have hld := hAC.load hlt4
   have hc1 : i * 8 + 8 ≤ N * 8 := by omega
   go_wp2_with fail
   refine (toVector_any (g i) _).mono ?_; rintro _ W5 ⟨rfl, hw5⟩
   obtain ⟨r20_5, c20_5, z20_5⟩ := keepZ hw5 z20_4 r20_4 c20_4
   obtain ⟨hb5, q5⟩ := bN hb4 hw5
   have sz5 := hw5.size
   have hvA_5 := hvA_4.below hw5 (by omega)
   clear hw5 hvA_4 r20_4 c20_4 z20_4 hb4
   go_wp2
   go_roundw
   case rel => exact ⟨i + 1, by omega, by go_num, bt, ⟨by simp [go_sem, r20_5, c20_5], (by first | (rw [blk_setRow _ _ _ _ r20_5, if_pos rfl]; exact ext_lay (by omega) fun t ht => (ext_low hlt4 t).symm) | exact (c20_5).trans (ext_lay (by omega) fun t ht => (ext_low hlt4 t).symm) | (simp [go_sem, r20_5, c20_5]; exact ext_lay (by omega) fun t ht => (ext_low hlt4 t).symm))⟩, (by (repeat (first | exact hvA_5 | refine AL.alloc ?_ _ | refine AL.drew ?_ | refine AL.setRow ?_ (by omega) _))), bu⟩
   case measure => simp [intOf]; try omega
  ·
   obtain rfl : m = i := by omega
   go_wp2
   go_loopw [7] (fun s7 wr => ∃ i : Nat, m ≤ i ∧ i ≤ N ∧ s7 = .int .i64 i ∧ Below w.heap.size w wr ∧ (IsRow wr (W2.heap.size) ∧ blk wr (W2.heap.size) = row (N * 8) (extK m g i)) ∧ AL wr U a m c g ∧ ((0) ≤ (U) ∧ (U) ≤ wr.heap.size)) (fun s7 _ => N - (intOf s7).toNat)
   case atStart => exact ⟨m, by omega, by omega, rfl, hb4, ⟨r20_4, c20_4⟩, hvA_4, (by omega)⟩
   case round =>
    obtain ⟨i, hlo, hle6, rfl, hb6, ⟨r20_6, c20_6⟩, hvA_6, hUA_6⟩ := hrel
    obtain ⟨W6, rfl⟩ : ∃ W6 : World, W6 = wr := ⟨_, rfl⟩
    have q6 := hb6.size
    have z20_6 := isRow_lt r20_6
    clear r20_4 c20_4 z20_4 hb4 hvA_4
    by_cases hlt6 : i < N
    ·
     have hc1 : i * 8 + 8 ≤ N * 8 := by omega
     have hmr := mark_row
     go_wp2
     go_roundw
     case rel => exact ⟨i + 1, by omega, by omega, by go_num, bt, ⟨by simp [go_sem, r20_6, c20_6], (by first | (rw [blk_setRow _ _ _ _ r20_6, if_pos rfl]; exact ext_lay (by omega) fun t ht => (ext_high (by omega) t).symm) | exact (c20_6).trans (ext_lay (by omega) fun t ht => (ext_high (by omega) t).symm) | (simp [go_sem, r20_6, c20_6]; exact ext_lay (by omega) fun t ht => (ext_high (by omega) t).symm))⟩, (by (repeat (first | exact hvA_6 | refine AL.alloc ?_ _ | refine AL.drew ?_ | refine AL.setRow ?_ (by omega) _))), bu⟩
     case measure => simp [intOf]; try omega
    ·
     obtain rfl : N = i := by omega
     go_wp2_with fail
     go_ret
     exact ⟨_, rfl, bt, ext_list (by omega) z20_6 r20_6 c20_6 hN3 HGB.out⟩

set_option maxRecDepth 100000 in
set_option maxHeartbeats 1000000 in
theorem szVectorS_yes (a : Option Addr) (m c : Nat) (w : World) (hm : m ≤ 1000000) :
    Calls Try.prog 6 #[.slice a m c, .int .i64 1000000] w fun e w' => e = .returned (.int .i64 (1000000 - m)) ∧ Below w.heap.size w w' := by
 have q0 : IntKind.i64.wrap (1000000 - (m : Int)) = 1000000 - (m : Int) := IntWalk.i64_in _ (by omega)
 have q1 : decide ((1000000 : Int) - (m : Int) < 0) = false := decide_eq_false (by omega)
 go_enter Try.func6, Try.ntmps6
 go_wp2_with fail
 go_ret
 exact ⟨rfl, bt⟩

set_option maxRecDepth 100000 in
set_option maxHeartbeats 1000000 in
theorem szVectorS_no (a : Option Addr) (m c : Nat) (w : World) (hm : ¬ m ≤ 1000000) (hc : m ≤ maxLen) :
    Calls Try.prog 6 #[.slice a m c, .int .i64 1000000] w fun e w' => e = .returned (.int .i64 (-1)) ∧ Below w.heap.size w w' := by
 unfold maxLen at hc
 have q0 : IntKind.i64.wrap (1000000 - (m : Int)) = 1000000 - (m : Int) := IntWalk.i64_in _ (by omega)
 have q1 : decide ((1000000 : Int) - (m : Int) < 0) = true := decide_eq_true (by omega)
 go_enter Try.func6, Try.ntmps6
 go_wp2_with fail
 go_ret
 exact ⟨rfl, bt⟩

set_option maxRecDepth 100000 in
set_option maxHeartbeats 1000000 in
theorem eqVectorS_some3 (g m c g' c' : Nat) (F F' : Nat → Int) (w : World) (hm : m ≤ 3000000) (hc : m ≤ c) (hr : IsRow w g) (hb : blk w g = row (c * 8) F) (hc' : m ≤ c') (hr' : IsRow w g') (hb' : blk w g' = row (c' * 8) F') (hE : ∀ t, t < m * 8 → F t = F' t) :
    Calls Try.prog 10 #[.slice (some ⟨g, 0, none⟩) m c, .slice (some ⟨g', 0, none⟩) m c'] w fun e w' => e = .returned (.bool true) ∧ Below w.heap.size w w' := by
 have HE := Lib.hid hE; clear hE
 have z1 := isRow_lt hr; have z2 := isRow_lt hr'
 go_enter Try.func10, Try.ntmps10
 go_wp2
 refine atomW fun W1 e1 => ?_
 have hb1 : Below w.heap.size w W1 := by rw [e1]; exact bt
 have q1 := hb1.size
 have R1 : IsRow W1 (g) ∧ IsRow W1 (g') := by rw [e1]; simp [go_sem, hr, hb, hr', hb']
 obtain ⟨ra_1, rb_1⟩ := R1
 have C1 := (⟨congrArg (blk · (g)) e1, congrArg (blk · (g')) e1⟩ : _ ∧ _); simp [go_sem, hr, hb, hr', hb'] at C1
 obtain ⟨ca_1, cb_1⟩ := C1
 have za_1 := isRow_lt ra_1; have zb_1 := isRow_lt rb_1
 clear e1 hr hb hr' hb'
 go_loopw [5] (fun s5 wr => ∃ i : Nat, i ≤ m ∧ s5 = .int .i64 i ∧ Below w.heap.size w wr ∧ (IsRow wr (g) ∧ blk wr (g) = blk W1 (g)) ∧ (IsRow wr (g') ∧ blk wr (g') = blk W1 (g'))) (fun s5 _ => m - (intOf s5).toNat)
 case atStart => exact ⟨0, by omega, rfl, hb1, ⟨ra_1, rfl⟩, ⟨rb_1, rfl⟩⟩
 case round =>
  obtain ⟨i, hle2, rfl, hb2, ⟨ra_2, ca_2⟩, ⟨rb_2, cb_2⟩⟩ := hrel
  obtain ⟨W2, rfl⟩ : ∃ W2 : World, W2 = wr := ⟨_, rfl⟩
  have q2 := hb2.size
  have Ea_2 := Lib.hid ca_1; replace ca_2 := ca_2.trans ca_1
  have za_2 := isRow_lt ra_2
  have Eb_2 := Lib.hid cb_1; replace cb_2 := cb_2.trans cb_1
  have zb_2 := isRow_lt rb_2
  clear ra_1 ca_1 za_1 rb_1 cb_1 zb_1 hb1
  by_cases hlt2 : i < m
  ·
   have l1 : i * 8 + 8 ≤ c * 8 := by omega
   have l2 : i * 8 + 8 ≤ c' * 8 := by omega
   have HV : Hid (row 8 (fun t => F (i * 8 + t)) = row 8 fun t => F' (i * 8 + t)) := Lib.hid (row_congr fun t ht => HE.out _ (by omega))
   go_wp2
   refine wp_quiet_all (Below W2.heap.size W2) (by kernel_rfl) (by kernel_rfl) (Below.refl _ _).drew ?_
   iterate 8 (refine q_plain rfl ?_; apply Exists.intro; refine ⟨fun W hW => ?_, ?_⟩; (focus (obtain ⟨xa, ya⟩ := keepB hW za_2 ra_2 ca_2; obtain ⟨xb, yb⟩ := keepB hW zb_2 rb_2 cb_2; go_simp; first | done | rfl)); simp only [Act.put, List.setIfInBounds_toArray, List.set_cons_zero, List.set_cons_succ])
   (refine q_plain rfl ?_; apply Exists.intro; refine ⟨fun W hW => ?_, ?_⟩; (focus (obtain ⟨xa, ya⟩ := keepB hW za_2 ra_2 ca_2; obtain ⟨xb, yb⟩ := keepB hW zb_2 rb_2 cb_2; go_simp; (go_at_call 21; exact (eqVector_eq HV.out _).mono fun e w2 ⟨he, hw2⟩ => ⟨he, hW.trans (hw2.mono hW.size)⟩))); simp only [Act.put, List.setIfInBounds_toArray, List.set_cons_zero, List.set_cons_succ])
   iterate 1 (refine q_plain rfl ?_; apply Exists.intro; refine ⟨fun W hW => ?_, ?_⟩; (focus (obtain ⟨xa, ya⟩ := keepB hW za_2 ra_2 ca_2; obtain ⟨xb, yb⟩ := keepB hW zb_2 rb_2 cb_2; go_simp; first | done | rfl)); simp only [Act.put, List.setIfInBounds_toArray, List.set_cons_zero, List.set_cons_succ])
   refine wpQuiet_nil ?_
   intro W3 hw3
   obtain ⟨ra_3, ca_3, za_3⟩ := keepZ hw3 za_2 ra_2 ca_2
   obtain ⟨rb_3, cb_3, zb_3⟩ := keepZ hw3 zb_2 rb_2 cb_2
   obtain ⟨hb3, q3⟩ := bN hb2 hw3
   clear hw3 ra_2 ca_2 za_2 rb_2 cb_2 zb_2 hb2
   go_wp2
   go_roundw
   case rel => exact ⟨i + 1, by omega, by go_num, bt, ⟨by simp [go_sem, ra_3, ca_3, rb_3, cb_3], (by rw [Ea_2.out]; first | exact ca_3 | (simp [go_sem, ra_3, ca_3, rb_3, cb_3]; done))⟩, ⟨by simp [go_sem, ra_3, ca_3, rb_3, cb_3], (by rw [Eb_2.out]; first | exact cb_3 | (simp [go_sem, ra_3, ca_3, rb_3, cb_3]; done))⟩⟩
   case measure => simp [intOf]; try omega
  ·
   obtain rfl : m = i := by omega
   go_wp2_with fail
   go_ret
   exact ⟨rfl, bt⟩

theorem eqVectorS_big {w : World} {B U B' U' : Nat} {a a' : Option Addr} {m c c' : Nat} {f : Nat → Nat → Int} (hm : m ≤ 3000000) (h : VL w B U a m c f) (h' : VL w B' U' a' m c' f) :
    Calls Try.prog 10 #[.slice a m c, .slice a' m c'] w fun e w' => e = .returned (.bool true) ∧ Below w.heap.size w w' := by
  rcases Nat.eq_zero_or_pos m with rfl | h0
  · exact eqVectorS_zero a a' c c' w
  · obtain ⟨g, F, rfl, _, _, hr, hc, _, hb, _, hF⟩ := h.some h0
    obtain ⟨g', F', rfl, _, _, hr', hc', _, hb', _, hF'⟩ := h'.some h0
    refine eqVectorS_some3 g m c g' c' F F' w hm hc hr hb hc' hr' hb' fun t ht => ?_
    have e1 := hF (t / 8) (by omega) (t % 8) (by omega)
    have e2 := hF' (t / 8) (by omega) (t % 8) (by omega)
    rw [show t / 8 * 8 + t % 8 = t by omega] at e1 e2
    rw [e1, e2]

set_option maxRecDepth 100000 in
set_option maxHeartbeats 1000000 in
theorem intactVectorS_any (b b2 m N B U B2 U2 : Nat) (g : Nat → Nat → Int) (w : World) (hm : m ≤ 1000000) (hN : m + roomN m = N) (hU : U ≤ w.heap.size) (hU2 : U2 ≤ w.heap.size) (hX : VL w B U (some ⟨b, 0, none⟩) N N (extG m g)) (hY : VL w B2 U2 (some ⟨b2, 0, none⟩) N N (extG m g)) :
    Calls Try.prog 11 #[.slice (some ⟨b, 0, none⟩) m N, .slice (some ⟨b2, 0, none⟩) m N] w fun e w' => e = .returned (.bool true) ∧ Below w.heap.size w w' := by
 have hq := room_le m
 have q0 : IntKind.i64.wrap ((m : Int) + (roomN m : Int)) = (N : Int) := by rw [IntWalk.i64_in _ (by omega)]; omega
 have hN3 : N ≤ 3000000 := by omega
 have hmN : m ≤ N := by omega
 go_enter Try.func11, Try.ntmps11
 go_wp2_with fail
 refine atomC fun W1 e1 => ?_
 have hb1 : Below w.heap.size w W1 := by rw [e1]; exact bt
 have q1 := hb1.size
 have hvX_1 : VL W1 (B) (U) (some ⟨b, 0, none⟩) (N) (N) (extG m g) := by rw [e1]; (repeat (first | exact hX | refine VL.alloc ?_ _ | refine VL.drew ?_ | refine VL.setRow ?_ (by omega) _))
 have hvY_1 : VL W1 (B2) (U2) (some ⟨b2, 0, none⟩) (N) (N) (extG m g) := by rw [e1]; (repeat (first | exact hY | refine VL.alloc ?_ _ | refine VL.drew ?_ | refine VL.setRow ?_ (by omega) _))
 clear e1 hX hY
 refine (roomBehind_any m _ hm).mono ?_; rintro _ W2 ⟨rfl, hw2⟩
 obtain ⟨hb2, q2⟩ := bN hb1 hw2
 have sz2 := hw2.size
 have hvX_2 := hvX_1.below hw2 (by omega)
 have hvY_2 := hvY_1.below hw2 (by omega)
 clear hw2 hvX_1 hvY_1 hb1
 go_wp2
 refine wp_quiet_all (Below W2.heap.size W2) (by kernel_rfl) (by kernel_rfl) (Below.refl _ _).drew ?_
 iterate 6 (refine q_plain rfl ?_; apply Exists.intro; refine ⟨fun W hW => ?_, ?_⟩; (focus (skip; go_simp; first | done | rfl)); simp only [Act.put, List.setIfInBounds_toArray, List.set_cons_zero, List.set_cons_succ])
 iterate 6 (refine q_want (by kernel_rfl) ?_; apply Exists.intro; refine ⟨fun W hW => ?_, ?_⟩; (focus (skip; go_simp; first | done | rfl)); simp only [Act.put, List.setIfInBounds_toArray, List.set_cons_zero, List.set_cons_succ])
 (refine q_want (by kernel_rfl) ?_; apply Exists.intro; refine ⟨fun W hW => ?_, ?_⟩; (focus (skip; go_simp; (go_at_call 10; exact (eqVectorS_big hN3 (hvX_2.below hW (by omega)) (hvY_2.below hW (by omega))).mono fun e w2 ⟨he, hw2⟩ => ⟨he, hW.trans (hw2.mono hW.size)⟩))); simp only [Act.put, List.setIfInBounds_toArray, List.set_cons_zero, List.set_cons_succ])
 iterate 2 (refine q_plain rfl ?_; apply Exists.intro; refine ⟨fun W hW => ?_, ?_⟩; (focus (skip; go_simp; first | done | rfl)); simp only [Act.put, List.setIfInBounds_toArray, List.set_cons_zero, List.set_cons_succ])
 refine wpQuiet_nil ?_
 intro W3 hw3
 obtain ⟨hb3, q3⟩ := bN hb2 hw3
 have sz3 := hw3.size
 have hvX_3 := hvX_2.below hw3 (by omega)
 have hvY_3 := hvY_2.below hw3 (by omega)
 clear hw3 hvX_2 hvY_2 hb2
 go_wp2_with fail
 go_ret
 exact ⟨rfl, bt⟩

set_option maxRecDepth 100000 in
set_option maxHeartbeats 1000000 in
theorem toVectorS_nil (a : Option Addr) (c : Nat) (w : World)  :
    Calls Try.prog 8 #[.slice a 0 c, .bool true] w fun e w' => e = .returned (.slice none 0 0) ∧ Below w.heap.size w w' := by
 go_enter Try.func8, Try.ntmps8
 go_wp2_with fail
 go_ret
 exact ⟨rfl, bt⟩

theorem toVectorS_bare (U : Nat) (a : Option Addr) (m c : Nat) (g : Nat → Nat → Int) (w : World) (hm : m ≤ 1000000) (hU : U ≤ w.heap.size) (hA : AL w U a m c g) :
    Calls Try.prog 8 #[.slice a m c, .bool true] w fun e w' => ∃ a c, e = .returned (.slice a m c) ∧ Below w.heap.size w w' ∧ VL w' w.heap.size w'.heap.size a m c g := by
  rcases Nat.eq_zero_or_pos m with rfl | h0
  · exact (toVectorS_nil a c w).mono fun e w' ⟨h1, h2⟩ => ⟨none, 0, h1, h2, VL.nil _ _ _ _⟩
  · exact (toVectorS_true U a m c g w hm hU hA h0).mono fun e w' ⟨b, h1, h2, h3⟩ => ⟨_, _, h1, h2, h3.cut (Nat.le_add_right _ _) fun i hi t _ => ext_low hi t⟩

end Go.Proofs.Ytjmmmggnbndolaa
