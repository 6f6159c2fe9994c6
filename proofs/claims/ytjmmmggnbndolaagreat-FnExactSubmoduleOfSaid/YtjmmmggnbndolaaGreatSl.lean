/- Slices that grow: append onto a slice whose block is known, as a law of the walk; lists of vectors, of bytes and of numbers in a block. -/
import Derived.Test.YtjmmmggnbndolaaGreatBase
import Derived.WalkKit
namespace Go.Proofs.YtjmmmggnbndolaaGreat
open Go.RowKit
set_option linter.unusedSimpArgs false
set_option linter.unusedVariables false

/-- the world becomes a letter at an operation -/
theorem atomL {P : Program} {ops : Array Oper} {Q : Exit → Act → World → Prop} {l : List Oper} {a : Act} {T : World} (h : ∀ W, W = T → wpList P ops Q l a W) : wpList P ops Q l a T := h T rfl

/-- what append leaves: the first cells of cur are kept, m k more come behind, and no other block has changed -/
structure Grown1 (w w' : World) (g n k m : Nat) (cur cur' src : Array Value) (so g' cap' : Nat) (z : Value) : Prop where
  by_ : w.grownBy w' (some g)
  new : g' = g ∨ w.heap.size ≤ g'
  row : IsRow w' g'
  blk : blk w' g' = cur'
  len : n + m ≤ cap'
  max : cap' ≤ maxLen
  size : cur'.size = cap' * k
  old : ∀ j, j < n * k → cur'[j]? = cur[j]?
  more : ∀ j, j < m * k → cur'[n * k + j]? = src[so + j]?
  all : ∀ p : Value → Prop, (∀ (j : Nat) (u : Value), cur[j]? = some u → p u) → (∀ (j : Nat) (u : Value), src[j]? = some u → p u) → (∀ u : Value, u ∈ z.cells.toList → p u) → ∀ (j : Nat) (u : Value), cur'[j]? = some u → p u

theorem mem_zeroCells {z u : Value} {n : Nat} (h : u ∈ Builtin.zeroCells z.cells n) : u ∈ z.cells.toList := by
  unfold Builtin.zeroCells at h
  rw [Array.mem_map] at h
  obtain ⟨i, hi, rfl⟩ := h
  have hi' : i < n * z.cells.size := by simpa using hi
  have hz : 0 < z.cells.size := by
    rcases Nat.eq_zero_or_pos z.cells.size with h0 | h0
    · rw [h0] at hi'; omega
    · exact h0
  have hm : i % z.cells.size < z.cells.size := Nat.mod_lt _ hz
  rw [getElem!_pos z.cells _ hm]
  exact Array.mem_toList_iff.2 (Array.getElem_mem hm)
section
variable {P : Program}
theorem run_append_blk (w : World) (t ty e : TypeId) (i : TypeInfo) (z : Value) (k bytes : Nat) (ht : P.underlying t = some (.slice e)) (hi : P.info? e = some i) (hz : i.zero = some z)
    (hs : i.size = k) (hby : i.bytes = bytes) (hzs : z.cells.size = k) (g n cap : Nat) (hr : IsRow w g) (hn : n ≤ cap) (hcm : cap ≤ maxLen) (hcs : (blk w g).size = cap * k)
    (sb so m c : Nat) (hsb : so + m * k ≤ (blk w sb).size) (h1 : ∀ j, j < m * k → ∀ u, (blk w sb)[so + j]? = some u → u.oneCell' = true) (h63 : n + m ≤ maxLen) (hbytes : (n + m) * bytes ≤ 140737488355328) :
    ∃ g' cap' cur' w', (Builtin.append_ #[t, t] ty #[.slice (some ⟨g, 0, none⟩) n cap, .slice (some ⟨sb, so, none⟩) m c]).run P w = .ok (.slice (some ⟨g', 0, none⟩) (n + m) cap') w' ∧ Grown1 w w' g n k m (blk w g) cur' (blk w sb) so g' cap' z := by
  subst hs
  subst hby
  have hsmall : n + m ≤ 9223372036854775807 := by simp only [maxLen] at h63; omega
  obtain ⟨t0, hg⟩ := isRow_heap hr
  obtain ⟨news, hnews⟩ : ∃ l : List Value, l = ((blk w sb).extract so (so + m * i.size)).toList := ⟨_, rfl⟩
  have hl : news.length = m * i.size := by rw [hnews, Array.length_toList, Array.size_extract]; omega
  have hget : ∀ j, j < m * i.size → news[j]? = (blk w sb)[so + j]? := fun j hj => by
    rw [hnews, Array.getElem?_toList, Array.getElem?_extract, if_pos (by omega)]
  have hcell : ∀ j u, news[j]? = some u → w.cell? ((⟨sb, so, none⟩ : Addr).add j) = some u := fun j u hu => by
    have hj : j < m * i.size := by
      rw [← hl]; exact (List.getElem?_eq_some_iff.1 hu).1
    rw [Addr.add_lit, cell_blk, ← hget j hj]; exact hu
  have hone : ∀ u ∈ news, u.oneCell' = true := fun u hu => by
    obtain ⟨j, hj, rfl⟩ := List.mem_iff_getElem.1 hu
    refine h1 j (by omega) _ ?_
    rw [← hget j (by omega)]
    exact List.getElem?_eq_getElem hj
  by_cases hroom : n + m ≤ cap
  · have hfit : n * i.size + news.length ≤ (blk w g).size := by rw [hl, hcs, ← Nat.add_mul]; exact Nat.mul_le_mul_right _ hroom
    have hf := run_firstCells_some (P := P) w i.size m ⟨sb, so, none⟩ m c news hl hcell
    have hst := run_storeCells_at P g (n * i.size) t0 news 0 (blk w g) w hg (by simpa using hfit) hone
    simp only [Nat.add_zero] at hst
    have hnc : n * i.size ≤ (blk w g).size := by omega
    refine ⟨g, cap, ((blk w g).toList.take (n * i.size) ++ news ++ (blk w g).toList.drop (n * i.size + news.length)).toArray, w.setRow g ((blk w g).toList.take (n * i.size) ++ news ++ (blk w g).toList.drop (n * i.size + news.length)).toArray, ?_, ?_⟩
    · simp [Builtin.append_, run_underlying ht, sizeOf, typeInfo, hi, Builtin.lenOf, hroom, hf, Addr.add_lit, hst]
    · refine ⟨⟨rfl, rfl, rfl, by simp, fun x _ hx => setRow_other w g x _ (fun e => hx (by rw [e]))⟩, .inl rfl, by simp [isRow_setRow, hr], ?_, hroom, hcm, ?_, fun j hj => ?_, fun j hj => ?_, ?_⟩
      · rw [blk_setRow _ _ _ _ hr, if_pos rfl]
      · simp only [List.size_toArray, List.length_append, List.length_take, List.length_drop, Array.length_toList]
        omega
      · rw [List.getElem?_toArray, List.append_assoc, List.getElem?_append_left (by simp; omega), List.getElem?_take, if_pos hj, Array.getElem?_toList]
      · rw [List.getElem?_toArray, List.append_assoc, List.getElem?_append_right (by simp; omega), List.getElem?_append_left (by simp; omega)]
        simp only [List.length_take, Array.length_toList]
        rw [show n * i.size + j - min (n * i.size) (blk w g).size = j by omega]
        exact hget j hj
      · intro p hp1 hp2 _ j u hu
        rw [List.getElem?_toArray] at hu
        have hu := List.mem_of_getElem? hu
        rw [List.mem_append, List.mem_append] at hu
        rcases hu with (hu | hu) | hu
        · obtain ⟨j, hj⟩ := List.mem_iff_getElem?.1 (List.mem_of_mem_take hu)
          exact hp1 j u (by rw [← Array.getElem?_toList]; exact hj)
        · obtain ⟨j, hj⟩ := List.mem_iff_getElem?.1 hu
          rw [hget j (by rw [← hl]; exact (List.getElem?_eq_some_iff.1 hj).1)] at hj
          exact hp2 _ u hj
        · obtain ⟨j, hj⟩ := List.mem_iff_getElem?.1 (List.mem_of_mem_drop hu)
          exact hp1 j u (by rw [← Array.getElem?_toList]; exact hj)
  · obtain ⟨olds, holds⟩ : ∃ l : List Value, l = ((blk w g).extract 0 (n * i.size)).toList := ⟨_, rfl⟩
    have hnk : n * i.size ≤ cap * i.size := Nat.mul_le_mul_right _ hn
    have hlo : olds.length = n * i.size := by rw [holds, Array.length_toList, Array.size_extract]; omega
    have hgo : ∀ j, j < n * i.size → olds[j]? = (blk w g)[j]? := fun j hj => by
      rw [holds, Array.getElem?_toList, Array.getElem?_extract, if_pos (by omega), Nat.zero_add]
    have hco : ∀ j u, olds[j]? = some u → w.cell? ((⟨g, 0, none⟩ : Addr).add j) = some u := fun j u hu => by
      have hj : j < n * i.size := by
        rw [← hlo]; exact (List.getElem?_eq_some_iff.1 hu).1
      rw [Addr.add_lit, cell_blk, Nat.zero_add, ← hgo j hj]; exact hu
    have hrun := run_append_grow (P := P) w t ty e i z ht hi hz ⟨g, 0, none⟩ n cap olds hlo hco ⟨sb, so, none⟩ m c news hl hcell (by omega) (by omega) (growslice_fits (by omega) hbytes)
    have hge := grownCap_ge w (n + m) cap e
    refine ⟨_, _, _, _, hrun, ⟨⟨rfl, rfl, rfl, by simp, fun x hx _ => Below.heap_alloc w.drew _ x hx⟩, .inr (Nat.le_refl _), ?_, blk_new w.drew _ _, hge, grownCap_le_maxLen w (n + m) cap e h63, ?_, fun j hj => ?_, fun j hj => ?_, ?_⟩⟩
    · exact ⟨_, _, heap_alloc_last _ _⟩
    · simp only [Array.size_append, List.size_toArray, size_zeroCells, hzs, hlo, hl, ← Nat.add_mul]
      congr 1
      omega
    · rw [Array.getElem?_append_left (by simp [hlo]; omega), Array.getElem?_append_left (by simp [hlo]; omega), List.getElem?_toArray]
      exact hgo j hj
    · rw [Array.getElem?_append_left (by simp [hlo, hl]; omega), Array.getElem?_append_right (by simp [hlo])]
      simp only [List.size_toArray, hlo]
      rw [show n * i.size + j - n * i.size = j by omega, List.getElem?_toArray]
      exact hget j hj
    · intro p hp1 hp2 hp3 j u hu
      have hu := Array.mem_of_getElem? hu
      rw [Array.mem_append, Array.mem_append] at hu
      rcases hu with (hu | hu) | hu
      · obtain ⟨j, hj⟩ := List.mem_iff_getElem?.1 (List.mem_toArray.1 hu)
        rw [hgo j (by rw [← hlo]; exact (List.getElem?_eq_some_iff.1 hj).1)] at hj
        exact hp1 _ u hj
      · obtain ⟨j, hj⟩ := List.mem_iff_getElem?.1 (List.mem_toArray.1 hu)
        rw [hget j (by rw [← hl]; exact (List.getElem?_eq_some_iff.1 hj).1)] at hj
        exact hp2 _ u hj
      · exact hp3 u (mem_zeroCells hu)

/-- append onto a slice in block g, in a walk -/
theorem wpList_grow (w : World) {ops : Array Oper} {rest : List Oper} {o : Oper} {a : Act} {Q : Exit → Act → World → Prop} (hgd : o.guard = none) (s x : Operand) (t : TypeId)
    (ho : o.op = .call { callee := .builtin .append, args := #[s, x], argTypes := #[t, t] })
    (e : TypeId) (i : TypeInfo) (z : Value) (k bytes : Nat) (ht : P.underlying t = some (.slice e)) (hi : P.info? e = some i) (hz : i.zero = some z)
    (hs : i.size = k) (hby : i.bytes = bytes) (hzs : z.cells.size = k) (g n cap : Nat) (hv : a.eval s = .slice (some ⟨g, 0, none⟩) n cap) (hr : IsRow w g) (hn : n ≤ cap) (hcm : cap ≤ maxLen) (hcs : (blk w g).size = cap * k)
    (sb so m c : Nat) (hx : a.eval x = .slice (some ⟨sb, so, none⟩) m c) (hsb : so + m * k ≤ (blk w sb).size) (h1 : ∀ j, j < m * k → ∀ u, (blk w sb)[so + j]? = some u → u.oneCell' = true) (h63 : n + m ≤ maxLen) (hbytes : (n + m) * bytes ≤ 140737488355328)
    (h : ∀ g' cap' cur' w', Grown1 w w' g n k m (blk w g) cur' (blk w sb) so g' cap' z → wpList P ops Q rest (a.put o.dst (.slice (some ⟨g', 0, none⟩) (n + m) cap')) w') : wpList P ops Q (o :: rest) a w :=
  wpList_plain hgd fun _ hK => by
    obtain ⟨g', cap', cur', w', hrun, hG⟩ := run_append_blk (P := P) w t o.type e i z k bytes ht hi hz hs hby hzs g n cap hr hn hcm hcs sb so m c hsb h1 h63 hbytes
    unfold Oper.wp execOp
    simp only [ho, resolve, invoke, builtin, Sem.run_bind, Sem.run_pure, Result.andThen_ok, List.map_toArray, List.map_cons, List.map_nil, hv, hx, hrun]
    exact hK _ _ (h g' cap' cur' w' hG)

/-- what the first append onto a nil slice leaves -/
structure Born1 (w w' : World) (k m : Nat) (cur' src : Array Value) (so g' cap' : Nat) (z : Value) : Prop where
  by_ : w.grownBy w' none
  new : w.heap.size ≤ g'
  row : IsRow w' g'
  blk : blk w' g' = cur'
  len : m ≤ cap'
  max : cap' ≤ maxLen
  size : cur'.size = cap' * k
  more : ∀ j, j < m * k → cur'[j]? = src[so + j]?
  all : ∀ p : Value → Prop, (∀ (j : Nat) (u : Value), src[j]? = some u → p u) → (∀ u : Value, u ∈ z.cells.toList → p u) → ∀ (j : Nat) (u : Value), cur'[j]? = some u → p u
theorem run_append_first (w : World) (t ty e : TypeId) (i : TypeInfo) (z : Value) (k bytes : Nat) (ht : P.underlying t = some (.slice e)) (hi : P.info? e = some i) (hz : i.zero = some z)
    (hs : i.size = k) (hby : i.bytes = bytes) (hzs : z.cells.size = k) (sb so m c : Nat) (hsb : so + m * k ≤ (blk w sb).size) (h0 : 0 < m) (h63 : m ≤ maxLen) (hbytes : m * bytes ≤ 140737488355328) :
    ∃ g' cap' cur' w', (Builtin.append_ #[t, t] ty #[.slice none 0 0, .slice (some ⟨sb, so, none⟩) m c]).run P w = .ok (.slice (some ⟨g', 0, none⟩) m cap') w' ∧ Born1 w w' k m cur' (blk w sb) so g' cap' z := by
  subst hs
  subst hby
  have hsmall : m ≤ 9223372036854775807 := by simp only [maxLen] at h63; omega
  obtain ⟨news, hnews⟩ : ∃ l : List Value, l = ((blk w sb).extract so (so + m * i.size)).toList := ⟨_, rfl⟩
  have hl : news.length = m * i.size := by rw [hnews, Array.length_toList, Array.size_extract]; omega
  have hget : ∀ j, j < m * i.size → news[j]? = (blk w sb)[so + j]? := fun j hj => by
    rw [hnews, Array.getElem?_toList, Array.getElem?_extract, if_pos (by omega)]
  have hcell : ∀ j u, news[j]? = some u → w.cell? ((⟨sb, so, none⟩ : Addr).add j) = some u := fun j u hu => by
    have hj : j < m * i.size := by
      rw [← hl]; exact (List.getElem?_eq_some_iff.1 hu).1
    rw [Addr.add_lit, cell_blk, ← hget j hj]; exact hu
  have hrun := run_append_nil (P := P) w t ty e i z ht hi hz ⟨sb, so, none⟩ m c news hl hcell h0 (by omega) (by omega)
  have hge := grownCap_ge w m 0 e
  refine ⟨_, _, _, _, hrun, ⟨⟨rfl, rfl, rfl, by simp, fun x hx _ => Below.heap_alloc w.drew _ x hx⟩, Nat.le_refl _, ?_, blk_new w.drew _ _, hge, grownCap_le_maxLen w m 0 e h63, ?_, fun j hj => ?_, ?_⟩⟩
  · exact ⟨_, _, heap_alloc_last _ _⟩
  · simp only [Array.size_append, List.size_toArray, size_zeroCells, hzs, hl, ← Nat.add_mul]
    congr 1
    omega
  · rw [Array.getElem?_append_left (by simp [hl]; omega), List.getElem?_toArray]
    exact hget j hj
  · intro p hp2 hp3 j u hu
    have hu := Array.mem_of_getElem? hu
    rw [Array.mem_append] at hu
    rcases hu with hu | hu
    · obtain ⟨j, hj⟩ := List.mem_iff_getElem?.1 (List.mem_toArray.1 hu)
      rw [hget j (by rw [← hl]; exact (List.getElem?_eq_some_iff.1 hj).1)] at hj
      exact hp2 _ u hj
    · exact hp3 u (mem_zeroCells hu)
theorem wpList_born (w : World) {ops : Array Oper} {rest : List Oper} {o : Oper} {a : Act} {Q : Exit → Act → World → Prop} (hgd : o.guard = none) (s x : Operand) (t : TypeId)
    (ho : o.op = .call { callee := .builtin .append, args := #[s, x], argTypes := #[t, t] })
    (e : TypeId) (i : TypeInfo) (z : Value) (k bytes : Nat) (ht : P.underlying t = some (.slice e)) (hi : P.info? e = some i) (hz : i.zero = some z)
    (hs : i.size = k) (hby : i.bytes = bytes) (hzs : z.cells.size = k) (hv : a.eval s = .slice none 0 0)
    (sb so m c : Nat) (hx : a.eval x = .slice (some ⟨sb, so, none⟩) m c) (hsb : so + m * k ≤ (blk w sb).size) (h0 : 0 < m) (h63 : m ≤ maxLen) (hbytes : m * bytes ≤ 140737488355328)
    (h : ∀ g' cap' cur' w', Born1 w w' k m cur' (blk w sb) so g' cap' z → wpList P ops Q rest (a.put o.dst (.slice (some ⟨g', 0, none⟩) m cap')) w') : wpList P ops Q (o :: rest) a w :=
  wpList_plain hgd fun _ hK => by
    obtain ⟨g', cap', cur', w', hrun, hG⟩ := run_append_first (P := P) w t o.type e i z k bytes ht hi hz hs hby hzs sb so m c hsb h0 h63 hbytes
    unfold Oper.wp execOp
    simp only [ho, resolve, invoke, builtin, Sem.run_bind, Sem.run_pure, Result.andThen_ok, List.map_toArray, List.map_cons, List.map_nil, hv, hx, hrun]
    exact hK _ _ (h g' cap' cur' w' hG)
end

/-! ### other blocks are kept -/
theorem keepG {w w' : World} {row : Option Nat} {b : Nat} {c : Array Value} (h : w.grownBy w' row) (hne : some b ≠ row) (hr : IsRow w b) (hc : blk w b = c) : IsRow w' b ∧ blk w' b = c := by
  have e := h.block b (isRow_lt hr) hne
  constructor
  · unfold IsRow; rw [e]; exact hr
  · unfold blk at hc ⊢; rw [e]; exact hc
theorem ne_some {a b : Nat} (h : a ≠ b) : some a ≠ some b := fun e => h (by simpa using e)
theorem below_grown {B : Nat} {a w w' : World} {g : Nat} (h : Below B a w) (hg : w.grownBy w' (some g)) (hB : B ≤ w.heap.size) (hb : B ≤ g) : Below B a w' :=
  h.grown hg hB fun k e => by cases e; exact hb
theorem below_born {B : Nat} {a w w' : World} (h : Below B a w) (hg : w.grownBy w' none) (hB : B ≤ w.heap.size) : Below B a w' :=
  h.grown hg hB fun k e => by cases e

/-! ### blocks whose cells are of one make -/
def vals (n : Nat) (c : Nat → Value) : Array Value := Array.ofFn (n := n) fun i => c i
theorem vals_size (n : Nat) (c : Nat → Value) : (vals n c).size = n := by simp [vals]
theorem vals_get? (n : Nat) (c : Nat → Value) (i : Nat) (h : i < n) : (vals n c)[i]? = some (c i) := by simp [vals, h]
theorem vals_none (n : Nat) (c : Nat → Value) (i : Nat) (h : n ≤ i) : (vals n c)[i]? = none := by simp [vals]; omega
theorem vals_congr {n : Nat} {c d : Nat → Value} (h : ∀ i, i < n → c i = d i) : vals n c = vals n d := by
  apply Array.ext_getElem?
  intro i
  by_cases hi : i < n
  · rw [vals_get? n c i hi, vals_get? n d i hi, h i hi]
  · rw [vals_none n c i (by omega), vals_none n d i (by omega)]
def updV (c : Nat → Value) (i : Nat) (v : Value) : Nat → Value := fun j => if j = i then v else c j
theorem vals_set (n : Nat) (c : Nat → Value) (i : Nat) (v : Value) : (vals n c).setIfInBounds i v = vals n (updV c i v) := by
  apply Array.ext_getElem?
  intro j
  rw [Array.getElem?_setIfInBounds]
  by_cases e : i = j
  · subst e
    by_cases hj : i < n
    · rw [vals_get? n (updV c i v) i hj, if_pos rfl, if_pos (by rw [vals_size]; exact hj)]; simp [updV]
    · rw [vals_none n (updV c i v) i (by omega), if_pos rfl, if_neg (by rw [vals_size]; exact hj)]
  · by_cases hj : j < n
    · rw [if_neg e, vals_get? n c j hj, vals_get? n _ j hj]; simp [updV, Ne.symm e]
    · rw [if_neg e, vals_none n c j (by omega), vals_none n _ j (by omega)]
theorem of_vals {n : Nat} {c : Nat → Value} {j : Nat} {u : Value} (h : (vals n c)[j]? = some u) : j < n ∧ u = c j := by
  by_cases hj : j < n
  · rw [vals_get? n c j hj] at h; exact ⟨hj, by simpa using h.symm⟩
  · rw [vals_none n c j (by omega)] at h; cases h
theorem of_row {n : Nat} {f : Nat → Int} {j : Nat} {u : Value} (h : (row n f)[j]? = some u) : j < n ∧ u = .int .u8 (f j) := of_vals (c := fun i => .int .u8 (f i)) h
theorem row_vals (n : Nat) (f : Nat → Int) : row n f = vals n fun i => .int .u8 (f i) := rfl
section
variable {α : Type} {mk : α → Value} {q : α → Prop}
theorem vals_of {cur : Array Value} (x0 : α) (h : ∀ (j : Nat) (u : Value), cur[j]? = some u → ∃ x, q x ∧ u = mk x) : ∃ R : Nat → α, ∀ j, j < cur.size → q (R j) ∧ cur[j]? = some (mk (R j)) := by
  have h' : ∀ j, ∃ x : α, j < cur.size → q x ∧ cur[j]? = some (mk x) := fun j => by
    by_cases hj : j < cur.size
    · obtain ⟨x, h1, h2⟩ := h j cur[j] (Array.getElem?_eq_getElem hj)
      exact ⟨x, fun _ => ⟨h1, by rw [Array.getElem?_eq_getElem hj, h2]⟩⟩
    · exact ⟨x0, fun hh => absurd hh hj⟩
  exact ⟨fun j => (h' j).choose, fun j => (h' j).choose_spec⟩
theorem grown_fam {w w' : World} {g n k m g' cap' so M M' : Nat} {cur' : Array Value} {z : Value} {F G : Nat → α} (h : Grown1 w w' g n k m (vals M fun i => mk (F i)) cur' (vals M' fun i => mk (G i)) so g' cap' z)
    (hF : ∀ i, i < M → q (F i)) (hG : ∀ i, i < M' → q (G i)) (hz : ∀ u ∈ z.cells.toList, ∃ x, q x ∧ u = mk x) (hM : n * k ≤ M) (hM' : so + m * k ≤ M') :
    ∃ F' : Nat → α, cur' = (vals (cap' * k) fun i => mk (F' i)) ∧ (∀ i, i < cap' * k → q (F' i)) ∧ (∀ t, t < n * k → F' t = F t) ∧ (∀ t, t < m * k → F' (n * k + t) = G (so + t)) := by
  obtain ⟨R, hR⟩ := vals_of (F 0) (h.all (fun u => ∃ x, q x ∧ u = mk x) (fun j u hu => ⟨F j, hF j (of_vals hu).1, (of_vals hu).2⟩) (fun j u hu => ⟨G j, hG j (of_vals hu).1, (of_vals hu).2⟩) hz)
  have hs := h.size
  have hl : (n + m) * k ≤ cap' * k := Nat.mul_le_mul_right _ h.len
  rw [Nat.add_mul] at hl
  refine ⟨fun t => if t < n * k then F t else if t < n * k + m * k then G (so + (t - n * k)) else R t, ?_, fun i hi => ?_, fun t ht => if_pos ht, fun t ht => ?_⟩
  · apply Array.ext_getElem?
    intro j
    by_cases hj : j < cap' * k
    · rw [vals_get? _ _ _ hj]
      dsimp only
      by_cases h1 : j < n * k
      · rw [if_pos h1, h.old j h1, vals_get? _ _ _ (by omega)]
      · rw [if_neg h1]
        by_cases h2 : j < n * k + m * k
        · rw [if_pos h2, ← vals_get? M' (fun i => mk (G i)) _ (by omega), ← h.more (j - n * k) (by omega), show n * k + (j - n * k) = j by omega]
        · rw [if_neg h2]; exact (hR j (by omega)).2
    · rw [vals_none _ _ _ (by omega), Array.getElem?_eq_none (by omega)]
  · show q (if i < n * k then F i else if i < n * k + m * k then G (so + (i - n * k)) else R i)
    split
    · exact hF i (by omega)
    · split
      · exact hG _ (by omega)
      · exact (hR i (by omega)).1
  · show (if n * k + t < n * k then F (n * k + t) else if n * k + t < n * k + m * k then G (so + (n * k + t - n * k)) else R (n * k + t)) = G (so + t)
    rw [if_neg (by omega), if_pos (by omega), Nat.add_sub_cancel_left]
theorem born_fam {w w' : World} {k m g' cap' so M' : Nat} {cur' : Array Value} {z : Value} {G : Nat → α} (h : Born1 w w' k m cur' (vals M' fun i => mk (G i)) so g' cap' z)
    (hG : ∀ i, i < M' → q (G i)) (hz : ∀ u ∈ z.cells.toList, ∃ x, q x ∧ u = mk x) (hM' : so + m * k ≤ M') :
    ∃ F' : Nat → α, cur' = (vals (cap' * k) fun i => mk (F' i)) ∧ (∀ i, i < cap' * k → q (F' i)) ∧ (∀ t, t < m * k → F' t = G (so + t)) := by
  obtain ⟨R, hR⟩ := vals_of (G 0) (h.all (fun u => ∃ x, q x ∧ u = mk x) (fun j u hu => ⟨G j, hG j (of_vals hu).1, (of_vals hu).2⟩) hz)
  have hs := h.size
  have hl : m * k ≤ cap' * k := Nat.mul_le_mul_right _ h.len
  refine ⟨fun t => if t < m * k then G (so + t) else R t, ?_, fun i hi => ?_, fun t ht => if_pos ht⟩
  · apply Array.ext_getElem?
    intro j
    by_cases hj : j < cap' * k
    · rw [vals_get? _ _ _ hj]
      dsimp only
      by_cases h1 : j < m * k
      · rw [if_pos h1, h.more j h1, vals_get? _ _ _ (by omega)]
      · rw [if_neg h1]; exact (hR j (by omega)).2
    · rw [vals_none _ _ _ (by omega), Array.getElem?_eq_none (by omega)]
  · show q (if i < m * k then G (so + i) else R i)
    split
    · exact hG _ (by omega)
    · exact (hR i (by omega)).1
end

/-! ### the laws of the walk for bytes (k of them an element) and for cells of one value -/
section
variable {P : Program}
/-- what an append onto a row of bytes leaves -/
structure GrownB (w w' : World) (g n k m M : Nat) (F : Nat → Int) (so : Nat) (G : Nat → Int) (g' cap' : Nat) (F' : Nat → Int) : Prop where
  by_ : w.grownBy w' (some g)
  new : g' = g ∨ w.heap.size ≤ g'
  row : IsRow w' g'
  blk : blk w' g' = Go.Proofs.YtjmmmggnbndolaaGreat.row (cap' * k) F'
  len : n + m ≤ cap'
  max : cap' ≤ maxLen
  bytes : (∀ i, i < cap' * k → 0 ≤ F' i ∧ F' i ≤ 255)
  old : ∀ t, t < n * k → F' t = F t
  more : ∀ t, t < m * k → F' (n * k + t) = G (so + t)
theorem wpList_growB (w : World) {ops : Array Oper} {rest : List Oper} {o : Oper} {a : Act} {Q : Exit → Act → World → Prop} (hgd : o.guard = none) (s x : Operand) (t : TypeId)
    (ho : o.op = .call { callee := .builtin .append, args := #[s, x], argTypes := #[t, t] })
    (e : TypeId) (i : TypeInfo) (z : Value) (k bytes : Nat) (ht : P.underlying t = some (.slice e)) (hi : P.info? e = some i) (hz : i.zero = some z)
    (hs : i.size = k) (hby : i.bytes = bytes) (hzs : z.cells = Go.Proofs.YtjmmmggnbndolaaGreat.row k zf) (g n cap : Nat) (F : Nat → Int) (hv : a.eval s = .slice (some ⟨g, 0, none⟩) n cap) (hr : IsRow w g) (hn : n ≤ cap) (hcm : cap ≤ maxLen) (hc : blk w g = Go.Proofs.YtjmmmggnbndolaaGreat.row (cap * k) F) (hF : (∀ i, i < cap * k → 0 ≤ F i ∧ F i ≤ 255))
    (sb so m c M' : Nat) (G : Nat → Int) (hx : a.eval x = .slice (some ⟨sb, so, none⟩) m c) (hsc : blk w sb = Go.Proofs.YtjmmmggnbndolaaGreat.row M' G) (hsb : so + m * k ≤ M') (hG : (∀ i, i < M' → 0 ≤ G i ∧ G i ≤ 255)) (h63 : n + m ≤ maxLen) (hbytes : (n + m) * bytes ≤ 140737488355328)
    (h : ∀ g' cap' F' w', GrownB w w' g n k m (cap * k) F so G g' cap' F' → wpList P ops Q rest (a.put o.dst (.slice (some ⟨g', 0, none⟩) (n + m) cap')) w') : wpList P ops Q (o :: rest) a w := by
  have hk : n * k ≤ cap * k := Nat.mul_le_mul_right _ hn
  refine wpList_grow w hgd s x t ho e i z k bytes ht hi hz hs hby (by rw [hzs, row_size]) g n cap hv hr hn hcm (by rw [hc, row_size]) sb so m c hx (by rw [hsc, row_size]; exact hsb) (fun j hj u hu => ?_) h63 hbytes fun g' cap' cur' w' hG1 => ?_
  · rw [hsc] at hu
    rw [(of_row hu).2]; rfl
  · rw [hc, hsc] at hG1
    obtain ⟨F', e1, e2, e3, e4⟩ := grown_fam (mk := Value.int .u8) (q := fun x => 0 ≤ x ∧ x ≤ 255) hG1 hF hG (fun u hu => by
      rw [hzs] at hu
      obtain ⟨j, hj⟩ := List.mem_iff_getElem?.1 hu
      rw [Array.getElem?_toList] at hj
      exact ⟨0, by omega, (of_row hj).2⟩) hk hsb
    exact h g' cap' F' w' ⟨hG1.by_, hG1.new, hG1.row, hG1.blk.trans e1, hG1.len, hG1.max, e2, e3, e4⟩
/-- what the first append onto a nil slice of bytes leaves -/
structure BornB (w w' : World) (k m so : Nat) (G : Nat → Int) (g' cap' : Nat) (F' : Nat → Int) : Prop where
  by_ : w.grownBy w' none
  new : w.heap.size ≤ g'
  row : IsRow w' g'
  blk : blk w' g' = Go.Proofs.YtjmmmggnbndolaaGreat.row (cap' * k) F'
  len : m ≤ cap'
  max : cap' ≤ maxLen
  bytes : (∀ i, i < cap' * k → 0 ≤ F' i ∧ F' i ≤ 255)
  more : ∀ t, t < m * k → F' t = G (so + t)
theorem wpList_bornB (w : World) {ops : Array Oper} {rest : List Oper} {o : Oper} {a : Act} {Q : Exit → Act → World → Prop} (hgd : o.guard = none) (s x : Operand) (t : TypeId)
    (ho : o.op = .call { callee := .builtin .append, args := #[s, x], argTypes := #[t, t] })
    (e : TypeId) (i : TypeInfo) (z : Value) (k bytes : Nat) (ht : P.underlying t = some (.slice e)) (hi : P.info? e = some i) (hz : i.zero = some z)
    (hs : i.size = k) (hby : i.bytes = bytes) (hzs : z.cells = Go.Proofs.YtjmmmggnbndolaaGreat.row k zf) (hv : a.eval s = .slice none 0 0)
    (sb so m c M' : Nat) (G : Nat → Int) (hx : a.eval x = .slice (some ⟨sb, so, none⟩) m c) (hsc : blk w sb = Go.Proofs.YtjmmmggnbndolaaGreat.row M' G) (hsb : so + m * k ≤ M') (hG : (∀ i, i < M' → 0 ≤ G i ∧ G i ≤ 255)) (h0 : 0 < m) (h63 : m ≤ maxLen) (hbytes : m * bytes ≤ 140737488355328)
    (h : ∀ g' cap' F' w', BornB w w' k m so G g' cap' F' → wpList P ops Q rest (a.put o.dst (.slice (some ⟨g', 0, none⟩) m cap')) w') : wpList P ops Q (o :: rest) a w := by
  refine wpList_born w hgd s x t ho e i z k bytes ht hi hz hs hby (by rw [hzs, row_size]) hv sb so m c hx (by rw [hsc, row_size]; exact hsb) h0 h63 hbytes fun g' cap' cur' w' hG1 => ?_
  rw [hsc] at hG1
  obtain ⟨F', e1, e2, e4⟩ := born_fam (mk := Value.int .u8) (q := fun x => 0 ≤ x ∧ x ≤ 255) hG1 hG (fun u hu => by
    rw [hzs] at hu
    obtain ⟨j, hj⟩ := List.mem_iff_getElem?.1 hu
    rw [Array.getElem?_toList] at hj
    exact ⟨0, by omega, (of_row hj).2⟩) hsb
  exact h g' cap' F' w' ⟨hG1.by_, hG1.new, hG1.row, hG1.blk.trans e1, hG1.len, hG1.max, e2, e4⟩
end
end Go.Proofs.YtjmmmggnbndolaaGreat
