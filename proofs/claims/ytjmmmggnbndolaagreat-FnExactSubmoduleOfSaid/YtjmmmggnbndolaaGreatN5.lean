/- What the elements of a Hopf algebra spread a list of vectors of a module to. -/
import Derived.Test.YtjmmmggnbndolaaGreatN3
import Derived.Test.YtjmmmggnbndolaaGreatMW
import Derived.Test.YtjmmmggnbndolaaGreatReg
namespace Go.Proofs.YtjmmmggnbndolaaGreat
open Go.RowKit
set_option linter.unusedSimpArgs false
set_option linter.unusedVariables false
attribute [local irreducible] wpQuiet wpQE

section
variable {P : Program}
/-- append onto a slice without room behind it: a new block, nothing that there was is written -/
theorem run_append_full (w : World) (t ty e : TypeId) (i : TypeInfo) (z : Value) (k bytes : Nat) (ht : P.underlying t = some (.slice e)) (hi : P.info? e = some i) (hz : i.zero = some z)
    (hs : i.size = k) (hby : i.bytes = bytes) (hzs : z.cells.size = k) (g n cap : Nat) (hn : n ≤ cap) (hcm : cap ≤ maxLen) (hcs : n * k ≤ (blk w g).size)
    (sb so m c : Nat) (hsb : so + m * k ≤ (blk w sb).size) (hroom : ¬ n + m ≤ cap) (h63 : n + m ≤ maxLen) (hbytes : (n + m) * bytes ≤ 140737488355328) :
    ∃ g' cap' cur' w', (Builtin.append_ #[t, t] ty #[.slice (some ⟨g, 0, none⟩) n cap, .slice (some ⟨sb, so, none⟩) m c]).run P w = .ok (.slice (some ⟨g', 0, none⟩) (n + m) cap') w' ∧
      w.grownBy w' none ∧ w.heap.size ≤ g' ∧ IsRow w' g' ∧ blk w' g' = cur' ∧ n + m ≤ cap' ∧ cap' ≤ maxLen ∧ cur'.size = cap' * k ∧ (∀ j, j < n * k → cur'[j]? = (blk w g)[j]?) ∧ (∀ j, j < m * k → cur'[n * k + j]? = (blk w sb)[so + j]?) ∧
      ∀ p : Value → Prop, (∀ (j : Nat) (u : Value), (blk w g)[j]? = some u → p u) → (∀ (j : Nat) (u : Value), (blk w sb)[j]? = some u → p u) → (∀ u : Value, u ∈ z.cells.toList → p u) → ∀ (j : Nat) (u : Value), cur'[j]? = some u → p u := by
  subst hs
  subst hby
  have hsmall : n + m ≤ 9223372036854775807 := by simp only [maxLen] at h63; omega
  obtain ⟨news, hnews⟩ : ∃ l : List Value, l = ((blk w sb).extract so (so + m * i.size)).toList := ⟨_, rfl⟩
  have hl : news.length = m * i.size := by rw [hnews, Array.length_toList, Array.size_extract]; omega
  have hget : ∀ j, j < m * i.size → news[j]? = (blk w sb)[so + j]? := fun j hj => by
    rw [hnews, Array.getElem?_toList, Array.getElem?_extract, if_pos (by omega)]
  have hcell : ∀ j u, news[j]? = some u → w.cell? ((⟨sb, so, none⟩ : Addr).add j) = some u := fun j u hu => by
    have hj : j < m * i.size := by
      rw [← hl]; exact (List.getElem?_eq_some_iff.1 hu).1
    rw [Addr.add_lit, cell_blk, ← hget j hj]; exact hu
  obtain ⟨olds, holds⟩ : ∃ l : List Value, l = ((blk w g).extract 0 (n * i.size)).toList := ⟨_, rfl⟩
  have hlo : olds.length = n * i.size := by rw [holds, Array.length_toList, Array.size_extract]; omega
  have hgo : ∀ j, j < n * i.size → olds[j]? = (blk w g)[j]? := fun j hj => by
    rw [holds, Array.getElem?_toList, Array.getElem?_extract, if_pos (by omega), Nat.zero_add]
  have hco : ∀ j u, olds[j]? = some u → w.cell? ((⟨g, 0, none⟩ : Addr).add j) = some u := fun j u hu => by
    have hj : j < n * i.size := by
      rw [← hlo]; exact (List.getElem?_eq_some_iff.1 hu).1
    rw [Addr.add_lit, cell_blk, Nat.zero_add, ← hgo j hj]; exact hu
  have hrun := run_append_grow (P := P) w t ty e i z ht hi hz ⟨g, 0, none⟩ n cap olds hlo hco ⟨sb, so, none⟩ m c news hl hcell (by omega) (by omega) (growslice_fits (by omega) hbytes)
  have hge := grownCap_ge w (n + m) cap e
  refine ⟨_, _, _, _, hrun, ⟨rfl, rfl, rfl, by simp, fun x hx _ => Below.heap_alloc w.drew _ x hx⟩, Nat.le_refl _, ?_, blk_new w.drew _ _, hge, grownCap_le_maxLen w (n + m) cap e h63, ?_, fun j hj => ?_, fun j hj => ?_, ?_⟩
  · exact ⟨_, _, heap_alloc_last _ _⟩
  · simp only [Array.size_append, List.size_toArray, size_zeroCells, hzs, hlo, hl, ← Nat.add_mul]
    congr 1
    omega
  · rw [Array.getElem?_append_left (by simp [hlo]; omega), Array.getElem?_append_left (by simp [hlo]; omega), List.getElem?_toArray]
    exact hgo j hj
  · rw [Array.getElem?_append_left (by simp [hlo, hl]; omega), Array.getElem?_append_right (by simp [hlo])]
    simp only [List.size_toArray, hlo]
    rw [show n * i.size + j - n * i.size = j by omega, List.getElem?_toArray]
    exact hget j hj
  · intro p hp1 hp2 hp3 j u hu
    have hu := Array.mem_of_getElem? hu
    rw [Array.mem_append, Array.mem_append] at hu
    rcases hu with (hu | hu) | hu
    · obtain ⟨j, hj⟩ := List.mem_iff_getElem?.1 (List.mem_toArray.1 hu)
      rw [hgo j (by rw [← hlo]; exact (List.getElem?_eq_some_iff.1 hj).1)] at hj
      exact hp1 _ u hj
    · obtain ⟨j, hj⟩ := List.mem_iff_getElem?.1 (List.mem_toArray.1 hu)
      rw [hget j (by rw [← hl]; exact (List.getElem?_eq_some_iff.1 hj).1)] at hj
      exact hp2 _ u hj
    · exact hp3 u (mem_zeroCells hu)
end
/-- a caller's list, which nothing changes -/
def LL (w : World) (B U : Nat) (a : Option Addr) (m c : Nat) (f : Nat → Nat → Int) : Prop := VL w B U a m c f
theorem LL.below {w w' : World} {B U X : Nat} {a : Option Addr} {m c : Nat} {f : Nat → Nat → Int} (h : LL w B U a m c f) (hw : Below X w w') (hU : U ≤ X) : LL w' B U a m c f := VL.below h hw hU
theorem LL.alloc {w : World} {B U : Nat} {a : Option Addr} {m c : Nat} {f : Nat → Nat → Int} (h : LL w B U a m c f) (o : Obj) : LL (w.alloc o) B U a m c f := VL.alloc h o
theorem LL.drew {w : World} {B U : Nat} {a : Option Addr} {m c : Nat} {f : Nat → Nat → Int} (h : LL w B U a m c f) : LL w.drew B U a m c f := VL.drew h
theorem LL.setRow {w : World} {B U : Nat} {a : Option Addr} {m c : Nat} {f : Nat → Nat → Int} (h : LL w B U a m c f) {b : Nat} (hb : b < B ∨ U ≤ b) (cs : Array Value) : LL (w.setRow b cs) B U a m c f := VL.setRow h hb cs
theorem LL.grown {w w' : World} {row : Option Nat} {B U : Nat} {a : Option Addr} {m c : Nat} {f : Nat → Nat → Int} (h : LL w B U a m c f) (hg : w.grownBy w' row) (hk : ∀ k, row = some k → U ≤ k) : LL w' B U a m c f :=
  VL.of h fun g _ h2 _ hr => hg.block g (isRow_lt hr) fun e => by have := hk g e.symm; omega
theorem LL.some {w : World} {B U : Nat} {a : Option Addr} {m c : Nat} {f : Nat → Nat → Int} (h : LL w B U a m c f) (hm : 0 < m) : ∃ g F, a = some ⟨g, 0, none⟩ ∧ B ≤ g ∧ g < U ∧ IsRow w g ∧ m ≤ c ∧ c ≤ maxLen ∧ blk w g = row (c * 8) F ∧ Bytes (c * 8) F ∧ ∀ i, i < m → ∀ t, t < 8 → F (i * 8 + t) = f i t := VL.some h hm
/-- a list that begins as a caller's, cut at its end: N: that one's address and length -/
def GL (w : World) (B U : Nat) (a : Option Addr) (k c : Nat) (N : Option Addr × Nat) (f : Nat → Nat → Int) : Prop := (k = N.2 ∧ a = N.1 ∧ c = N.2) ∨ (N.2 < k ∧ VL w B U a k c f)
def ownG (a : Option Addr) (k : Nat) (N : Option Addr × Nat) : Option Nat := if k = N.2 then none else ownB a
theorem GL.below {w w' : World} {B U X : Nat} {a : Option Addr} {m c : Nat} {N : Option Addr × Nat} {f : Nat → Nat → Int} (h : GL w B U a m c N f) (hw : Below X w w') (hU : U ≤ X) : GL w' B U a m c N f := h.imp id fun ⟨h1, h2⟩ => ⟨h1, h2.below hw hU⟩
theorem GL.alloc {w : World} {B U : Nat} {a : Option Addr} {m c : Nat} {N : Option Addr × Nat} {f : Nat → Nat → Int} (h : GL w B U a m c N f) (o : Obj) : GL (w.alloc o) B U a m c N f := h.imp id fun ⟨h1, h2⟩ => ⟨h1, h2.alloc o⟩
theorem GL.drew {w : World} {B U : Nat} {a : Option Addr} {m c : Nat} {N : Option Addr × Nat} {f : Nat → Nat → Int} (h : GL w B U a m c N f) : GL w.drew B U a m c N f := h.imp id fun ⟨h1, h2⟩ => ⟨h1, h2.drew⟩
theorem GL.setRow {w : World} {B U : Nat} {a : Option Addr} {m c : Nat} {N : Option Addr × Nat} {f : Nat → Nat → Int} (h : GL w B U a m c N f) {b : Nat} (hb : b < B ∨ U ≤ b) (cs : Array Value) : GL (w.setRow b cs) B U a m c N f := h.imp id fun ⟨h1, h2⟩ => ⟨h1, h2.setRow hb cs⟩
theorem GL.same {w : World} {B U : Nat} {a : Option Addr} {m m' c : Nat} {N : Option Addr × Nat} {f f' : Nat → Nat → Int} (h : GL w B U a m c N f) (e : m = m') (hf : ∀ i, i < m → ∀ t, t < 8 → f i t = f' i t) : GL w B U a m' c N f' := by
  subst e
  exact h.imp id fun ⟨h1, h2⟩ => ⟨h1, h2.same rfl hf⟩
theorem GL.wider {w : World} {B U B' U' : Nat} {a : Option Addr} {m c : Nat} {N : Option Addr × Nat} {f : Nat → Nat → Int} (h : GL w B U a m c N f) (hB : B' ≤ B) (hU : U ≤ U') : GL w B' U' a m c N f := h.imp id fun ⟨h1, h2⟩ => ⟨h1, h2.wider hB hU⟩
theorem GL.ne {w : World} {B U b : Nat} {a : Option Addr} {m c : Nat} {N : Option Addr × Nat} {f : Nat → Nat → Int} (h : GL w B U a m c N f) (hb : b < B ∨ U ≤ b) : some b ≠ ownG a m N := by
  unfold ownG
  rcases h with ⟨h1, _⟩ | ⟨h1, h2⟩
  · rw [if_pos h1]; exact fun e => by cases e
  · rw [if_neg (by omega)]; exact h2.ne hb
theorem GL.own {w : World} {B U k : Nat} {a : Option Addr} {m c : Nat} {N : Option Addr × Nat} {f : Nat → Nat → Int} (h : GL w B U a m c N f) (e : ownG a m N = some k) : B ≤ k := by
  unfold ownG at e
  rcases h with ⟨h1, _⟩ | ⟨h1, h2⟩
  · rw [if_pos h1] at e; cases e
  · rw [if_neg (by omega)] at e; exact VL.own h2 e
theorem below_ownG {n : Nat} {w0 w w' : World} {B U : Nat} {a : Option Addr} {m c : Nat} {N : Option Addr × Nat} {f : Nat → Nat → Int} (hb : Below n w0 w) (h : GL w B U a m c N f) (hg : w.grownBy w' (ownG a m N)) (hn : n ≤ w.heap.size) (hB : n ≤ B) : Below n w0 w' :=
  hb.grown hg hn fun k e => Nat.le_trans hB (h.own e)
theorem GL.vl {w : World} {B U : Nat} {a : Option Addr} {m c : Nat} {N : Option Addr × Nat} {f : Nat → Nat → Int} (h : GL w B U a m c N f) (hm : N.2 < m) : VL w B U a m c f := by
  rcases h with ⟨h1, _⟩ | ⟨_, h2⟩
  · omega
  · exact h2
theorem appendG {w : World} {BL UL cL : Nat} {aL : Option Addr} {mL : Nat} {g : Nat → Nat → Int} (hL : LL w BL UL aL mL cL g) {ops : Array Oper} {rest : List Oper} {o : Oper} {A : Act} {Q : Exit → Act → World → Prop} (h0 : 0 < mL) {f : Nat → Nat → Int} (hfg : ∀ i, i < mL → ∀ t, t < 8 → g i t = f i t) (hgd : o.guard = none) (s x : Operand)
    (ho : o.op = .call { callee := .builtin .append, args := #[s, x], argTypes := #[29, 29] })
    {B U : Nat} {a : Option Addr} {m c : Nat} (h : GL w B U a m c (aL, mL) f) (hB : B ≤ w.heap.size) (hm : m + 1 ≤ 1000000) (hv : A.eval s = .slice a m c)
    (sb c1 : Nat) (u : Nat → Int) (hx : A.eval x = .slice (some ⟨sb, 0, none⟩) 1 c1) (hsc : blk w sb = row 8 u) (hu : Bytes 8 u)
    (k : ∀ a' c' w', w.grownBy w' (ownG a m (aL, mL)) → (ownB a' = ownG a m (aL, mL) ∨ ∃ g, ownB a' = some g ∧ w.heap.size ≤ g) → GL w' B w'.heap.size a' (m + 1) c' (aL, mL) (addV f m u) → wpList Tryz.prog ops Q rest (A.put o.dst (.slice a' (m + 1) c')) w') : wpList Tryz.prog ops Q (o :: rest) A w := by
  rcases h with ⟨h1, h2, h3⟩ | ⟨h1, h2⟩
  · dsimp only at h1 h2 h3
    subst h1 h2 h3
    obtain ⟨b, F, rfl, hb1, hb2, hr, hc, hcm, hbl, hF, hv2⟩ := hL.some h0
    obtain ⟨i0, hi, hz0, hz1, hz2⟩ := info_parts infoVec
    refine wpList_plain hgd fun _ hK => ?_
    obtain ⟨g', cap', cur', w', hrun, e1, e2, e3, e4, e5, e6, e7, e8, e9, e10⟩ := run_append_full (P := Tryz.prog) w 29 o.type _ i0 (.agg (row 8 zf)) 8 8 sliceVec hi hz0 hz1 hz2 (row_size 8 zf) b c c (Nat.le_refl _) (by omega) (by rw [hbl, row_size]; omega) sb 0 1 c1 (by rw [hsc, row_size]; omega) (by omega) (by unfold maxLen; omega) (by omega)
    have hall := e10 (fun u => ∃ y : Int, u = .int .u8 y ∧ 0 ≤ y ∧ y ≤ 255) (fun j v hj => by
        rw [hbl] at hj
        obtain ⟨x1, x2⟩ := of_row hj
        exact ⟨_, x2, hF j x1⟩) (fun j v hj => by
        rw [hsc] at hj
        obtain ⟨x1, x2⟩ := of_row hj
        exact ⟨_, x2, hu j x1⟩) (fun v hv => by
        obtain ⟨j, hj⟩ := List.mem_iff_getElem?.1 hv
        rw [Array.getElem?_toList] at hj
        obtain ⟨x1, x2⟩ := of_row (f := zf) (n := 8) hj
        exact ⟨_, x2, by unfold zf; omega⟩)
    have hcur : cur' = row (cap' * 8) (cellInt cur') := by
      apply Array.ext_getElem?
      intro j
      by_cases hj : j < cap' * 8
      · obtain ⟨y, hy, _⟩ := hall j (cur'[j]'(by omega)) (Array.getElem?_eq_getElem (by omega))
        rw [row_get? _ _ _ hj]
        unfold cellInt
        rw [Array.getElem?_eq_getElem (by omega), hy]
      · rw [row_get_none _ _ _ (by omega), Array.getElem?_eq_none (by omega)]
    have hby : Bytes (cap' * 8) (cellInt cur') := fun j hj => by
      obtain ⟨y, hy, hy2⟩ := hall j (cur'[j]'(by omega)) (Array.getElem?_eq_getElem (by omega))
      unfold cellInt
      rw [Array.getElem?_eq_getElem (by omega), hy]
      exact hy2
    have hown : ownG (some ⟨b, 0, none⟩) c (some ⟨b, 0, none⟩, c) = none := if_pos rfl
    have hn := k (some ⟨g', 0, none⟩) cap' w' (by rw [hown]; exact e1) (.inr ⟨g', rfl, e2⟩) (.inr ⟨by dsimp only; omega, .inr ⟨g', cellInt cur', rfl, by omega, isRow_lt e3, e3, e5, e6, e4.trans hcur, hby, fun i hi t ht => ?_⟩⟩)
    · unfold Oper.wp execOp
      simp only [ho, resolve, invoke, builtin, Sem.run_bind, Sem.run_pure, Result.andThen_ok, List.map_toArray, List.map_cons, List.map_nil, hv, hx, hrun]
      exact hK _ _ hn
    · by_cases hlt : i < c
      · rw [addV_old hlt, ← hfg i hlt t ht, ← hv2 i hlt t ht]
        have := e8 (i * 8 + t) (by omega)
        unfold cellInt
        rw [this, hbl, row_get? _ _ _ (by omega)]
      · obtain rfl : i = c := by omega
        rw [addV_new]
        have := e9 t (by omega)
        unfold cellInt
        rw [this, hsc, Nat.zero_add, row_get? _ _ _ ht]
  · have hown : ownG a m (aL, mL) = ownB a := if_neg (by dsimp only at h1 ⊢; omega)
    rw [hown] at k
    exact appendV w hgd s x ho h2 hB hm hv sb c1 u hx hsc hu fun a' c' w' k1 k2 k3 => k a' c' w' k1 k2 (.inr ⟨by dsimp only at h1 ⊢; omega, k3⟩)
/-- e(i) v -/
def spA (p : Int) (d : Nat) (F v : Nat → Int) (i : Nat) : Nat → Int := fun s => appF p 8 (fun a b => actT p d F (ebas i) (a * 8 + b)) v s
/-- the vectors, and behind them what e(0), e(1), .. lead them to -/
def spG (p : Int) (d : Nat) (F : Nat → Int) (m : Nat) (g : Nat → Nat → Int) : Nat → Nat → Int := fun k => if k < m then g k else spA p d F (g ((k - m) % m)) ((k - m) / m)
theorem sp_add {p : Int} {d : Nat} {F : Nat → Int} {m i j : Nat} {g : Nat → Nat → Int} (hj : j < m) : ∀ k, k < m + i * m + j + 1 → ∀ t, t < 8 → addV (spG p d F m g) (m + i * m + j) (spA p d F (g j) i) k t = spG p d F m g k t := fun k hk t _ => by
  by_cases h : k < m + i * m + j
  · rw [addV_old h]
  · obtain rfl : k = m + i * m + j := by omega
    rw [addV_new]
    unfold spG
    rw [if_neg (by omega), show m + i * m + j - m = j + m * i by rw [Nat.mul_comm m i]; omega, Nat.add_mul_mod_self_left, Nat.mod_eq_of_lt hj, Nat.add_mul_div_left _ _ (by omega), Nat.div_eq_of_lt hj, Nat.zero_add]
theorem spA_range {p : Int} (hp : 0 < p) (d : Nat) (F v : Nat → Int) (i t : Nat) : 0 ≤ spA p d F v i t ∧ spA p d F v i t < p := mod_range _ p hp
theorem spG_range {p : Int} (hp : 0 < p) {d : Nat} {F : Nat → Int} {m : Nat} {g : Nat → Nat → Int} (hg : ∀ i, i < m → ∀ t, t < 8 → 0 ≤ g i t ∧ g i t < p) (M : Nat) : ∀ k, k < M → ∀ t, t < 8 → 0 ≤ spG p d F m g k t ∧ spG p d F m g k t < p := fun k _ t ht => by
  unfold spG
  split
  · exact hg k (by assumption) t ht
  · exact spA_range hp _ _ _ _ _

set_option maxRecDepth 100000 in
set_option maxHeartbeats 4000000 in
theorem spread_any (p : Int) (n d : Nat) (f F : Nat → Int) (B U : Nat) (a : Option Addr) (m c : Nat) (g : Nat → Nat → Int) (w : World) (hp : 0 < p) (hp' : p ≤ 255) (hn : n ≤ 8) (hd : d ≤ 8) (hf : Bytes 1104 f) (hF : Bytes 512 F) (hpr : prime31 p = true) (hn0 : 0 < n) (hm0 : 0 < m) (hM : m + n * m ≤ 1000000) (hU : U ≤ w.heap.size) (hBU : B ≤ U) (hg : ∀ i, i < m → ∀ t, t < 8 → 0 ≤ g i t ∧ g i t < p) (hL : VL w B U a m c g) :
    Calls Tryz.prog 38 #[.agg (hop p n f), .iface 41 (.agg (mdl d F)), .slice a m c] w fun e w' => ∃ a c, e = .returned (.slice a (sgN p (m + n * m) (spG p d F m g)) c) ∧ Below w.heap.size w w' ∧ VL w' w.heap.size w'.heap.size a (sgN p (m + n * m) (spG p d F m g)) c (sgG p (m + n * m) (spG p d F m g)) := by
 have Hf := Lib.hid hf; clear hf
 have HF := Lib.hid hF; clear hF
 have Hpr := Lib.hid hpr; clear hpr
 have Hg := Lib.hid hg; clear hg
 have hmm : m ≤ 1000000 := by omega
 obtain ⟨bL, FL0, rfl, hbL1, hbL2, hrL, hcL, hmL, hblL, hFL, hvL⟩ := VL.some hL hm0
 have hmc : m ≤ c := hcL
 have HFg : Hid (∀ i, i < m → ∀ t, t < 8 → g i t = spG p d F m g i t) := Lib.hid fun i hi t _ => by unfold spG; rw [if_pos hi]
 have HG0 : GL w (w.heap.size + 1) (w.heap.size + 1) (some ⟨bL, 0, none⟩) m m ((some ⟨bL, 0, none⟩), m) (spG p d F m g) := .inl ⟨rfl, rfl, rfl⟩
 have hL' : LL w B U (some ⟨bL, 0, none⟩) m c g := hL
 go_enter Tryz.func38, Tryz.ntmps38
 go_wp2
 refine atomW fun W1 e1 => ?_
 have hb1 : Below w.heap.size w W1 := by rw [e1]; exact bt
 have q1 := hb1.size
 have r3_1 : IsRow W1 (w.heap.size) := by rw [e1]; simp [go_sem]
 have c3_1 := congrArg (fun x => blk x (w.heap.size)) e1; simp [go_sem] at c3_1
 have z3_1 := isRow_lt r3_1
 have sz1 : w.heap.size ≤ W1.heap.size := by rw [e1]; first | omega | (simp; done) | (simp; omega)
 have hvL_1 : LL W1 B U (some ⟨bL, 0, none⟩) m c g := by rw [e1]; (repeat (first | exact hL' | refine LL.alloc ?_ _ | refine LL.drew ?_ | refine LL.setRow ?_ (by omega) _))
 have hvG_1 : GL W1 ((w.heap.size + 1)) ((w.heap.size + 1)) ((some ⟨bL, 0, none⟩)) (m) (m) (((some ⟨bL, 0, none⟩), m)) ((spG p d F m g)) := by rw [e1]; (repeat (first | exact HG0 | refine GL.alloc ?_ _ | refine GL.drew ?_ | refine GL.setRow ?_ (by omega) _))
 clear e1 hL' HG0
 go_loopw [7, 20] (fun s7 s20 wr => ∃ i : Nat, ∃ aG_2 : Option Addr, ∃ cG_2 : Nat, ∃ UG_2 : Nat, i ≤ n ∧ s7 = .slice aG_2 (m + i * m) cG_2 ∧ s20 = .int .i64 i ∧ Below w.heap.size w wr ∧ (IsRow wr (w.heap.size) ∧ blk wr (w.heap.size) = blk W1 (w.heap.size)) ∧ LL wr B U (some ⟨bL, 0, none⟩) m c g ∧ ((B) ≤ (U) ∧ (U) ≤ wr.heap.size) ∧ GL wr ((w.heap.size + 1)) (UG_2) (aG_2) (m + i * m) (cG_2) (((some ⟨bL, 0, none⟩), m)) ((spG p d F m g)) ∧ (((w.heap.size + 1)) ≤ (UG_2) ∧ (UG_2) ≤ wr.heap.size)) (fun _ s20 _ => n - (intOf s20).toNat)
 case atStart => exact ⟨0, (some ⟨bL, 0, none⟩), m, (w.heap.size + 1), by omega, (by rw [Nat.zero_mul]; rfl), rfl, hb1, ⟨r3_1, rfl⟩, hvL_1, (by omega), (hvG_1).same (by rw [Nat.zero_mul]; rfl) fun _ _ _ _ => rfl, (by omega)⟩
 case round =>
  obtain ⟨i, aG_2, cG_2, UG_2, hle2, rfl, rfl, hb2, ⟨r3_2, c3_2⟩, hvL_2, hUL_2, hvG_2, hUG_2⟩ := hrel
  obtain ⟨W2, rfl⟩ : ∃ W2 : World, W2 = wr := ⟨_, rfl⟩
  have q2 := hb2.size
  have E3_2 := Lib.hid c3_1; replace c3_2 := c3_2.trans c3_1
  have z3_2 := isRow_lt r3_2
  clear r3_1 c3_1 z3_1 hb1 hvL_1 hvG_1
  by_cases hlt2 : i < n
  ·
   have i0_2 : (0 : Int) ≤ (i : Int) := by omega
   have i8_2 : (i : Int) < 8 := by omega
   have k8_2 : i < 8 := by omega
   have m8_2 : i * 8 + 8 ≤ 64 := by omega
   have m64_2 : i * 64 + 64 ≤ 512 := by omega
   have l1_2 : 10 + i * 64 + 64 ≤ 522 := by omega
   have A1 := Lib.hid (actT_bytes hp hp' d F (ebas i))
   have hin : i < n := hlt2
   have him : i * m + m ≤ n * m := by have := Nat.mul_le_mul_right m (show i + 1 ≤ n by omega); rw [Nat.add_mul, Nat.one_mul] at this; exact this
   go_wp2
   refine wp_quiet_alloc 6 _ (.cells (row 64 zf) 34) (Below W2.heap.size W2) (Made W2 (row 64 zf)) (by kernel_rfl) rfl rfl (by kernel_rfl) (fun a W => (xallocLin _ _ _ _ _ _ _).trans (allocLin W)) (closed_below W2) (closed_made W2 _) (fun b W h => h.1) (fun W h => made_new W2 _ _ W h) (Below.refl _ _).drew ?_
   simp only [List.take_succ_cons, List.take_zero, List.drop_succ_cons, List.drop_zero]
   iterate 4 (refine e_plain rfl ?_; apply Exists.intro; refine ⟨fun D hD hK W hW => ?_, ?_⟩; (focus (obtain ⟨x3, y3⟩ := keepB (hD W hW) z3_2 r3_2 c3_2; unfold Oper.quietAt; go_simp; first | done | rfl)); simp only [Act.put, List.setIfInBounds_toArray, List.set_cons_zero, List.set_cons_succ])
   (refine e_plain rfl ?_; apply Exists.intro; refine ⟨fun D hD hK W hW => ?_, ?_⟩; (focus (obtain ⟨x3, y3⟩ := keepB (hD W hW) z3_2 r3_2 c3_2; unfold Oper.quietAt; go_simp; (go_at_call 71; exact (basisAt i (by omega) _).mono fun e w2 ⟨he, hw2⟩ => ⟨he, hK _ _ hW hw2⟩))); simp only [Act.put, List.setIfInBounds_toArray, List.set_cons_zero, List.set_cons_succ])
   (refine e_plain rfl ?_; apply Exists.intro; refine ⟨fun D hD hK W hW => ?_, ?_⟩; (focus (obtain ⟨x3, y3⟩ := keepB (hD W hW) z3_2 r3_2 c3_2; unfold Oper.quietAt; go_simp; (go_at_call 70; exact (actTable_any p d F (ebas i) _ hp hp' hd HF.out (ebas_bytes i)).mono fun e w2 ⟨he, hw2⟩ => ⟨he, hK _ _ hW hw2⟩))); simp only [Act.put, List.setIfInBounds_toArray, List.set_cons_zero, List.set_cons_succ])
   refine e_nil ?_
   intro a3 W3 hW3
   obtain ⟨hw3, hl3, m1_3, m2_3⟩ := hW3
   have n3_9 : (w.heap.size) ≠ (a3) := by have := z3_2; omega
   have n9_3 : (a3) ≠ (w.heap.size) := by have := z3_2; omega
   obtain ⟨r3_3, c3_3, z3_3⟩ := keepZ hw3 z3_2 r3_2 c3_2
   obtain ⟨hb3, q3⟩ := bN hb2 hw3
   have sz3 := hw3.size
   have hvL_3 := hvL_2.below hw3 (by omega)
   have hvG_3 := hvG_2.below hw3 (by omega)
   clear hw3 hvL_2 hvG_2 r3_2 c3_2 z3_2 hb2
   have z9_3 := isRow_lt m1_3
   simp only [Act.put, List.setIfInBounds_toArray, List.set_cons_zero, List.set_cons_succ]
   go_wp2
   refine atomW fun W4 e4 => ?_
   have hb4 : Below w.heap.size w W4 := by rw [e4]; exact bt
   have q4 := hb4.size
   have R4 : IsRow W4 (w.heap.size) ∧ IsRow W4 (a3) := by rw [e4]; simp [go_sem, r3_3, c3_3, n3_9, m1_3, m2_3, n9_3]
   obtain ⟨r3_4, r9_4⟩ := R4
   have C4 := (⟨congrArg (blk · (w.heap.size)) e4, congrArg (blk · (a3)) e4⟩ : _ ∧ _); simp [go_sem, r3_3, c3_3, n3_9, m1_3, m2_3, n9_3] at C4
   obtain ⟨c3_4, c9_4⟩ := C4
   have z3_4 := isRow_lt r3_4; have z9_4 := isRow_lt r9_4
   have sz4 : W3.heap.size ≤ W4.heap.size := by rw [e4]; first | omega | (simp; done) | (simp; omega)
   have hvL_4 : LL W4 B U (some ⟨bL, 0, none⟩) m c g := by rw [e4]; (repeat (first | exact hvL_3 | refine LL.alloc ?_ _ | refine LL.drew ?_ | refine LL.setRow ?_ (by omega) _))
   have hvG_4 : GL W4 ((w.heap.size + 1)) (UG_2) (aG_2) (m + i * m) (cG_2) (((some ⟨bL, 0, none⟩), m)) ((spG p d F m g)) := by rw [e4]; (repeat (first | exact hvG_3 | refine GL.alloc ?_ _ | refine GL.drew ?_ | refine GL.setRow ?_ (by omega) _))
   clear e4 r3_3 c3_3 z3_3 m1_3 m2_3 z9_3 hvL_3 hvG_3 hb3
   go_loopw [7, 31] (fun s7 s31 wr => ∃ j : Nat, ∃ aG_5 : Option Addr, ∃ cG_5 : Nat, ∃ UG_5 : Nat, j ≤ m ∧ s7 = .slice aG_5 (m + i * m + j) cG_5 ∧ s31 = .int .i64 j ∧ Below w.heap.size w wr ∧ (IsRow wr (w.heap.size) ∧ blk wr (w.heap.size) = blk W4 (w.heap.size)) ∧ (IsRow wr (a3) ∧ blk wr (a3) = blk W4 (a3)) ∧ LL wr B U (some ⟨bL, 0, none⟩) m c g ∧ ((B) ≤ (U) ∧ (U) ≤ wr.heap.size) ∧ GL wr ((w.heap.size + 1)) (UG_5) (aG_5) (m + i * m + j) (cG_5) (((some ⟨bL, 0, none⟩), m)) ((spG p d F m g)) ∧ (((w.heap.size + 1)) ≤ (UG_5) ∧ (UG_5) ≤ wr.heap.size) ∧ ownG (aG_5) (m + i * m + j) ((some ⟨bL, 0, none⟩), m) ≠ some (a3)) (fun _ s31 _ => m - (intOf s31).toNat)
   case atStart => exact ⟨0, aG_2, cG_2, UG_2, by omega, (by first | rfl | (simp; done) | go_num), rfl, hb4, ⟨r3_4, rfl⟩, ⟨r9_4, rfl⟩, hvL_4, (by omega), hvG_4, (by omega), ((hvG_4).ne (by omega)).symm⟩
   case round =>
    obtain ⟨j, aG_5, cG_5, UG_5, hle5, rfl, rfl, hb5, ⟨r3_5, c3_5⟩, ⟨r9_5, c9_5⟩, hvL_5, hUL_5, hvG_5, hUG_5, hx5⟩ := hrel
    obtain ⟨W5, rfl⟩ : ∃ W5 : World, W5 = wr := ⟨_, rfl⟩
    have q5 := hb5.size
    have HX5 := Lib.hid hx5; clear hx5
    have E3_5 := Lib.hid c3_4; replace c3_5 := c3_5.trans c3_4
    have z3_5 := isRow_lt r3_5
    have E9_5 := Lib.hid c9_4; replace c9_5 := c9_5.trans c9_4
    have z9_5 := isRow_lt r9_5
    clear r3_4 c3_4 z3_4 r9_4 c9_4 z9_4 hb4 hvL_4 hvG_4
    by_cases hlt5 : j < m
    ·
     obtain ⟨gL_6, FL_6, eaL_6, gBL_6, gUL_6, rLx_6, hcL_6, hmL_6, cLx_6, hFbL_6, hFL_6⟩ := hvL_5.some (by omega)
     cases eaL_6
     have HFL_6 := Lib.hid hFL_6; clear hFL_6
     have HBL_6 := Lib.hid hFbL_6; clear hFbL_6
     have zLx_6 := isRow_lt rLx_6
     have n3_Lx : (w.heap.size) ≠ (bL) := by omega
     have n9_Lx : (a3) ≠ (bL) := by omega
     have nLx_3 : (bL) ≠ (w.heap.size) := by omega
     have nLx_9 : (bL) ≠ (a3) := by omega
     have HNe : ownG (aG_5) (m + i * m + j) ((some ⟨bL, 0, none⟩), m) ≠ some (a3) := HX5.out
     have HRW : Hid (row 8 (fun t => FL_6 (j * 8 + t)) = row 8 (g j)) := Lib.hid (row_congr fun t ht => HFL_6.out j (by omega) t ht)
     have hrow := HRW.out
     have HGi : Hid (Bytes 8 (g j)) := Lib.hid fun t ht => by have := Hg.out j hlt5 t ht; omega
     have HAb : Hid (Bytes 8 (spA p d F (g j) i)) := Lib.hid fun t _ => by have := spA_range hp d F (g j) i t; omega
     have hc1 : j * 8 + 8 ≤ c * 8 := by omega
     go_wp2_with fail
     have nw3_W5_0 : (w.heap.size) ≠ W5.heap.size := by omega
     have nw9_W5_0 : (a3) ≠ W5.heap.size := by omega
     have nwLx_W5_0 : (bL) ≠ W5.heap.size := by omega
     refine atomC fun W7 e7 => ?_
     have hb7 : Below w.heap.size w W7 := by rw [e7]; exact bt
     have q7 := hb7.size
     have R7 : IsRow W7 (w.heap.size) ∧ IsRow W7 (a3) ∧ IsRow W7 (bL) := by rw [e7]; simp [go_sem, r3_5, c3_5, n3_9, n3_Lx, r9_5, c9_5, n9_3, n9_Lx, rLx_6, cLx_6, nLx_3, nLx_9, nw3_W5_0, nw9_W5_0, nwLx_W5_0]
     obtain ⟨r3_7, r9_7, rLx_7⟩ := R7
     have C7 := (⟨congrArg (blk · (w.heap.size)) e7, congrArg (blk · (a3)) e7, congrArg (blk · (bL)) e7⟩ : _ ∧ _ ∧ _); simp [go_sem, r3_5, c3_5, n3_9, n3_Lx, r9_5, c9_5, n9_3, n9_Lx, rLx_6, cLx_6, nLx_3, nLx_9, nw3_W5_0, nw9_W5_0, nwLx_W5_0] at C7
     obtain ⟨c3_7, c9_7, cLx_7⟩ := C7
     have z3_7 := isRow_lt r3_7; have z9_7 := isRow_lt r9_7; have zLx_7 := isRow_lt rLx_7
     have sz7 : W5.heap.size ≤ W7.heap.size := by rw [e7]; first | omega | (simp; done) | (simp; omega)
     have hvL_7 : LL W7 B U (some ⟨bL, 0, none⟩) m c g := by rw [e7]; (repeat (first | exact hvL_5 | refine LL.alloc ?_ _ | refine LL.drew ?_ | refine LL.setRow ?_ (by omega) _))
     have hvG_7 : GL W7 ((w.heap.size + 1)) (UG_5) (aG_5) (m + i * m + j) (cG_5) (((some ⟨bL, 0, none⟩), m)) ((spG p d F m g)) := by rw [e7]; (repeat (first | exact hvG_5 | refine GL.alloc ?_ _ | refine GL.drew ?_ | refine GL.setRow ?_ (by omega) _))
     clear e7 nw3_W5_0 nw9_W5_0 nwLx_W5_0 r3_5 c3_5 z3_5 r9_5 c9_5 z9_5 rLx_6 cLx_6 zLx_6 hvL_5 hvG_5 hb5
     refine (applyLinear_any p (actT p d F (ebas i)) (g j) _ hp hp' A1.out HGi.out).mono ?_; rintro _ W8 ⟨rfl, hw8⟩
     obtain ⟨r3_8, c3_8, z3_8⟩ := keepZ hw8 z3_7 r3_7 c3_7
     obtain ⟨r9_8, c9_8, z9_8⟩ := keepZ hw8 z9_7 r9_7 c9_7
     obtain ⟨rLx_8, cLx_8, zLx_8⟩ := keepZ hw8 zLx_7 rLx_7 cLx_7
     obtain ⟨hb8, q8⟩ := bN hb7 hw8
     have sz8 := hw8.size
     have hvL_8 := hvL_7.below hw8 (by omega)
     have hvG_8 := hvG_7.below hw8 (by omega)
     clear hw8 hvL_7 hvG_7 r3_7 c3_7 z3_7 r9_7 c9_7 z9_7 rLx_7 cLx_7 zLx_7 hb7
     go_wp2_with (at_builtin; refine atomL ?_)
     have nw3_W8_0 : (w.heap.size) ≠ W8.heap.size := by omega
     have nw9_W8_0 : (a3) ≠ W8.heap.size := by omega
     have nwLx_W8_0 : (bL) ≠ W8.heap.size := by omega
     intro W9 e9
     have hb9 : Below w.heap.size w W9 := by rw [e9]; exact bt
     have q9 := hb9.size
     have R9 : IsRow W9 (w.heap.size) ∧ IsRow W9 (a3) ∧ IsRow W9 (bL) ∧ IsRow W9 (W8.heap.size) := by rw [e9]; simp [go_sem, r3_8, c3_8, n3_9, n3_Lx, r9_8, c9_8, n9_3, n9_Lx, rLx_8, cLx_8, nLx_3, nLx_9, nw3_W8_0, nw9_W8_0, nwLx_W8_0]
     obtain ⟨r3_9, r9_9, rLx_9, r41_9⟩ := R9
     have C9 := (⟨congrArg (blk · (w.heap.size)) e9, congrArg (blk · (a3)) e9, congrArg (blk · (bL)) e9, congrArg (blk · (W8.heap.size)) e9⟩ : _ ∧ _ ∧ _ ∧ _); simp [go_sem, r3_8, c3_8, n3_9, n3_Lx, r9_8, c9_8, n9_3, n9_Lx, rLx_8, cLx_8, nLx_3, nLx_9, nw3_W8_0, nw9_W8_0, nwLx_W8_0] at C9
     obtain ⟨c3_9, c9_9, cLx_9, c41_9⟩ := C9
     have z3_9 := isRow_lt r3_9; have z9_9 := isRow_lt r9_9; have zLx_9 := isRow_lt rLx_9; have z41_9 := isRow_lt r41_9
     have n3_41 : (w.heap.size) ≠ (W8.heap.size) := by omega
     have n9_41 : (a3) ≠ (W8.heap.size) := by omega
     have nLx_41 : (bL) ≠ (W8.heap.size) := by omega
     have n41_3 : (W8.heap.size) ≠ (w.heap.size) := by omega
     have n41_9 : (W8.heap.size) ≠ (a3) := by omega
     have n41_Lx : (W8.heap.size) ≠ (bL) := by omega
     have sz9 : W8.heap.size ≤ W9.heap.size := by rw [e9]; first | omega | (simp; done) | (simp; omega)
     have hvL_9 : LL W9 B U (some ⟨bL, 0, none⟩) m c g := by rw [e9]; (repeat (first | exact hvL_8 | refine LL.alloc ?_ _ | refine LL.drew ?_ | refine LL.setRow ?_ (by omega) _))
     have hvG_9 : GL W9 ((w.heap.size + 1)) (UG_5) (aG_5) (m + i * m + j) (cG_5) (((some ⟨bL, 0, none⟩), m)) ((spG p d F m g)) := by rw [e9]; (repeat (first | exact hvG_8 | refine GL.alloc ?_ _ | refine GL.drew ?_ | refine GL.setRow ?_ (by omega) _))
     clear e9 nw3_W8_0 nw9_W8_0 nwLx_W8_0 r3_8 c3_8 z3_8 r9_8 c9_8 z9_8 rLx_8 cLx_8 zLx_8 hvL_8 hvG_8 hb8
     refine appendG hvL_9 hm0 HFg.out rfl _ _ rfl hvG_9 (by omega) (by omega) rfl _ _ (spA p d F (g j) i) rfl c41_9 HAb.out ?_
     intro aG_10 cG_10 W10 hg10 ha10 hvG_10
     obtain ⟨r3_10, c3_10⟩ := keepG hg10 (hvG_9.ne (by omega)) r3_9 c3_9
     have z3_10 := isRow_lt r3_10
     obtain ⟨r9_10, c9_10⟩ := keepG hg10 (HNe.symm) r9_9 c9_9
     have z9_10 := isRow_lt r9_10
     obtain ⟨rLx_10, cLx_10⟩ := keepG hg10 (hvG_9.ne (by omega)) rLx_9 cLx_9
     have zLx_10 := isRow_lt rLx_10
     have hb10 := below_ownG hb9 hvG_9 hg10 (by omega) (by omega)
     have q10 := hb10.size
     have sz10 := hg10.size
     have hvL_10 := hvL_9.grown hg10 fun k e => Nat.le_trans (by omega) (hvG_9.own e)
     have HN9 : ownG aG_10 (m + i * m + j + 1) ((some ⟨bL, 0, none⟩), m) ≠ some (a3) := by
      unfold ownG
      rw [if_neg (by dsimp only; omega)]
      rcases ha10 with h | ⟨g9, h, h9⟩
      · rw [h]; exact HNe
      · rw [h]; intro e; have := Option.some.inj e; omega
     clear hg10 ha10 r3_9 c3_9 z3_9 r9_9 c9_9 z9_9 rLx_9 cLx_9 zLx_9 hvL_9 hvG_9 hb9
     go_wp2
     go_roundw
     case rel => exact ⟨j + 1, (aG_10), (cG_10), (W10.heap.size), by omega, (by rw [Nat.add_assoc]), by go_num, bt, ⟨by simp [go_sem, r3_10, c3_10, n3_9, n3_Lx, r9_10, c9_10, n9_3, n9_Lx, rLx_10, cLx_10, nLx_3, nLx_9], (by rw [E3_5.out]; first | exact c3_10 | (simp [go_sem, r3_10, c3_10, n3_9, n3_Lx, r9_10, c9_10, n9_3, n9_Lx, rLx_10, cLx_10, nLx_3, nLx_9]; done))⟩, ⟨by simp [go_sem, r3_10, c3_10, n3_9, n3_Lx, r9_10, c9_10, n9_3, n9_Lx, rLx_10, cLx_10, nLx_3, nLx_9], (by rw [E9_5.out]; first | exact c9_10 | (simp [go_sem, r3_10, c3_10, n3_9, n3_Lx, r9_10, c9_10, n9_3, n9_Lx, rLx_10, cLx_10, nLx_3, nLx_9]; done))⟩, (by (repeat (first | exact hvL_10 | refine LL.alloc ?_ _ | refine LL.drew ?_ | refine LL.setRow ?_ (by omega) _))), bu, (hvG_10).same (by omega) (sp_add hlt5), bu, HN9⟩
     case measure => simp [intOf]; try omega
    ·
     obtain rfl : m = j := by omega
     go_wp2
     go_roundw
     case rel => exact ⟨i + 1, (aG_5), (cG_5), (UG_5), by omega, (by rw [Nat.add_mul, Nat.one_mul, ← Nat.add_assoc]), by go_num, bt, ⟨by simp [go_sem, r3_5, c3_5, n3_9, r9_5, c9_5, n9_3], (by rw [E3_2.out]; first | exact c3_5 | (simp [go_sem, r3_5, c3_5, n3_9, r9_5, c9_5, n9_3]; done))⟩, (by (repeat (first | exact hvL_5 | refine LL.alloc ?_ _ | refine LL.drew ?_ | refine LL.setRow ?_ (by omega) _))), bu, (hvG_5).same (by rw [Nat.add_mul, Nat.one_mul, Nat.add_assoc]) fun _ _ _ _ => rfl, bu⟩
     case measure => simp [intOf]; try omega
  ·
   obtain rfl : n = i := by omega
   have hnm : m ≤ n * m := by have := Nat.mul_le_mul_right m (show 1 ≤ n by omega); rw [Nat.one_mul] at this; exact this
   go_wp2_with fail
   refine (reduceVectors_sg p _ _ _ _ _ _ _ hp hp' Hpr.out hM (by omega) (by omega) (spG_range hp Hg.out _) (GL.vl hvG_2 (by dsimp only; omega))).mono ?_; rintro _ W11 ⟨aK_11, cK_11, rfl, hw11, hvK_11⟩
   obtain ⟨hb11, q11⟩ := bN hb2 hw11
   have sz11 := hw11.size
   have hvL_11 := hvL_2.below hw11 (by omega)
   have hvG_11 := hvG_2.below hw11 (by omega)
   clear hw11 hvL_2 hvG_2 hb2
   go_wp2_with fail
   go_ret
   exact ⟨aK_11, cK_11, rfl, bt, (hvK_11).wider (by omega) (by omega)⟩

end Go.Proofs.YtjmmmggnbndolaaGreat
