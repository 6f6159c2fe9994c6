/- Lists of rows of bytes; several slices joined; a row searched; the entries of a linear map one after the other. -/
import Derived.Test.YtfmhgfnadgaiaaaGreatL3
import Derived.Lib.AppendZeros
namespace Go.Proofs.YtfmhgfnadgaiaaaGreat
open Go.RowKit
set_option linter.unusedSimpArgs false
set_option linter.unusedVariables false
attribute [local irreducible] wpQuiet wpQE

/-! ### lists of rows of bytes as values -/
/-- the slice value of m rows of N bytes, those of g: nil, or a block of slices with room for c, all blocks in B .. U - 1 -/
def RL (w : World) (B U : Nat) (a : Option Addr) (m c N : Nat) (g : Nat → Nat → Int) : Prop :=
  (a = none ∧ m = 0 ∧ c = 0) ∨ ∃ b G C F, a = some ⟨b, 0, none⟩ ∧ FL w B U b 0 m N g G C F ∧ m ≤ c ∧ c ≤ maxLen ∧ (blk w b).size = c
theorem RL.of {w w' : World} {B U : Nat} {a : Option Addr} {m c N : Nat} {f : Nat → Nat → Int} (h : RL w B U a m c N f) (k : ∀ g, B ≤ g → g < U → IsRow w g → w'.heap[g]? = w.heap[g]?) : RL w' B U a m c N f := by
  rcases h with h | ⟨b, G, C, F, h1, h2, h3, h4, h5⟩
  · exact .inl h
  · refine .inr ⟨b, G, C, F, h1, h2.of k, h3, h4, ?_⟩
    have e := k b h2.base h2.top h2.row
    unfold Go.Proofs.YtfmhgfnadgaiaaaGreat.blk at h5 ⊢
    rw [e]; exact h5
theorem RL.below {w w' : World} {B U X : Nat} {a : Option Addr} {m c N : Nat} {f : Nat → Nat → Int} (h : RL w B U a m c N f) (hw : Below X w w') (hU : U ≤ X) : RL w' B U a m c N f := h.of fun g _ h2 _ => hw.block g (by omega)
theorem RL.alloc {w : World} {B U : Nat} {a : Option Addr} {m c N : Nat} {f : Nat → Nat → Int} (h : RL w B U a m c N f) (o : Obj) : RL (w.alloc o) B U a m c N f := h.of fun g _ _ hr => Below.heap_alloc _ _ _ (isRow_lt hr)
theorem RL.drew {w : World} {B U : Nat} {a : Option Addr} {m c N : Nat} {f : Nat → Nat → Int} (h : RL w B U a m c N f) : RL w.drew B U a m c N f := h.of fun _ _ _ _ => rfl
theorem RL.setRow {w : World} {B U : Nat} {a : Option Addr} {m c N : Nat} {f : Nat → Nat → Int} (h : RL w B U a m c N f) {b : Nat} (hb : b < B ∨ U ≤ b) (cs : Array Value) : RL (w.setRow b cs) B U a m c N f := h.of fun g h1 h2 _ => setRow_other w b g cs (by omega)
theorem RL.aside {w w' : World} {B U X b : Nat} {a : Option Addr} {m c N : Nat} {f : Nat → Nat → Int} (h : RL w B U a m c N f) (hw : Aside X b w w') (hU : U ≤ X) (hb : b < B ∨ U ≤ b) : RL w' B U a m c N f := h.of fun g h1 h2 _ => hw.block g (by omega) (by omega)
theorem vtR {w : World} {B U : Nat} {a : Option Addr} {m c N : Nat} {f : Nat → Nat → Int} (h : RL w B U a m c N f := by repeat (first | assumption | refine RL.alloc ?_ _ | refine RL.drew ?_ | refine RL.setRow ?_ (by omega) _)) : RL w B U a m c N f := h
theorem RL.grown {w w' : World} {row : Option Nat} {B U : Nat} {a : Option Addr} {m c N : Nat} {f : Nat → Nat → Int} (h : RL w B U a m c N f) (hg : w.grownBy w' row) (hk : ∀ k, row = some k → U ≤ k) : RL w' B U a m c N f := h.of fun x _ h2 hr => hg.block x (isRow_lt hr) fun e => by have := hk x e.symm; omega
theorem RL.ne {w : World} {B U b : Nat} {a : Option Addr} {m c N : Nat} {f : Nat → Nat → Int} (h : RL w B U a m c N f) (hb : b < B ∨ U ≤ b) : some b ≠ ownB a := by
  rcases h with ⟨rfl, _⟩ | ⟨g, G, C, F, rfl, h2, _⟩
  · simp [ownB]
  · have h3 := h2.base
    have h4 := h2.top
    simp only [ownB, Option.map_some, ne_eq, Option.some.injEq]
    omega
theorem RL.own {w : World} {B U k : Nat} {a : Option Addr} {m c N : Nat} {f : Nat → Nat → Int} (h : RL w B U a m c N f) (e : ownB a = Option.some k) : B ≤ k := by
  rcases h with ⟨rfl, _⟩ | ⟨g, G, C, F, rfl, h2, _⟩
  · cases e
  · have : g = k := by simpa [ownB] using e
    have := h2.base
    omega
theorem RL.same {w : World} {B U : Nat} {a : Option Addr} {m m' c N N' : Nat} {f f' : Nat → Nat → Int} (h : RL w B U a m c N f) (e : m = m') (eN : N = N') (hf : ∀ i, i < m → ∀ t, t < N → f i t = f' i t) : RL w B U a m' c N' f' := by
  subst e; subst eN
  rcases h with h | ⟨b, G, C, F, h1, h2, h3⟩
  · exact .inl h
  · exact .inr ⟨b, G, C, F, h1, h2.same hf, h3⟩
theorem FL.wide {w : World} {B U B' U' b off m N : Nat} {g : Nat → Nat → Int} {G C : Nat → Nat} {F : Nat → Nat → Int} (h : FL w B U b off m N g G C F) (hB : B' ≤ B) (hU : U ≤ U') : FL w B' U' b off m N g G C F :=
  ⟨by have := h.base; omega, by have := h.top; omega, h.row, h.cell, fun i hi => by have := h.gB i hi; exact ⟨by omega, by omega, this.2.2⟩, h.inj, h.isr, h.blk, h.len, h.bytes, h.val⟩
theorem RL.wider {w : World} {B U B' U' : Nat} {a : Option Addr} {m c N : Nat} {f : Nat → Nat → Int} (h : RL w B U a m c N f) (hB : B' ≤ B) (hU : U ≤ U') : RL w B' U' a m c N f := by
  rcases h with h | ⟨b, G, C, F, h1, h2, h3⟩
  · exact .inl h
  · exact .inr ⟨b, G, C, F, h1, h2.wide hB hU, h3⟩
theorem RL.nil {N : Nat} (w : World) (B U : Nat) (f : Nat → Nat → Int) : RL w B U none 0 0 N f := .inl ⟨rfl, rfl, rfl⟩
theorem RL.some {w : World} {B U : Nat} {a : Option Addr} {m c N : Nat} {f : Nat → Nat → Int} (h : RL w B U a m c N f) (hm : 0 < m) : ∃ b G C F, a = some ⟨b, 0, none⟩ ∧ FL w B U b 0 m N f G C F ∧ m ≤ c ∧ c ≤ maxLen := by
  rcases h with ⟨_, h, _⟩ | ⟨b, G, C, F, h1, h2, h3, h4, _⟩
  · omega
  · exact ⟨b, G, C, F, h1, h2, h3, h4⟩
theorem below_ownR {n : Nat} {w0 w w' : World} {B U : Nat} {a : Option Addr} {m c N : Nat} {f : Nat → Nat → Int} (hb : Below n w0 w) (h : RL w B U a m c N f) (hg : w.grownBy w' (ownB a)) (hn : n ≤ w.heap.size) (hB : n ≤ B) : Below n w0 w' :=
  hb.grown hg hn fun k e => by have := h.own e; omega
/-- a row in the block y behind the others, to be appended -/
structure RowAt (w : World) (U y N c : Nat) (f : Nat → Int) : Prop where
  top : U ≤ y
  isr : IsRow w y
  blk : blk w y = row c f
  bytes : Bytes c f
  len : N ≤ c
theorem infoBs' : ∃ i : TypeInfo, Tryz.prog.info? 121 = some i ∧ i.zero = some (.slice none 0 0) ∧ i.size = 1 ∧ i.bytes = 24 := info_parts infoBs
/-- a block b' with the rows of a list and one more -/
theorem fl_snoc {w w' : World} {B U b b' m N y c : Nat} {g : Nat → Nat → Int} {G C : Nat → Nat} {F : Nat → Nat → Int} {f : Nat → Int} {row : Option Nat} (hold : ∀ i, i < m → (blk w' b')[i]? = some (.slice (some ⟨G i, 0, none⟩) N (C i))) (hnew : (blk w' b')[m]? = some (.slice (some ⟨y, 0, none⟩) N c))
    (hg : ∀ i, i < m → B ≤ G i ∧ G i < U ∧ G i ≠ b) (inj : ∀ i j, i < m → j < m → i ≠ j → G i ≠ G j) (isr : ∀ i, i < m → IsRow w (G i)) (hblk : ∀ i, i < m → blk w (G i) = Go.Proofs.YtfmhgfnadgaiaaaGreat.row (C i) (F i)) (hlen : ∀ i, i < m → N ≤ C i) (hby : ∀ i, i < m → Bytes (C i) (F i)) (hval : ∀ i, i < m → ∀ t, t < N → F i t = g i t)
    (hy : RowAt w U y N c f) (hBU : B ≤ U) (hr' : IsRow w' b') (hby' : b' ≠ y) (hb' : B ≤ b') (hbG : ∀ i, i < m → G i ≠ b') (hgr : w.grownBy w' row) (hrow : ∀ k, row = Option.some k → k ≠ y ∧ ∀ i, i < m → G i ≠ k) :
    FL w' B w'.heap.size b' 0 (m + 1) N (addV g m f) (setN G m y) (setN C m c) (setF F m f) := by
  have hUw := hgr.size
  have keep : ∀ x, IsRow w x → (∀ k, row = Option.some k → k ≠ x) → IsRow w' x ∧ Go.Proofs.YtfmhgfnadgaiaaaGreat.blk w' x = Go.Proofs.YtfmhgfnadgaiaaaGreat.blk w x := fun x hx hk => by
    have e := hgr.block x (isRow_lt hx) fun e => hk x e.symm rfl
    constructor
    · unfold IsRow; rw [e]; exact hx
    · unfold Go.Proofs.YtfmhgfnadgaiaaaGreat.blk; rw [e]
  have ky := keep y hy.isr fun k e => (hrow k e).1
  have kG : ∀ i, i < m → IsRow w' (G i) ∧ blk w' (G i) = blk w (G i) := fun i hi => keep _ (isr i hi) fun k e h => (hrow k e).2 i hi h.symm
  have hyl := isRow_lt hy.isr
  have htop := hy.top
  refine ⟨hb', isRow_lt hr', hr', fun k hk => ?_, fun k hk => ?_, fun k l hk hl hkl => ?_, fun k hk => ?_, fun k hk => ?_, fun k hk => ?_, fun k hk => ?_, fun k hk t ht => ?_⟩
  · rw [Nat.zero_add]
    unfold setN
    by_cases e : k = m
    · subst e; rw [if_pos rfl, if_pos rfl]; exact hnew
    · rw [if_neg e, if_neg e]; exact hold k (by omega)
  · unfold setN
    by_cases e : k = m
    · rw [if_pos e]; exact ⟨by omega, by omega, Ne.symm hby'⟩
    · rw [if_neg e]
      have h1 := hg k (by omega)
      have h2 := isRow_lt (isr k (by omega))
      exact ⟨h1.1, by omega, hbG k (by omega)⟩
  · unfold setN
    by_cases e : k = m
    · by_cases e2 : l = m
      · omega
      · rw [if_pos e, if_neg e2]
        have := (hg l (by omega)).2.1
        omega
    · by_cases e2 : l = m
      · rw [if_neg e, if_pos e2]
        have := (hg k (by omega)).2.1
        omega
      · rw [if_neg e, if_neg e2]; exact inj k l (by omega) (by omega) hkl
  · unfold setN
    by_cases e : k = m
    · rw [if_pos e]; exact ky.1
    · rw [if_neg e]; exact (kG k (by omega)).1
  · unfold setN setF
    by_cases e : k = m
    · rw [if_pos e, if_pos e, if_pos e, ky.2]; exact hy.blk
    · rw [if_neg e, if_neg e, if_neg e, (kG k (by omega)).2]; exact hblk k (by omega)
  · unfold setN
    by_cases e : k = m
    · rw [if_pos e]; exact hy.len
    · rw [if_neg e]; exact hlen k (by omega)
  · unfold setN setF
    by_cases e : k = m
    · rw [if_pos e, if_pos e]; exact hy.bytes
    · rw [if_neg e, if_neg e]; exact hby k (by omega)
  · unfold setF addV
    by_cases e : k = m
    · rw [if_pos e, if_neg (by omega)]
    · rw [if_neg e, if_pos (by omega)]; exact hval k (by omega) t ht
theorem appendR (w : World) {ops : Array Oper} {rest : List Oper} {o : Oper} {A : Act} {Q : Exit → Act → World → Prop} (hgd : o.guard = none) (s x : Operand)
    (ho : o.op = .call { callee := .builtin .append, args := #[s, x], argTypes := #[126, 126] })
    {B U : Nat} {a : Option Addr} {m c N : Nat} {g : Nat → Nat → Int} (h : RL w B U a m c N g) (hB : B ≤ w.heap.size) (hm : m + 1 ≤ 1000000) (hv : A.eval s = .slice a m c)
    (sb c1 : Nat) (f : Nat → Int) (hx : A.eval x = .slice (some ⟨sb, 0, none⟩) 1 c1) {y cy : Nat} (hsc : blk w sb = #[.slice (some ⟨y, 0, none⟩) N cy]) (hy : RowAt w U y N cy f ∧ B ≤ U)
    (K : ∀ a' c' w', w.grownBy w' (ownB a) → (ownB a' = ownB a ∨ ∃ g, ownB a' = some g ∧ w.heap.size ≤ g) → RL w' B w'.heap.size a' (m + 1) c' N (addV g m f) → wpList Tryz.prog ops Q rest (A.put o.dst (.slice a' (m + 1) c')) w') : wpList Tryz.prog ops Q (o :: rest) A w := by
  obtain ⟨i0, hi, hz0, hz1, hz2⟩ := infoBs'
  have hss : 0 + 1 * 1 ≤ (blk w sb).size := by rw [hsc]; simp
  rcases h with ⟨rfl, rfl, rfl⟩ | ⟨b, G, C, F, rfl, h2, h3, h4, h5⟩
  · refine wpList_born w hgd s x _ ho _ i0 _ 1 24 sliceBs hi hz0 hz1 hz2 rfl hv sb 0 1 c1 hx hss (by omega) (by unfold maxLen; omega) (by omega) fun g' cap' cur' w' hG => ?_
    refine K _ _ _ hG.by_ (.inr ⟨g', rfl, hG.new⟩) (.inr ⟨g', _, _, _, rfl, fl_snoc (G := fun _ => 0) (C := fun _ => 0) (F := fun _ _ => 0) (b := 0) (fun i hi => by omega) ?_ (fun i hi => by omega) (fun i j hi => by omega) (fun i hi => by omega) (fun i hi => by omega) (fun i hi => by omega) (fun i hi => by omega) (fun i hi => by omega) hy.1 hy.2 hG.row (by have := hG.new; have := isRow_lt hy.1.isr; omega) (by have := hG.new; omega) (fun i hi => by omega) hG.by_ (fun k e => by cases e), hG.len, hG.max, by rw [hG.blk, hG.size, Nat.mul_one]⟩)
    have e := hG.more 0 (by omega)
    rw [hG.blk, e, hsc]
    rfl
  · refine wpList_grow w hgd s x _ ho _ i0 _ 1 24 sliceBs hi hz0 hz1 hz2 rfl b m c hv h2.row h3 h4 (by rw [h5, Nat.mul_one]) sb 0 1 c1 hx hss (fun j hj u hu => ?_) (by unfold maxLen; omega) (by omega) fun g' cap' cur' w' hG => ?_
    · obtain rfl : j = 0 := by omega
      rw [hsc] at hu
      cases hu
      rfl
    have htop := h2.top
    have hyt := hy.1.top
    have hyl := isRow_lt hy.1.isr
    have hbl := isRow_lt h2.row
    refine K _ _ _ hG.by_ (hG.new.elim (fun e => .inl (by rw [e])) fun e => .inr ⟨g', rfl, e⟩) (.inr ⟨g', _, _, _, rfl, fl_snoc (G := G) (C := C) (F := F) (b := b) (fun i hi => ?_) ?_ h2.gB h2.inj h2.isr h2.blk h2.len h2.bytes h2.val hy.1 hy.2 hG.row (by have := hG.new; omega) (by have := hG.new; have := h2.base; omega) (fun i hi => ?_) hG.by_ (fun k e => ?_), hG.len, hG.max, by rw [hG.blk, hG.size, Nat.mul_one]⟩)
    · rw [hG.blk, hG.old i (by omega)]
      have := h2.cell i hi
      rwa [Nat.zero_add] at this
    · have e := hG.more 0 (by omega)
      rw [Nat.mul_one, Nat.add_zero] at e
      rw [hG.blk, e, hsc]
      rfl
    · have h6 := h2.gB i hi
      have := isRow_lt (h2.isr i hi)
      rcases hG.new with e | e
      · rw [e]; exact h6.2.2
      · omega
    · cases e
      exact ⟨by omega, fun i hi => (h2.gB i hi).2.2⟩

/-! ### room for n bytes -/
theorem zeros_row (n : Nat) : Builtin.zeroCells (Value.int .u8 0).cells n = row n zf := by
  apply Array.ext
  · rw [size_zeroCells, row_size]; simp [Value.cells]
  · intro i h1 h2
    have hm : (Builtin.zeroCells (Value.int .u8 0).cells n)[i] ∈ (Value.int .u8 0).cells.toList := mem_zeroCells (Array.getElem_mem h1)
    rw [show (Value.int .u8 0).cells.toList = [.int .u8 0] from rfl, List.mem_singleton] at hm
    rw [hm]
    simp [row, zf]
theorem row_app (n m : Nat) : row n zf ++ row m zf = row (n + m) zf := by
  apply Array.ext
  · simp [row_size]
  · intro i h1 h2
    simp only [Array.getElem_append]
    split <;> simp [row, zf]
theorem grow_run (n : Nat) (h0 : 0 < n) (h1 : n ≤ 1000) (ty : TypeId) (w : World) : ∃ c, n ≤ c ∧ c ≤ maxLen ∧ (Builtin.append_ #[121, 3] ty #[.slice none 0 0, .int .i64 n]).run Tryz.prog w = .ok (.slice (some ⟨w.heap.size, 0, none⟩) n c) (w.drew.alloc (.cells (row c zf) 5)) := by
  obtain ⟨i0, hi, hz0, hz1, hz2⟩ := info_parts infoByte
  have h := Lib.run_append_nil_zeros (P := Tryz.prog) w 121 3 ty 5 i0 (.int .u8 0) .i64 .i64 sliceByte (by kernel_rfl) hi hz0 n h0 (by rw [hz1]; omega) (by omega) (by rw [hz2]; omega)
  have hge := grownCap_ge w n 0 5
  refine ⟨_, hge, grownCap_le_maxLen w n 0 _ (by unfold maxLen; omega), ?_⟩
  rw [h, zeros_row, zeros_row, row_app, show n + (grownCap w n 0 5 - n) = grownCap w n 0 5 by omega]

set_option maxRecDepth 100000 in
theorem grow_any (n : Nat) (w : World) (h0 : 0 < n) (h1 : n ≤ 1000) :
    Calls Tryz.prog 212 #[.slice none 0 0, .int .i64 n] w fun e w' => ∃ a c, e = .returned (.slice a 0 c) ∧ Below w.heap.size w w' ∧ BL w' w.heap.size w'.heap.size a 0 c (fun _ _ => 0) := by
  have q0 : IntKind.i64.wrap (n : Int) = n := IntWalk.i64_in _ (by omega)
  have n1 : decide ((n : Int) < 0) = false := by simp
  have n2 : decide ((0 : Int) < n) = true := by simp; omega
  go_enter Tryz.func212, Tryz.ntmps212
  obtain ⟨c, hc, hm, hrun⟩ := grow_run n h0 h1 121 w
  go_wp2_with (at_builtin; refine Lib.wpList_append_run _ rfl _ _ _ _ rfl _ _ rfl rfl _ _ hrun ?_)
  go_ret
  have hr : IsRow (w.drew.alloc (.cells (row c zf) 5)) w.heap.size := ⟨_, _, heap_alloc_last _ _⟩
  have hb : blk (w.drew.alloc (.cells (row c zf) 5)) w.heap.size = row c zf := blk_new w.drew _ _
  exact ⟨_, c, rfl, ((Below.refl _ _).drew).alloc (Nat.le_refl _) _, .inr ⟨w.heap.size, zf, rfl, Nat.le_refl _, isRow_lt hr, hr, Nat.zero_le _, hm, hb, fun t _ => by unfold zf; omega, fun i hi => by omega⟩⟩

/-- lengths and entries of two rows one behind the other -/
def catN (N M : Nat) : Nat → Nat
  | 0 => 0
  | 1 => N
  | _ => N + M
def catF (N : Nat) (f g : Nat → Int) : Nat → Int := fun i => if i < N then f i else g (i - N)
theorem cat_one {N M : Nat} {f g : Nat → Int} : ∀ i, i < catN N M 0 + N → ∀ t : Nat, t < 1 → addB (fun i _ => catF N f g i) (catN N M 0) 0 f i t = catF N f g i := fun i hi t ht => by
  simp only [catN] at hi
  unfold addB catF
  simp only [catN]
  rw [if_neg (by omega), if_pos (by omega), Nat.sub_zero, Nat.zero_add]
theorem cat_two {N M : Nat} {f g : Nat → Int} : ∀ i, i < catN N M 1 + M → ∀ t : Nat, t < 1 → addB (fun i _ => catF N f g i) (catN N M 1) 0 g i t = catF N f g i := fun i hi t ht => by
  simp only [catN] at hi
  unfold addB catF
  simp only [catN]
  split
  · rfl
  · rw [Nat.zero_add]
set_option maxRecDepth 100000 in
set_option maxHeartbeats 1000000 in
theorem concat_any (s x N cx y M cy : Nat) (fx fy : Nat → Int) (w : World) (hrs : IsRow w s) (hcs : blk w s = #[.slice (some ⟨x, 0, none⟩) N cx, .slice (some ⟨y, 0, none⟩) M cy]) (hrx : IsRow w x) (hbx : blk w x = row cx fx) (hfx : Bytes cx fx) (hry : IsRow w y) (hby : blk w y = row cy fy) (hfy : Bytes cy fy) (hN0 : 0 < N) (hN : N ≤ 400) (hM0 : 0 < M) (hM : M ≤ 400) (hNc : N ≤ cx) (hMc : M ≤ cy) :
    Calls Tryz.prog 201 #[.slice (some ⟨s, 0, none⟩) 2 2] w fun e w' => ∃ a c, e = .returned (.slice a (N + M) c) ∧ Below w.heap.size w w' ∧ BL w' w.heap.size w'.heap.size a (N + M) c (fun i _ => catF N fx fy i) := by
 have Hfx := Lib.hid hfx; clear hfx
 have Hfy := Lib.hid hfy; clear hfy
 have zs := isRow_lt hrs; have zx := isRow_lt hrx; have zy := isRow_lt hry
 have q0 : IntKind.i64.wrap (N : Int) = N := IntWalk.i64_in _ (by omega)
 have q1 : IntKind.i64.wrap ((N : Int) + M) = N + M := IntWalk.i64_in _ (by omega)
 have n1 : decide ((N : Int) < 0) = false := by simp
 have n2 : decide ((N : Int) + M < 0) = false := by simp; omega
 have e0 : ((catN N M 0 : Nat) : Int) = 0 := rfl
 have e1 : ((catN N M 1 : Nat) : Int) = N := rfl
 have e2 : ((catN N M 2 : Nat) : Int) = N + M := by simp [catN]
 go_enter Tryz.func201, Tryz.ntmps201
 go_wp2
 refine atomW fun W1 e1 => ?_
 have hb1 : Below w.heap.size w W1 := by rw [e1]; exact bt
 have q1 := hb1.size
 have R1 : IsRow W1 (s) ∧ IsRow W1 (x) ∧ IsRow W1 (y) := by rw [e1]; simp [go_sem, hrs, hcs, hrx, hbx, hry, hby]
 obtain ⟨rs_1, rx_1, ry_1⟩ := R1
 have C1 := (⟨congrArg (blk · (s)) e1, congrArg (blk · (x)) e1, congrArg (blk · (y)) e1⟩ : _ ∧ _ ∧ _); simp [go_sem, hrs, hcs, hrx, hbx, hry, hby] at C1
 obtain ⟨cs_1, cx_1, cy_1⟩ := C1
 have zs_1 := isRow_lt rs_1; have zx_1 := isRow_lt rx_1; have zy_1 := isRow_lt ry_1
 clear e1 hrs hcs hrx hbx hry hby
 go_loopw [3, 11] (fun s3 s11 wr => ∃ i : Nat, i ≤ 2 ∧ s3 = .int .i64 (catN N M i : Nat) ∧ s11 = .int .i64 i ∧ Below w.heap.size w wr ∧ (IsRow wr (s) ∧ blk wr (s) = blk W1 (s)) ∧ (IsRow wr (x) ∧ blk wr (x) = blk W1 (x)) ∧ (IsRow wr (y) ∧ blk wr (y) = blk W1 (y))) (fun _ s11 _ => 2 - (intOf s11).toNat)
 case atStart => exact ⟨0, by omega, (by first | rfl | (simp; done) | go_num), rfl, hb1, ⟨rs_1, rfl⟩, ⟨rx_1, rfl⟩, ⟨ry_1, rfl⟩⟩
 case round =>
  obtain ⟨i, hle2, rfl, rfl, hb2, ⟨rs_2, cs_2⟩, ⟨rx_2, cx_2⟩, ⟨ry_2, cy_2⟩⟩ := hrel
  obtain ⟨W2, rfl⟩ : ∃ W2 : World, W2 = wr := ⟨_, rfl⟩
  have q2 := hb2.size
  have Es_2 := Lib.hid cs_1; replace cs_2 := cs_2.trans cs_1
  have zs_2 := isRow_lt rs_2
  have Ex_2 := Lib.hid cx_1; replace cx_2 := cx_2.trans cx_1
  have zx_2 := isRow_lt rx_2
  have Ey_2 := Lib.hid cy_1; replace cy_2 := cy_2.trans cy_1
  have zy_2 := isRow_lt ry_2
  clear rs_1 cs_1 zs_1 rx_1 cx_1 zx_1 ry_1 cy_1 zy_1 hb1
  by_cases hlt2 : i < 2
  ·
   by_cases hi0 : i = 0
   ·
    subst hi0
    go_wp2
    go_roundw
    case rel => exact ⟨0 + 1, by omega, (by first | rfl | go_num | (simp; done)), by go_num, bt, ⟨by simp [go_sem, rs_2, cs_2, rx_2, cx_2, ry_2, cy_2], (by rw [Es_2.out]; first | exact cs_2 | (simp [go_sem, rs_2, cs_2, rx_2, cx_2, ry_2, cy_2]; done))⟩, ⟨by simp [go_sem, rs_2, cs_2, rx_2, cx_2, ry_2, cy_2], (by rw [Ex_2.out]; first | exact cx_2 | (simp [go_sem, rs_2, cs_2, rx_2, cx_2, ry_2, cy_2]; done))⟩, ⟨by simp [go_sem, rs_2, cs_2, rx_2, cx_2, ry_2, cy_2], (by rw [Ey_2.out]; first | exact cy_2 | (simp [go_sem, rs_2, cs_2, rx_2, cx_2, ry_2, cy_2]; done))⟩⟩
    case measure => simp [intOf]; try omega
   ·
    by_cases hi1 : i = 1
    ·
     subst hi1
     go_wp2
     go_roundw
     case rel => exact ⟨1 + 1, by omega, (by first | rfl | go_num | (simp; done)), by go_num, bt, ⟨by simp [go_sem, rs_2, cs_2, rx_2, cx_2, ry_2, cy_2], (by rw [Es_2.out]; first | exact cs_2 | (simp [go_sem, rs_2, cs_2, rx_2, cx_2, ry_2, cy_2]; done))⟩, ⟨by simp [go_sem, rs_2, cs_2, rx_2, cx_2, ry_2, cy_2], (by rw [Ex_2.out]; first | exact cx_2 | (simp [go_sem, rs_2, cs_2, rx_2, cx_2, ry_2, cy_2]; done))⟩, ⟨by simp [go_sem, rs_2, cs_2, rx_2, cx_2, ry_2, cy_2], (by rw [Ey_2.out]; first | exact cy_2 | (simp [go_sem, rs_2, cs_2, rx_2, cx_2, ry_2, cy_2]; done))⟩⟩
     case measure => simp [intOf]; try omega
    ·
     omega
  ·
   obtain rfl : i = 2 := by omega
   go_wp2_with fail
   have ltSsn3 : (s) < W2.heap.size := zs_2
   have ltSxn3 : (x) < W2.heap.size := zx_2
   have ltSyn3 : (y) < W2.heap.size := zy_2
   refine (grow_any (N + M) _ (by omega) (by omega)).mono ?_; rintro _ W3 ⟨aS_3, cS_3, rfl, hw3, hvS_3⟩
   have sz3 := hw3.size
   obtain ⟨rs_3, cs_3, zs_3⟩ := keepZ hw3 zs_2 rs_2 cs_2
   obtain ⟨rx_3, cx_3, zx_3⟩ := keepZ hw3 zx_2 rx_2 cx_2
   obtain ⟨ry_3, cy_3, zy_3⟩ := keepZ hw3 zy_2 ry_2 cy_2
   obtain ⟨hb3, q3⟩ := bN hb2 hw3
   clear hw3 rs_2 cs_2 zs_2 rx_2 cx_2 zx_2 ry_2 cy_2 zy_2 hb2
   go_wp2
   go_loopw [6, 27] (fun s6 s27 wr => ∃ i : Nat, ∃ aS_4 : Option Addr, ∃ cS_4 : Nat, ∃ US_4 : Nat, i ≤ 2 ∧ s6 = .slice aS_4 (catN N M i) cS_4 ∧ s27 = .int .i64 i ∧ Below w.heap.size w wr ∧ (IsRow wr (s) ∧ blk wr (s) = blk W3 (s)) ∧ (IsRow wr (x) ∧ blk wr (x) = blk W3 (x)) ∧ (IsRow wr (y) ∧ blk wr (y) = blk W3 (y)) ∧ BL wr (W2.heap.size) (US_4) (aS_4) (catN N M i) (cS_4) ((fun i _ => catF N fx fy i)) ∧ ((W2.heap.size) ≤ (US_4) ∧ (US_4) ≤ wr.heap.size)) (fun _ s27 _ => 2 - (intOf s27).toNat)
   case atStart => exact ⟨0, aS_3, cS_3, W3.heap.size, by omega, (by first | rfl | (simp; done) | go_num), rfl, hb3, ⟨rs_3, rfl⟩, ⟨rx_3, rfl⟩, ⟨ry_3, rfl⟩, (hvS_3).same rfl fun k hk => by omega, (by omega)⟩
   case round =>
    obtain ⟨i, aS_4, cS_4, US_4, hle4, rfl, rfl, hb4, ⟨rs_4, cs_4⟩, ⟨rx_4, cx_4⟩, ⟨ry_4, cy_4⟩, hvS_4, hUS_4⟩ := hrel
    obtain ⟨W4, rfl⟩ : ∃ W4 : World, W4 = wr := ⟨_, rfl⟩
    have q4 := hb4.size
    have Es_4 := Lib.hid cs_3; replace cs_4 := cs_4.trans cs_3
    have zs_4 := isRow_lt rs_4
    have Ex_4 := Lib.hid cx_3; replace cx_4 := cx_4.trans cx_3
    have zx_4 := isRow_lt rx_4
    have Ey_4 := Lib.hid cy_3; replace cy_4 := cy_4.trans cy_3
    have zy_4 := isRow_lt ry_4
    clear rs_3 cs_3 zs_3 rx_3 cx_3 zx_3 ry_3 cy_3 zy_3 hb3 hvS_3
    by_cases hlt4 : i < 2
    ·
     by_cases hi0 : i = 0
     ·
      subst hi0
      go_wp2_with (at_builtin; refine atomL ?_)
      rintro _ rfl
      refine appendB _ rfl _ _ rfl hvS_4 (by omega) rfl _ (0) (N) _ _ (fx) rfl (by omega) (by omega) (by omega) cx_4 Hfx.out ?_
      intro aS_5 cS_5 W5 hg5 ha5 hvS_5
      obtain ⟨rs_5, cs_5⟩ := keepG hg5 (hvS_4.ne (by omega)) rs_4 cs_4
      have zs_5 := isRow_lt rs_5
      obtain ⟨rx_5, cx_5⟩ := keepG hg5 (hvS_4.ne (by omega)) rx_4 cx_4
      have zx_5 := isRow_lt rx_5
      obtain ⟨ry_5, cy_5⟩ := keepG hg5 (hvS_4.ne (by omega)) ry_4 cy_4
      have zy_5 := isRow_lt ry_5
      have hb5 := below_ownB hb4 hvS_4 hg5 (by omega) (by omega)
      have q5 := hb5.size
      have sz5 := hg5.size
      clear hg5 ha5 rs_4 cs_4 zs_4 rx_4 cx_4 zx_4 ry_4 cy_4 zy_4 hvS_4 hb4
      go_wp2
      go_roundw
      case rel => exact ⟨0 + 1, (aS_5), (cS_5), (W5.heap.size), by omega, (by simp only [catN, Nat.zero_add]), by go_num, bt, ⟨by simp [go_sem, rs_5, cs_5, rx_5, cx_5, ry_5, cy_5], (by rw [Es_4.out]; first | exact cs_5 | (simp [go_sem, rs_5, cs_5, rx_5, cx_5, ry_5, cy_5]; done))⟩, ⟨by simp [go_sem, rs_5, cs_5, rx_5, cx_5, ry_5, cy_5], (by rw [Ex_4.out]; first | exact cx_5 | (simp [go_sem, rs_5, cs_5, rx_5, cx_5, ry_5, cy_5]; done))⟩, ⟨by simp [go_sem, rs_5, cs_5, rx_5, cx_5, ry_5, cy_5], (by rw [Ey_4.out]; first | exact cy_5 | (simp [go_sem, rs_5, cs_5, rx_5, cx_5, ry_5, cy_5]; done))⟩, (hvS_5).same (by simp only [catN, Nat.zero_add]) cat_one, bu⟩
      case measure => simp [intOf]; try omega
     ·
      by_cases hi1 : i = 1
      ·
       subst hi1
       go_wp2_with (at_builtin; refine atomL ?_)
       rintro _ rfl
       refine appendB _ rfl _ _ rfl hvS_4 (by omega) rfl _ (0) (M) _ _ (fy) rfl (by omega) (by omega) (by omega) cy_4 Hfy.out ?_
       intro aS_6 cS_6 W6 hg6 ha6 hvS_6
       obtain ⟨rs_6, cs_6⟩ := keepG hg6 (hvS_4.ne (by omega)) rs_4 cs_4
       have zs_6 := isRow_lt rs_6
       obtain ⟨rx_6, cx_6⟩ := keepG hg6 (hvS_4.ne (by omega)) rx_4 cx_4
       have zx_6 := isRow_lt rx_6
       obtain ⟨ry_6, cy_6⟩ := keepG hg6 (hvS_4.ne (by omega)) ry_4 cy_4
       have zy_6 := isRow_lt ry_6
       have hb6 := below_ownB hb4 hvS_4 hg6 (by omega) (by omega)
       have q6 := hb6.size
       have sz6 := hg6.size
       clear hg6 ha6 rs_4 cs_4 zs_4 rx_4 cx_4 zx_4 ry_4 cy_4 zy_4 hvS_4 hb4
       go_wp2
       go_roundw
       case rel => exact ⟨1 + 1, (aS_6), (cS_6), (W6.heap.size), by omega, (by simp only [catN]), by go_num, bt, ⟨by simp [go_sem, rs_6, cs_6, rx_6, cx_6, ry_6, cy_6], (by rw [Es_4.out]; first | exact cs_6 | (simp [go_sem, rs_6, cs_6, rx_6, cx_6, ry_6, cy_6]; done))⟩, ⟨by simp [go_sem, rs_6, cs_6, rx_6, cx_6, ry_6, cy_6], (by rw [Ex_4.out]; first | exact cx_6 | (simp [go_sem, rs_6, cs_6, rx_6, cx_6, ry_6, cy_6]; done))⟩, ⟨by simp [go_sem, rs_6, cs_6, rx_6, cx_6, ry_6, cy_6], (by rw [Ey_4.out]; first | exact cy_6 | (simp [go_sem, rs_6, cs_6, rx_6, cx_6, ry_6, cy_6]; done))⟩, (hvS_6).same (by simp only [catN]) cat_two, bu⟩
       case measure => simp [intOf]; try omega
      ·
       omega
    ·
     obtain rfl : i = 2 := by omega
     go_wp2_with fail
     go_ret
     exact ⟨aS_4, cS_4, rfl, bt, (hvS_4).wider (by omega) (by omega)⟩

set_option maxRecDepth 100000 in
set_option maxHeartbeats 1000000 in
theorem flatLinear_any (F : Nat → Int) (w : World) (hF : Bytes 64 F) :
    Calls Tryz.prog 124 #[.agg (row 64 F)] w fun e w' => ∃ a c, e = .returned (.slice a 64 c) ∧ Below w.heap.size w w' ∧ BL w' w.heap.size w'.heap.size a (64) c (fun i _ => F i) := by
 have HF := Lib.hid hF; clear hF
 go_enter Tryz.func124, Tryz.ntmps124
 go_wp2
 refine atomW fun W1 e1 => ?_
 have hb1 : Below w.heap.size w W1 := by rw [e1]; exact bt
 have q1 := hb1.size
 clear e1
 go_loopw [3, 7] (fun s3 s7 wr => ∃ i : Nat, ∃ aS_2 : Option Addr, ∃ cS_2 : Nat, ∃ US_2 : Nat, i ≤ 8 ∧ s3 = .slice aS_2 (i * 8) cS_2 ∧ s7 = .int .i64 i ∧ Below w.heap.size w wr ∧ BL wr (W1.heap.size) (US_2) (aS_2) (i * 8) (cS_2) ((fun i _ => F i)) ∧ ((W1.heap.size) ≤ (US_2) ∧ (US_2) ≤ wr.heap.size)) (fun _ s7 _ => 8 - (intOf s7).toNat)
 case atStart => exact ⟨0, none, 0, W1.heap.size, by omega, rfl, rfl, hb1, BL.nil _ _ _ _, (by omega)⟩
 case round =>
  obtain ⟨i, aS_2, cS_2, US_2, hle2, rfl, rfl, hb2, hvS_2, hUS_2⟩ := hrel
  obtain ⟨W2, rfl⟩ : ∃ W2 : World, W2 = wr := ⟨_, rfl⟩
  have q2 := hb2.size
  clear hb1
  by_cases hlt2 : i < 8
  ·
   have i0_2 : (0 : Int) ≤ (i : Int) := by omega
   have i8_2 : (i : Int) < 8 := by omega
   have k8_2 : i < 8 := by omega
   have m8_2 : i * 8 + 8 ≤ 64 := by omega
   have m64_2 : i * 64 + 64 ≤ 512 := by omega
   have l1_2 : 10 + i * 64 + 64 ≤ 522 := by omega
   have HB : Hid (Bytes 8 (fun t => F (i * 8 + t))) := Lib.hid fun t ht => HF.out _ (by omega)
   go_wp2_with (at_builtin; refine atomL ?_)
   intro W3 e3
   have hb3 : Below w.heap.size w W3 := by rw [e3]; exact bt
   have q3 := hb3.size
   have r5_3 : IsRow W3 (W2.heap.size) := by rw [e3]; simp [go_sem]
   have c5_3 := congrArg (fun x => blk x (W2.heap.size)) e3; simp [go_sem] at c5_3
   have z5_3 := isRow_lt r5_3
   have hvS_3 : BL W3 (W1.heap.size) (US_2) (aS_2) (i * 8) (cS_2) ((fun i _ => F i)) := by rw [e3]; exact vtB
   clear e3 hvS_2 hb2
   refine appendB _ rfl _ _ rfl hvS_3 (by omega) rfl _ (0) (8) _ _ ((fun t => F (i * 8 + t))) rfl (by omega) (by omega) (by omega) c5_3 HB.out ?_
   intro aS_4 cS_4 W4 hg4 ha4 hvS_4
   obtain ⟨r5_4, c5_4⟩ := keepG hg4 (hvS_3.ne (by omega)) r5_3 c5_3
   have z5_4 := isRow_lt r5_4
   have hb4 := below_ownB hb3 hvS_3 hg4 (by omega) (by omega)
   have q4 := hb4.size
   have sz4 := hg4.size
   clear hg4 ha4 r5_3 c5_3 z5_3 hvS_3 hb3
   go_wp2
   go_roundw
   case rel => exact ⟨i + 1, (aS_4), (cS_4), (W4.heap.size), by omega, (by rw [Nat.add_mul, Nat.one_mul]), by go_num, bt, (hvS_4).same (by omega) fun k hk t ht => by unfold addB; split <;> first | rfl | (show F (i * 8 + (0 + (k - i * 8))) = F k; congr 1; omega), bu⟩
   case measure => simp [intOf]; try omega
  ·
   obtain rfl : i = 8 := by omega
   go_wp2_with fail
   go_ret
   exact ⟨aS_2, cS_2, rfl, bt, (hvS_2).wider (by omega) (by omega)⟩

set_option maxRecDepth 100000 in
set_option maxHeartbeats 1000000 in
theorem isNonzero_yes (x : Int) (w : World) (hx : x ≠ 0) :
    Calls Tryz.prog 91 #[.int .u8 x] w fun e w' => e = .returned (.bool true) ∧ w = w' := by
 have h1 : (x != 0) = true := by simpa using hx
 go_enter Tryz.func91, Tryz.ntmps91
 go_wp2_with fail
 go_ret
 exact ⟨rfl, rfl⟩

set_option maxRecDepth 100000 in
set_option maxHeartbeats 1000000 in
theorem isNonzero_no (x : Int) (w : World) (hx : x = 0) :
    Calls Tryz.prog 91 #[.int .u8 x] w fun e w' => e = .returned (.bool false) ∧ w = w' := by
 have h1 : (x != 0) = false := by simpa using hx
 go_enter Tryz.func91, Tryz.ntmps91
 go_wp2_with fail
 go_ret
 exact ⟨rfl, rfl⟩

set_option maxRecDepth 100000 in
set_option maxHeartbeats 1000000 in
theorem indexFunc_no (b K c cc : Nat) (f : Nat → Int) (w : World) (hr : IsRow w b) (hb : blk w b = row cc f) (hK : K ≤ cc) (hK' : K ≤ 1000) (h0 : ∀ t, t < K → f t = 0) :
    Calls Tryz.prog 123 #[.slice (some ⟨b, 0, none⟩) K c, .func (.func 91) #[] #[]] w fun e w' => e = .returned (.int .i64 (-1)) ∧ Below w.heap.size w w' := by
 have H0 := Lib.hid h0; clear h0
 have hbw := isRow_lt hr
 go_enter Tryz.func123, Tryz.ntmps123
 go_wp2
 refine atomW fun W1 e1 => ?_
 have hb1 : Below w.heap.size w W1 := by rw [e1]; exact bt
 have q1 := hb1.size
 have rb_1 : IsRow W1 (b) := by rw [e1]; simp [go_sem, hr, hb]
 have cb_1 := congrArg (fun x => blk x (b)) e1; simp [go_sem, hr, hb] at cb_1
 have zb_1 := isRow_lt rb_1
 clear e1 hr hb
 go_loopw [8] (fun s8 wr => ∃ t : Nat, t ≤ K ∧ s8 = .int .i64 t ∧ Below w.heap.size w wr ∧ (IsRow wr (b) ∧ blk wr (b) = blk W1 (b))) (fun s8 _ => K - (intOf s8).toNat)
 case atStart => exact ⟨0, by omega, rfl, hb1, ⟨rb_1, rfl⟩⟩
 case round =>
  obtain ⟨t, hle2, rfl, hb2, ⟨rb_2, cb_2⟩⟩ := hrel
  obtain ⟨W2, rfl⟩ : ∃ W2 : World, W2 = wr := ⟨_, rfl⟩
  have q2 := hb2.size
  have Eb_2 := Lib.hid cb_1; replace cb_2 := cb_2.trans cb_1
  have zb_2 := isRow_lt rb_2
  clear rb_1 cb_1 zb_1 hb1
  by_cases hlt2 : t < K
  ·
   have l1 : t < cc := by omega
   go_wp2_with fail
   refine (isNonzero_no (f t) _ (H0.out t hlt2)).mono ?_; rintro _ _ ⟨rfl, rfl⟩
   go_wp2
   go_roundw
   case rel => exact ⟨t + 1, by omega, by go_num, bt, ⟨by simp [go_sem, rb_2, cb_2], (by rw [Eb_2.out]; first | exact cb_2 | (simp [go_sem, rb_2, cb_2]; done))⟩⟩
   case measure => simp [intOf]; try omega
  ·
   obtain rfl : K = t := by omega
   go_wp2_with fail
   go_ret
   exact ⟨rfl, bt⟩

set_option maxRecDepth 100000 in
set_option maxHeartbeats 1000000 in
theorem indexFunc_at (b K c cc q : Nat) (f : Nat → Int) (w : World) (hr : IsRow w b) (hb : blk w b = row cc f) (hK : K ≤ cc) (hK' : K ≤ 1000) (hq : q < K) (hlow : ∀ t, t < q → f t = 0) (hne : f q ≠ 0) :
    Calls Tryz.prog 123 #[.slice (some ⟨b, 0, none⟩) K c, .func (.func 91) #[] #[]] w fun e w' => e = .returned (.int .i64 q) ∧ Below w.heap.size w w' := by
 have Hlow := Lib.hid hlow; clear hlow
 have hbw := isRow_lt hr
 go_enter Tryz.func123, Tryz.ntmps123
 go_wp2
 refine atomW fun W1 e1 => ?_
 have hb1 : Below w.heap.size w W1 := by rw [e1]; exact bt
 have q1 := hb1.size
 have rb_1 : IsRow W1 (b) := by rw [e1]; simp [go_sem, hr, hb]
 have cb_1 := congrArg (fun x => blk x (b)) e1; simp [go_sem, hr, hb] at cb_1
 have zb_1 := isRow_lt rb_1
 clear e1 hr hb
 go_loopw [8] (fun s8 wr => ∃ t : Nat, t ≤ q ∧ s8 = .int .i64 t ∧ Below w.heap.size w wr ∧ (IsRow wr (b) ∧ blk wr (b) = blk W1 (b))) (fun s8 _ => q - (intOf s8).toNat)
 case atStart => exact ⟨0, by omega, rfl, hb1, ⟨rb_1, rfl⟩⟩
 case round =>
  obtain ⟨t, hle2, rfl, hb2, ⟨rb_2, cb_2⟩⟩ := hrel
  obtain ⟨W2, rfl⟩ : ∃ W2 : World, W2 = wr := ⟨_, rfl⟩
  have q2 := hb2.size
  have Eb_2 := Lib.hid cb_1; replace cb_2 := cb_2.trans cb_1
  have zb_2 := isRow_lt rb_2
  clear rb_1 cb_1 zb_1 hb1
  by_cases hlt2 : t < q
  ·
   have l1 : t < cc := by omega
   have l2 : (t : Int) < K := by omega
   go_wp2_with fail
   refine (isNonzero_no (f t) _ (Hlow.out t hlt2)).mono ?_; rintro _ _ ⟨rfl, rfl⟩
   go_wp2
   go_roundw
   case rel => exact ⟨t + 1, by omega, by go_num, bt, ⟨by simp [go_sem, rb_2, cb_2], (by rw [Eb_2.out]; first | exact cb_2 | (simp [go_sem, rb_2, cb_2]; done))⟩⟩
   case measure => simp [intOf]; try omega
  ·
   obtain rfl : q = t := by omega
   have l1 : q < cc := by omega
   have l2 : (q : Int) < K := by omega
   go_wp2_with fail
   refine (isNonzero_yes (f q) _ hne).mono ?_; rintro _ _ ⟨rfl, rfl⟩
   go_wp2_with fail
   go_ret
   exact ⟨rfl, bt⟩

set_option maxRecDepth 100000 in
set_option maxHeartbeats 1000000 in
theorem contains_no (b K c cc : Nat) (f : Nat → Int) (w : World) (hr : IsRow w b) (hb : blk w b = row cc f) (hK : K ≤ cc) (hK' : K ≤ 1000) (h0 : ∀ t, t < K → f t = 0) :
    Calls Tryz.prog 89 #[.slice (some ⟨b, 0, none⟩) K c, .func (.func 91) #[] #[]] w fun e w' => e = .returned (.bool false) ∧ Below w.heap.size w w' := by
 have H0 := Lib.hid h0; clear h0
 have hbw := isRow_lt hr
 go_enter Tryz.func89, Tryz.ntmps89
 go_wp2_with fail
 refine atomC fun W1 e1 => ?_
 have hb1 : Below w.heap.size w W1 := by rw [e1]; exact bt
 have q1 := hb1.size
 have rb_1 : IsRow W1 (b) := by rw [e1]; simp [go_sem, hr, hb]
 have cb_1 := congrArg (fun x => blk x (b)) e1; simp [go_sem, hr, hb] at cb_1
 have zb_1 := isRow_lt rb_1
 clear e1 hr hb
 refine (indexFunc_no b K c cc f _ rb_1 cb_1 hK hK' H0.out).mono ?_; rintro _ W2 ⟨rfl, hw2⟩
 obtain ⟨rb_2, cb_2, zb_2⟩ := keepZ hw2 zb_1 rb_1 cb_1
 obtain ⟨hb2, q2⟩ := bN hb1 hw2
 clear hw2 rb_1 cb_1 zb_1 hb1
 go_wp2_with fail
 go_ret
 exact ⟨rfl, bt⟩

set_option maxRecDepth 100000 in
set_option maxHeartbeats 1000000 in
theorem contains_yes (b K c cc q : Nat) (f : Nat → Int) (w : World) (hr : IsRow w b) (hb : blk w b = row cc f) (hK : K ≤ cc) (hK' : K ≤ 1000) (hq : q < K) (hlow : ∀ t, t < q → f t = 0) (hne : f q ≠ 0) :
    Calls Tryz.prog 89 #[.slice (some ⟨b, 0, none⟩) K c, .func (.func 91) #[] #[]] w fun e w' => e = .returned (.bool true) ∧ Below w.heap.size w w' := by
 have Hlow := Lib.hid hlow; clear hlow
 have hbw := isRow_lt hr
 have n1 : decide ((0 : Int) ≤ q) = true := by simp
 go_enter Tryz.func89, Tryz.ntmps89
 go_wp2_with fail
 refine atomC fun W1 e1 => ?_
 have hb1 : Below w.heap.size w W1 := by rw [e1]; exact bt
 have q1 := hb1.size
 have rb_1 : IsRow W1 (b) := by rw [e1]; simp [go_sem, hr, hb]
 have cb_1 := congrArg (fun x => blk x (b)) e1; simp [go_sem, hr, hb] at cb_1
 have zb_1 := isRow_lt rb_1
 clear e1 hr hb
 refine (indexFunc_at b K c cc q f _ rb_1 cb_1 hK hK' hq Hlow.out hne).mono ?_; rintro _ W2 ⟨rfl, hw2⟩
 obtain ⟨rb_2, cb_2, zb_2⟩ := keepZ hw2 zb_1 rb_1 cb_1
 obtain ⟨hb2, q2⟩ := bN hb1 hw2
 clear hw2 rb_1 cb_1 zb_1 hb1
 go_wp2_with fail
 go_ret
 exact ⟨rfl, bt⟩

end Go.Proofs.YtfmhgfnadgaiaaaGreat
