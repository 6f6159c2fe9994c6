/- Lists of bytes as values; several bytes or vectors appended; a list of bytes copied. -/
import Derived.Test.YtjmmmggnbndolaaGreatL1
import Derived.Test.YtjmmmggnbndolaaGreatQ15
namespace Go.Proofs.YtjmmmggnbndolaaGreat
open Go.RowKit
set_option linter.unusedSimpArgs false
set_option linter.unusedVariables false
attribute [local irreducible] wpQuiet wpQE

/-! ### lists of bytes as values -/
/-- the slice at a of length m and capacity c holds the m bytes f i 0; its block, if it has one, lies in B .. U - 1 -/
def BL (w : World) (B U : Nat) (a : Option Addr) (m c : Nat) (f : Nat → Nat → Int) : Prop :=
  (a = none ∧ m = 0 ∧ c = 0) ∨ ∃ g F, a = some ⟨g, 0, none⟩ ∧ B ≤ g ∧ g < U ∧ IsRow w g ∧ m ≤ c ∧ c ≤ maxLen ∧ blk w g = row c F ∧ Bytes c F ∧ ∀ i, i < m → ∀ t, t < 1 → F i = f i t
theorem BL.of {w w' : World} {B U : Nat} {a : Option Addr} {m c : Nat} {f : Nat → Nat → Int} (h : BL w B U a m c f) (k : ∀ g, B ≤ g → g < U → ownB a = some g → IsRow w g → w'.heap[g]? = w.heap[g]?) : BL w' B U a m c f := by
  rcases h with h | ⟨g, F, rfl, h2, h3, h4, h5, h8, h6, h9, h7⟩
  · exact .inl h
  · have e := k g h2 h3 rfl h4
    refine .inr ⟨g, F, rfl, h2, h3, ?_, h5, h8, ?_, h9, h7⟩
    · unfold IsRow; rw [e]; exact h4
    · unfold blk at h6 ⊢; rw [e]; exact h6
theorem BL.below {w w' : World} {B U X : Nat} {a : Option Addr} {m c : Nat} {f : Nat → Nat → Int} (h : BL w B U a m c f) (hw : Below X w w') (hU : U ≤ X) : BL w' B U a m c f := h.of fun g _ h2 _ _ => hw.block g (by omega)
theorem BL.alloc {w : World} {B U : Nat} {a : Option Addr} {m c : Nat} {f : Nat → Nat → Int} (h : BL w B U a m c f) (o : Obj) : BL (w.alloc o) B U a m c f := h.of fun g _ _ _ hr => Below.heap_alloc _ _ _ (isRow_lt hr)
theorem BL.drew {w : World} {B U : Nat} {a : Option Addr} {m c : Nat} {f : Nat → Nat → Int} (h : BL w B U a m c f) : BL w.drew B U a m c f := h.of fun _ _ _ _ _ => rfl
theorem BL.setRow {w : World} {B U : Nat} {a : Option Addr} {m c : Nat} {f : Nat → Nat → Int} (h : BL w B U a m c f) {b : Nat} (hb : b < B ∨ U ≤ b) (cs : Array Value) : BL (w.setRow b cs) B U a m c f := h.of fun g h1 h2 _ _ => setRow_other w b g cs (by omega)
theorem BL.aside {w w' : World} {B U X b : Nat} {a : Option Addr} {m c : Nat} {f : Nat → Nat → Int} (h : BL w B U a m c f) (hw : Aside X b w w') (hU : U ≤ X) (hb : b < B ∨ U ≤ b) : BL w' B U a m c f := h.of fun g h1 h2 _ _ => hw.block g (by omega) (by omega)
theorem BL.grown {w w' : World} {B U : Nat} {a b : Option Addr} {m c : Nat} {f : Nat → Nat → Int} (h : BL w B U a m c f) (hg : w.grownBy w' (ownB b)) (hne : ownB a = none ∨ ownB a ≠ ownB b) : BL w' B U a m c f := h.of fun g _ _ ha hr => hg.block g (isRow_lt hr) (by rcases hne with h0 | h0; (rw [h0] at ha; cases ha); rw [← ha]; exact h0)
theorem BL.ne {w : World} {B U b : Nat} {a : Option Addr} {m c : Nat} {f : Nat → Nat → Int} (h : BL w B U a m c f) (hb : b < B ∨ U ≤ b) : some b ≠ ownB a := by
  rcases h with ⟨rfl, _⟩ | ⟨g, F, rfl, h2, h3, _⟩
  · exact fun e => by cases e
  · exact fun e => by have : b = g := by simpa [ownB] using e
                      omega
theorem BL.same {w : World} {B U : Nat} {a : Option Addr} {m m' c : Nat} {f f' : Nat → Nat → Int} (h : BL w B U a m c f) (e : m = m') (hf : ∀ i, i < m → ∀ t, t < 1 → f i t = f' i t) : BL w B U a m' c f' := by
  subst e
  rcases h with h | ⟨g, F, rfl, h2, h3, h4, h5, h8, h6, h9, h7⟩
  · exact .inl h
  · exact .inr ⟨g, F, rfl, h2, h3, h4, h5, h8, h6, h9, fun i hi t ht => (h7 i hi t ht).trans (hf i hi t ht)⟩
theorem BL.wider {w : World} {B U B' U' : Nat} {a : Option Addr} {m c : Nat} {f : Nat → Nat → Int} (h : BL w B U a m c f) (hB : B' ≤ B) (hU : U ≤ U') : BL w B' U' a m c f := by
  rcases h with h | ⟨g, F, rfl, h2, h3, h4⟩
  · exact .inl h
  · exact .inr ⟨g, F, rfl, by omega, by omega, h4⟩
theorem BL.nil (w : World) (B U : Nat) (f : Nat → Nat → Int) : BL w B U none 0 0 f := .inl ⟨rfl, rfl, rfl⟩
theorem BL.nilOf {w : World} {B U m : Nat} {f : Nat → Nat → Int} (e : m = 0) : BL w B U none m 0 f := .inl ⟨rfl, e, rfl⟩
theorem BL.some {w : World} {B U : Nat} {a : Option Addr} {m c : Nat} {f : Nat → Nat → Int} (h : BL w B U a m c f) (hm : 0 < m) : ∃ g F, a = some ⟨g, 0, none⟩ ∧ B ≤ g ∧ g < U ∧ IsRow w g ∧ m ≤ c ∧ c ≤ maxLen ∧ blk w g = row c F ∧ Bytes c F ∧ ∀ i, i < m → ∀ t, t < 1 → F i = f i t := by
  rcases h with ⟨_, h, _⟩ | h
  · omega
  · exact h
theorem BL.empty {w : World} {B U g : Nat} (hB : B ≤ g) (hU : g < U) (hr : IsRow w g) (hc : blk w g = row 0 zf) (f : Nat → Nat → Int) : BL w B U (Option.some ⟨g, 0, none⟩) 0 0 f := .inr ⟨g, zf, rfl, hB, hU, hr, Nat.le_refl _, Nat.zero_le _, hc, fun i hi => by omega, fun i hi => by omega⟩

@[go_sem ↓] theorem xbuild0b (ρ : Operand → Value) (dst : Option Tmp) (ty : TypeId) (pos : String) (after : Array Edge) (guard : Option (Nat × Bool)) (w : World) :
    (execOp ρ ⟨dst, .buildSlice 115 0 #[], ty, pos, after, guard⟩).run Tryz.prog w = .ok (.value (.slice (some ⟨w.heap.size, 0, none⟩) 0 0)) (w.alloc (.cells (row 0 zf) 5)) := by kernel_rfl
theorem nil_someB (a : Addr) (n c : Nat) (w : World) : (binOp .eql 115 (.slice (some a) n c) (.slice none 0 0)).run Tryz.prog w = .ok (.bool false) w := by kernel_rfl
theorem infoByte : (Tryz.prog.info? 5).map (fun i => (i.zero, i.size, i.bytes)) = some (some (.int .u8 0), 1, 1) := by kernel_rfl
theorem sliceByte : Tryz.prog.underlying 115 = some (.slice 5) := by kernel_rfl
def addB (f : Nat → Nat → Int) (m so : Nat) (u : Nat → Int) : Nat → Nat → Int := fun i t => if i < m then f i t else u (so + (i - m))
theorem appendB (w : World) {ops : Array Oper} {rest : List Oper} {o : Oper} {A : Act} {Q : Exit → Act → World → Prop} (hgd : o.guard = none) (s x : Operand)
    (ho : o.op = .call { callee := .builtin .append, args := #[s, x], argTypes := #[115, 115] })
    {B U : Nat} {a : Option Addr} {m c : Nat} {f : Nat → Nat → Int} (h : BL w B U a m c f) (hB : B ≤ w.heap.size) (hv : A.eval s = .slice a m c)
    (sb so k c1 M : Nat) (u : Nat → Int) (hx : A.eval x = .slice (some ⟨sb, so, none⟩) k c1) (hk : 0 < k) (hm : m + k ≤ 1000000) (hsb : so + k ≤ M) (hsc : blk w sb = row M u) (hu : Bytes M u)
    (K : ∀ a' c' w', w.grownBy w' (ownB a) → (ownB a' = ownB a ∨ ∃ g, ownB a' = some g ∧ w.heap.size ≤ g) → BL w' B w'.heap.size a' (m + k) c' (addB f m so u) → wpList Tryz.prog ops Q rest (A.put o.dst (.slice a' (m + k) c')) w') : wpList Tryz.prog ops Q (o :: rest) A w := by
  obtain ⟨i0, hi, hz0, hz1, hz2⟩ := info_parts infoByte
  rcases h with ⟨rfl, rfl, rfl⟩ | ⟨g, F, rfl, h2, h3, h4, h5, h8, h6, h9, h7⟩
  · refine wpList_bornB w hgd s x _ ho _ i0 _ 1 1 sliceByte hi hz0 hz1 hz2 rfl hv sb so k c1 M u hx hsc (by omega) hu (by omega) (by unfold maxLen; omega) (by omega) fun g' cap' F' w' hG => ?_
    rw [Nat.zero_add] at K
    refine K _ _ _ hG.by_ (.inr ⟨g', rfl, hG.new⟩) (.inr ⟨g', F', rfl, by have := hG.new; omega, isRow_lt hG.row, hG.row, hG.len, hG.max, by have := hG.blk; rwa [Nat.mul_one] at this, by have := hG.bytes; rwa [Nat.mul_one] at this, fun i hi t _ => ?_⟩)
    unfold addB
    rw [if_neg (by omega), hG.more i (by omega), Nat.sub_zero]
  · refine wpList_growB w hgd s x _ ho _ i0 _ 1 1 sliceByte hi hz0 hz1 hz2 rfl g m c F hv h4 h5 h8 (by rw [Nat.mul_one]; exact h6) (by rw [Nat.mul_one]; exact h9) sb so k c1 M u hx hsc (by omega) hu (by unfold maxLen; omega) (by omega) fun g' cap' F' w' hG => ?_
    refine K _ _ _ hG.by_ (hG.new.elim (fun e => .inl (by rw [e])) fun e => .inr ⟨g', rfl, e⟩) (.inr ⟨g', F', rfl, by have := hG.new; omega, isRow_lt hG.row, hG.row, hG.len, hG.max, by have := hG.blk; rwa [Nat.mul_one] at this, by have := hG.bytes; rwa [Nat.mul_one] at this, fun i hi t ht => ?_⟩)
    unfold addB
    by_cases h1 : i < m
    · rw [if_pos h1, hG.old _ (by omega)]
      exact h7 i h1 t ht
    · rw [if_neg h1, ← hG.more (i - m) (by omega), Nat.mul_one, show m + (i - m) = i by omega]
theorem below_ownB {n : Nat} {w0 w w' : World} {B U : Nat} {a : Option Addr} {m c : Nat} {f : Nat → Nat → Int} (hb : Below n w0 w) (h : BL w B U a m c f) (hg : w.grownBy w' (ownB a)) (hn : n ≤ w.heap.size) (hB : n ≤ B) : Below n w0 w' :=
  hb.grown hg hn fun k e => by
    rcases h with ⟨rfl, _⟩ | ⟨g, F, rfl, h2, _⟩
    · cases e
    · have : g = k := by simpa [ownB] using e
      omega

set_option maxRecDepth 100000 in
set_option maxHeartbeats 1000000 in
theorem clone_any (b N c : Nat) (f : Nat → Int) (w : World) (hN : 0 < N) (hN' : N ≤ 1000) (hr : IsRow w b) (hb : blk w b = row N f) (hf : Bytes N f) :
    Calls Tryz.prog 74 #[.slice (some ⟨b, 0, none⟩) N c] w fun e w' => ∃ a c, e = .returned (.slice a N c) ∧ Below w.heap.size w w' ∧ BL w' w.heap.size w'.heap.size a (N) c (fun i _ => f i) := by
 have Hf := Lib.hid hf; clear hf
 have hbw := isRow_lt hr
 have hn1 := nil_someB
 go_enter Tryz.func74, Tryz.ntmps74
 go_wp2_with (at_builtin; refine atomL ?_)
 have nwb_w_0 : (b) ≠ w.heap.size := by omega
 intro W1 e1
 have hb1 : Below w.heap.size w W1 := by rw [e1]; exact bt
 have q1 := hb1.size
 have R1 : IsRow W1 (b) ∧ IsRow W1 (w.heap.size) := by rw [e1]; simp [go_sem, hr, hb, nwb_w_0]
 obtain ⟨rb_1, r5_1⟩ := R1
 have C1 := (⟨congrArg (blk · (b)) e1, congrArg (blk · (w.heap.size)) e1⟩ : _ ∧ _); simp [go_sem, hr, hb, nwb_w_0] at C1
 obtain ⟨cb_1, c5_1⟩ := C1
 have zb_1 := isRow_lt rb_1; have z5_1 := isRow_lt r5_1
 have ltSbn1 : (b) < (w.heap.size) := by omega
 have hvS_1 := BL.empty (U := W1.heap.size) (Nat.le_refl _) z5_1 r5_1 c5_1 fun _ _ => 0
 have szS_1 := z5_1
 clear e1 nwb_w_0 hr hb
 refine appendB _ rfl _ _ rfl hvS_1 (by omega) rfl _ (0) (N) _ _ (f) rfl (by omega) (by omega) (by omega) cb_1 Hf.out ?_
 intro aS_2 cS_2 W2 hg2 ha2 hvS_2
 obtain ⟨rb_2, cb_2⟩ := keepG hg2 (hvS_1.ne (by omega)) rb_1 cb_1
 have zb_2 := isRow_lt rb_2
 have hb2 := below_ownB hb1 hvS_1 hg2 (by omega) (by omega)
 have q2 := hb2.size
 have sz2 := hg2.size
 clear hg2 ha2 rb_1 cb_1 zb_1 hvS_1 hb1
 go_wp2_with fail
 go_ret
 exact ⟨aS_2, cS_2, rfl, bt, ((hvS_2).same (by omega) fun i hi t ht => by unfold addB; rw [if_neg (by omega), Nat.sub_zero, Nat.zero_add]).wider (by omega) (by omega)⟩

def setN (G : Nat → Nat) (i x : Nat) : Nat → Nat := fun k => if k = i then x else G k
def setF (F : Nat → Nat → Int) (i : Nat) (f : Nat → Int) : Nat → Nat → Int := fun k => if k = i then f else F k
theorem infoBs : (Tryz.prog.info? 115).map (fun i => (i.zero, i.size, i.bytes)) = some (some (.slice none 0 0), 1, 24) := by kernel_rfl
theorem sliceBs : Tryz.prog.underlying 114 = some (.slice 115) := by kernel_rfl

end Go.Proofs.YtjmmmggnbndolaaGreat
