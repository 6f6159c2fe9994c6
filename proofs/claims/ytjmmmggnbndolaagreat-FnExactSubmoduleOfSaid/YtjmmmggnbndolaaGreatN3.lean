/- Lists of vectors that callers give: checked, and reduced, by both programs. -/
import Derived.Test.YtjmmmggnbndolaaGreatN2
import Derived.Test.YtjmmmggnbndolaaGreatQ14
import Derived.Test.YtjmmmggnbndolaaGreatQ16
namespace Go.Proofs.YtjmmmggnbndolaaGreat
open Go.RowKit
set_option linter.unusedSimpArgs false
set_option linter.unusedVariables false
attribute [local irreducible] wpQuiet wpQE

/-! ### the reduced list of what some vectors span, by choice -/
def SpanRed (p : Int) (m : Nat) (g : Nat → Nat → Int) (R : Nat) (h : Nat → Nat → Int) : Prop := (∃ l, Red p 8 R h l) ∧ SameSpan p 8 m g R h
theorem p2of {p : Int} (h : prime31 p = true) : 2 ≤ p := by
  unfold prime31 at h
  simp only [Bool.and_eq_true, decide_eq_true_eq] at h
  exact h.1.1
theorem span_red_exists {p : Int} {g : Nat → Nat → Int} (hpr : prime31 p = true) : ∀ m, (∀ i, i < m → ∀ t, t < 8 → 0 ≤ g i t ∧ g i t < p) → ∃ R h, SpanRed p m g R h := by
  have hp2 := p2of hpr
  have hp : 0 < p := by omega
  intro m
  induction m with
  | zero => exact fun _ => ⟨0, g, ⟨fun _ => 0, red_none⟩, same_none⟩
  | succ m ih =>
    intro hg
    obtain ⟨R, h, ⟨l, hR⟩, hS⟩ := ih fun i hi => hg i (by omega)
    have base := same_trans (snoc_succ (p := p) (N := 8) (i := m) (g := g)) (snoc_congr hS)
    cases hz : segEq 0 8 (byG p h l (g m) R) zf
    · obtain ⟨q, hq, hlow, hne⟩ := first_place hz
      obtain ⟨k, _, _, _, _, _, hPR, hPS⟩ := put_facts hpr hp hR (hg m (by omega)) hq hlow hne
      exact ⟨_, _, ⟨_, hPR⟩, same_trans base hPS⟩
    · have HS := snoc_same ((by_zero_iff hp hR.ech (hg m (by omega))).1 fun t ht => by have := (segEq_iff 0 8 _ _).1 hz t ht; rw [Nat.zero_add] at this; exact this)
      exact ⟨R, h, ⟨l, hR⟩, same_trans base HS⟩
open Classical in
noncomputable def sgN (p : Int) (m : Nat) (g : Nat → Nat → Int) : Nat := if h : ∃ R h, SpanRed p m g R h then h.choose else 0
open Classical in
noncomputable def sgG (p : Int) (m : Nat) (g : Nat → Nat → Int) : Nat → Nat → Int := if h : ∃ R h, SpanRed p m g R h then h.choose_spec.choose else fun _ _ => 0
theorem sg_any {p : Int} {m : Nat} {g : Nat → Nat → Int} {R : Nat} {h : Nat → Nat → Int} (hh : SpanRed p m g R h) : SpanRed p m g (sgN p m g) (sgG p m g) := by
  have h1 : ∃ R h, SpanRed p m g R h := ⟨R, h, hh⟩
  unfold sgN sgG
  rw [dif_pos h1, dif_pos h1]
  exact h1.choose_spec.choose_spec
theorem sg_yes {p : Int} {m : Nat} {g : Nat → Nat → Int} (hpr : prime31 p = true) (hg : ∀ i, i < m → ∀ t, t < 8 → 0 ≤ g i t ∧ g i t < p) : SpanRed p m g (sgN p m g) (sgG p m g) := by
  obtain ⟨R, h, hh⟩ := span_red_exists hpr m hg
  exact sg_any hh
theorem sg_of {p : Int} {m : Nat} {g : Nat → Nat → Int} {R : Nat} {h : Nat → Nat → Int} (h2 : 2 ≤ p) (hh : SpanRed p m g R h) : R = sgN p m g ∧ ∀ i, i < R → ∀ t, t < 8 → h i t = sgG p m g i t := by
  obtain ⟨⟨l', h6⟩, h7⟩ := sg_any hh
  obtain ⟨⟨l, h4⟩, h5⟩ := hh
  exact red_unique h2 h4 h6 (same_trans (same_symm h5) h7)
theorem sg_same {p : Int} {m k : Nat} {g h : Nat → Nat → Int} (hpr : prime31 p = true) (hg : ∀ i, i < m → ∀ t, t < 8 → 0 ≤ g i t ∧ g i t < p) (hs : SameSpan p 8 m g k h) : sgN p m g = sgN p k h ∧ ∀ i, i < sgN p m g → ∀ t, t < 8 → sgG p m g i t = sgG p k h i t := by
  obtain ⟨hl, hS⟩ := sg_yes hpr hg
  exact sg_of (p2of hpr) ⟨hl, same_trans (same_symm hs) hS⟩
theorem sg_le (p : Int) (m : Nat) (g : Nat → Nat → Int) : sgN p m g ≤ 8 := by
  unfold sgN
  split
  · rename_i h
    obtain ⟨⟨l, hl⟩, _⟩ := h.choose_spec.choose_spec
    exact red_le hl
  · omega
theorem reduceVectors_sg (p : Int) (B U : Nat) (a : Option Addr) (m c : Nat) (g : Nat → Nat → Int) (w : World) (hp : 0 < p) (hp' : p ≤ 255) (hpr : prime31 p = true) (hm : m ≤ 1000000) (hU : U ≤ w.heap.size) (hBU : B ≤ U) (hg : ∀ i, i < m → ∀ t, t < 8 → 0 ≤ g i t ∧ g i t < p) (hL : VL w B U a m c g) :
    Calls Tryz.prog 47 #[.int .i64 p, .slice a m c] w fun e w' => ∃ a c, e = .returned (.slice a (sgN p m g) c) ∧ Below w.heap.size w w' ∧ VL w' w.heap.size w'.heap.size a (sgN p m g) c (sgG p m g) := by
  obtain ⟨⟨l, hl⟩, hS⟩ := sg_yes hpr hg
  exact reduceVectors_any p B U a m c _ g _ l w hp hp' hpr hm hU hBU hg hl hS hL
/-! ### all of a list are vectors -/
theorem VL.vbytes {w : World} {B U : Nat} {a : Option Addr} {m c : Nat} {f : Nat → Nat → Int} (h : VL w B U a m c f) (i : Nat) (hi : i < m) : Bytes 8 (f i) := fun t ht => by
  obtain ⟨g, F, _, _, _, _, hc, _, _, hb, hv⟩ := h.some (by omega)
  rw [← hv i hi t ht]
  exact hb _ (by omega)
end Go.Proofs.YtjmmmggnbndolaaGreat
