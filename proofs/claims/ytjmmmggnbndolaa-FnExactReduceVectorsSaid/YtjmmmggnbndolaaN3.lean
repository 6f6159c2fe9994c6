/- Lists of vectors that callers give: checked, and reduced, by both programs. -/
import Derived.Test.YtjmmmggnbndolaaN2
import Derived.Test.YtjmmmggnbndolaaQ14
import Derived.Test.YtjmmmggnbndolaaQ16
namespace Go.Proofs.Ytjmmmggnbndolaa
open Go.RowKit
set_option linter.unusedSimpArgs false
set_option linter.unusedVariables false
attribute [local irreducible] wpQuiet wpQE

/-! ### the reduced list of what some vectors span, by choice -/
def SpanRed (p : Int) (m : Nat) (g : Nat → Nat → Int) (R : Nat) (h : Nat → Nat → Int) : Prop := (∃ l, Red p 8 R h l) ∧ SameSpan p 8 m g R h
theorem p2of {p : Int} (h : prime31 p = true) : 2 ≤ p := by
  unfold prime31 at h
  simp only [Bool.and_eq_true, decide_eq_true_eq] at h
  exact h.1.1
theorem p31of {p : Int} (h : prime31 p = true) : p ≤ 31 := by
  unfold prime31 at h
  simp only [Bool.and_eq_true, decide_eq_true_eq] at h
  exact h.1.2
theorem span_red_exists {p : Int} {g : Nat → Nat → Int} (hpr : prime31 p = true) : ∀ m, (∀ i, i < m → ∀ t, t < 8 → 0 ≤ g i t ∧ g i t < p) → ∃ R h, SpanRed p m g R h := by
  have hp2 := p2of hpr
  have hp : 0 < p := by omega
  intro m
  induction m with
  | zero => exact fun _ => ⟨0, g, ⟨fun _ => 0, red_none⟩, same_none⟩
  | succ m ih =>
    intro hg
    obtain ⟨R, h, ⟨l, hR⟩, hS⟩ := ih fun i hi => hg i (by omega)
    have base := same_trans (snoc_succ (p := p) (N := 8) (i := m) (g := g)) (snoc_congr hS)
    cases hz : segEq 0 8 (byG p h l (g m) R) zf
    · obtain ⟨q, hq, hlow, hne⟩ := first_place hz
      obtain ⟨k, _, _, _, _, _, hPR, hPS⟩ := put_facts hpr hp hR (hg m (by omega)) hq hlow hne
      exact ⟨_, _, ⟨_, hPR⟩, same_trans base hPS⟩
    · have HS := snoc_same ((by_zero_iff hp hR.ech (hg m (by omega))).1 fun t ht => by have := (segEq_iff 0 8 _ _).1 hz t ht; rw [Nat.zero_add] at this; exact this)
      exact ⟨R, h, ⟨l, hR⟩, same_trans base HS⟩
open Classical in
noncomputable def sgN (p : Int) (m : Nat) (g : Nat → Nat → Int) : Nat := if h : ∃ R h, SpanRed p m g R h then h.choose else 0
open Classical in
noncomputable def sgG (p : Int) (m : Nat) (g : Nat → Nat → Int) : Nat → Nat → Int := if h : ∃ R h, SpanRed p m g R h then h.choose_spec.choose else fun _ _ => 0
theorem sg_any {p : Int} {m : Nat} {g : Nat → Nat → Int} {R : Nat} {h : Nat → Nat → Int} (hh : SpanRed p m g R h) : SpanRed p m g (sgN p m g) (sgG p m g) := by
  have h1 : ∃ R h, SpanRed p m g R h := ⟨R, h, hh⟩
  unfold sgN sgG
  rw [dif_pos h1, dif_pos h1]
  exact h1.choose_spec.choose_spec
theorem sg_yes {p : Int} {m : Nat} {g : Nat → Nat → Int} (hpr : prime31 p = true) (hg : ∀ i, i < m → ∀ t, t < 8 → 0 ≤ g i t ∧ g i t < p) : SpanRed p m g (sgN p m g) (sgG p m g) := by
  obtain ⟨R, h, hh⟩ := span_red_exists hpr m hg
  exact sg_any hh
theorem sg_of {p : Int} {m : Nat} {g : Nat → Nat → Int} {R : Nat} {h : Nat → Nat → Int} (h2 : 2 ≤ p) (hh : SpanRed p m g R h) : R = sgN p m g ∧ ∀ i, i < R → ∀ t, t < 8 → h i t = sgG p m g i t := by
  obtain ⟨⟨l', h6⟩, h7⟩ := sg_any hh
  obtain ⟨⟨l, h4⟩, h5⟩ := hh
  exact red_unique h2 h4 h6 (same_trans (same_symm h5) h7)
theorem sg_same {p : Int} {m k : Nat} {g h : Nat → Nat → Int} (hpr : prime31 p = true) (hg : ∀ i, i < m → ∀ t, t < 8 → 0 ≤ g i t ∧ g i t < p) (hs : SameSpan p 8 m g k h) : sgN p m g = sgN p k h ∧ ∀ i, i < sgN p m g → ∀ t, t < 8 → sgG p m g i t = sgG p k h i t := by
  obtain ⟨hl, hS⟩ := sg_yes hpr hg
  exact sg_of (p2of hpr) ⟨hl, same_trans (same_symm hs) hS⟩
theorem sg_le (p : Int) (m : Nat) (g : Nat → Nat → Int) : sgN p m g ≤ 8 := by
  unfold sgN
  split
  · rename_i h
    obtain ⟨⟨l, hl⟩, _⟩ := h.choose_spec.choose_spec
    exact red_le hl
  · omega
theorem sg_range {p : Int} {m : Nat} {g : Nat → Nat → Int} (hpr : prime31 p = true) (hg : ∀ i, i < m → ∀ t, t < 8 → 0 ≤ g i t ∧ g i t < p) : ∀ i, i < sgN p m g → ∀ t, t < 8 → 0 ≤ sgG p m g i t ∧ sgG p m g i t < p := by
  obtain ⟨⟨l, hl⟩, _⟩ := sg_yes hpr hg
  exact fun i hi t ht => hl.rng i hi t ht
theorem reduceVectors_sg (p : Int) (B U : Nat) (a : Option Addr) (m c : Nat) (g : Nat → Nat → Int) (w : World) (hp : 0 < p) (hp' : p ≤ 255) (hpr : prime31 p = true) (hm : m ≤ 1000000) (hU : U ≤ w.heap.size) (hBU : B ≤ U) (hg : ∀ i, i < m → ∀ t, t < 8 → 0 ≤ g i t ∧ g i t < p) (hL : VL w B U a m c g) :
    Calls Try.prog 26 #[.int .i64 p, .slice a m c] w fun e w' => ∃ a c, e = .returned (.slice a (sgN p m g) c) ∧ Below w.heap.size w w' ∧ VL w' w.heap.size w'.heap.size a (sgN p m g) c (sgG p m g) := by
  obtain ⟨⟨l, hl⟩, hS⟩ := sg_yes hpr hg
  exact reduceVectors_any p B U a m c _ g _ l w hp hp' hpr hm hU hBU hg hl hS hL
theorem l01Reduce_sg (p : Int) (B U : Nat) (a : Option Addr) (m c : Nat) (g : Nat → Nat → Int) (w : World) (hp : 0 < p) (hp' : p ≤ 255) (hpr : prime31 p = true) (hm : m ≤ 1000000) (hU : U ≤ w.heap.size) (hBU : B ≤ U) (hg : ∀ i, i < m → ∀ t, t < 8 → 0 ≤ g i t ∧ g i t < p) (hL : VL w B U a m c g) :
    Calls Try.prog 23 #[.int .i64 p, .slice a m c] w fun e w' => ∃ a c, e = .returned (.slice a (sgN p m g) c) ∧ Below w.heap.size w w' ∧ VL w' w.heap.size w'.heap.size a (sgN p m g) c (sgG p m g) :=
  (l01Reduce_any p B U a m c g w hp hp' hpr hm hU hBU hg hL).mono fun e w' hh => by
    obtain ⟨a', m', c', g', rfl, h2, h3, h4, h5⟩ := hh
    obtain ⟨e1, e2⟩ := sg_of (p2of hpr) ⟨h4, h5⟩
    exact ⟨a', c', by rw [e1], h2, h3.same e1 e2⟩
/-! ### all of a list are vectors -/
def okR (p n : Int) (m : Nat) (g : Nat → Nat → Int) : Bool := sizesB p n && allV p n m g
theorem VL.vbytes {w : World} {B U : Nat} {a : Option Addr} {m c : Nat} {f : Nat → Nat → Int} (h : VL w B U a m c f) (i : Nat) (hi : i < m) : Bytes 8 (f i) := fun t ht => by
  obtain ⟨g, F, _, _, _, _, hc, _, _, hb, hv⟩ := h.some (by omega)
  rw [← hv i hi t ht]
  exact hb _ (by omega)
theorem okR_range {p n : Int} {m : Nat} {g : Nat → Nat → Int} (h : allV p n m g = true) (hb : ∀ i, i < m → Bytes 8 (g i)) : ∀ i, i < m → ∀ t, t < 8 → 0 ≤ g i t ∧ g i t < p := fun i hi t ht =>
  ⟨(hb i hi t ht).1, ((vecB_iff p n _).1 (all_get h i hi) t ht).1⟩
noncomputable def rvN (p n : Int) (m : Nat) (g : Nat → Nat → Int) : Nat := match okR p n m g with | true => sgN p m g | false => 0
theorem rv_yes {p n : Int} {m : Nat} {g : Nat → Nat → Int} (h : okR p n m g = true) : rvN p n m g = sgN p m g := by unfold rvN; rw [h]
theorem rv_no {p n : Int} {m : Nat} {g : Nat → Nat → Int} (h : okR p n m g = false) : rvN p n m g = 0 := by unfold rvN; rw [h]
theorem rv_le (p n : Int) (m : Nat) (g : Nat → Nat → Int) : rvN p n m g ≤ 8 := by
  unfold rvN
  split
  · exact sg_le _ _ _
  · omega

set_option maxRecDepth 100000 in
set_option maxHeartbeats 1000000 in
theorem areVectors_vl (p n : Int) (B U : Nat) (a : Option Addr) (m c : Nat) (g : Nat → Nat → Int) (w : World) (hm : m ≤ 1000000) (hU : U ≤ w.heap.size) (hBU : B ≤ U) (hL : VL w B U a m c g) :
    Calls Try.prog 25 #[.int .i64 p, .int .i64 n, .slice a m c] w fun e w' => e = .returned (.bool (okR p n m g)) ∧ Below w.heap.size w w' := by
 have HGB : Hid (∀ i, i < m → Bytes 8 (g i)) := Lib.hid (VL.vbytes hL)
 go_enter Try.func25, Try.ntmps25
 go_wp2
 refine atomW fun W1 e1 => ?_
 have hb1 : Below w.heap.size w W1 := by rw [e1]; exact bt
 have q1 := hb1.size
 have hvL_1 : VL W1 (B) (U) (a) (m) (c) (g) := by rw [e1]; (repeat (first | exact hL | refine VL.alloc ?_ _ | refine VL.drew ?_ | refine VL.setRow ?_ (by omega) _))
 clear e1 hL
 go_loopw [11] (fun s11 wr => ∃ i : Nat, i ≤ m ∧ s11 = .int .i64 i ∧ Below w.heap.size w wr ∧ VL wr (B) (U) (a) (m) (c) (g) ∧ ((B) ≤ (U) ∧ (U) ≤ wr.heap.size) ∧ ∀ x, x < i → (sizesB p n && vecB p n (g x)) = true) (fun s11 _ => m - (intOf s11).toNat)
 case atStart => exact ⟨0, by omega, rfl, hb1, hvL_1, (by omega), fun x hx => by omega⟩
 case round =>
  obtain ⟨i, hle2, rfl, hb2, hvL_2, hUL_2, hx2⟩ := hrel
  obtain ⟨W2, rfl⟩ : ∃ W2 : World, W2 = wr := ⟨_, rfl⟩
  have q2 := hb2.size
  have HX2 := Lib.hid hx2; clear hx2
  clear hb1 hvL_1
  by_cases hlt2 : i < m
  ·
   cases hv : (sizesB p n && vecB p n (g i))
   ·
    obtain ⟨gL_3, FL_3, eaL_3, gBL_3, gUL_3, rLx_3, hcL_3, hmL_3, cLx_3, hFbL_3, hFL_3⟩ := hvL_2.some (by omega)
    cases eaL_3
    have HFL_3 := Lib.hid hFL_3; clear hFL_3
    have HBL_3 := Lib.hid hFbL_3; clear hFbL_3
    have zLx_3 := isRow_lt rLx_3
    have HRW : Hid (row 8 (fun t => FL_3 (i * 8 + t)) = row 8 (g i)) := Lib.hid (row_congr fun t ht => HFL_3.out i (by omega) t ht)
    have hrow := HRW.out
    have HGi : Hid (Bytes 8 (g i)) := Lib.hid (HGB.out i hlt2)
    have hc1 : i * 8 + 8 ≤ c * 8 := by omega
    have H : Hid (okR p n m g = false) := Lib.hid (by unfold okR allV; cases hs : sizesB p n; rfl; rw [hs, Bool.true_and] at hv; rw [all_no (q := fun i => vecB p n (g i)) i m hlt2 hv]; rfl)
    go_wp2_with fail
    have nwLx_W2_0 : (gL_3) ≠ W2.heap.size := by omega
    refine atomC fun W4 e4 => ?_
    have hb4 : Below w.heap.size w W4 := by rw [e4]; exact bt
    have q4 := hb4.size
    have rLx_4 : IsRow W4 (gL_3) := by rw [e4]; simp [go_sem, rLx_3, cLx_3, nwLx_W2_0]
    have cLx_4 := congrArg (fun x => blk x (gL_3)) e4; simp [go_sem, rLx_3, cLx_3, nwLx_W2_0] at cLx_4
    have zLx_4 := isRow_lt rLx_4
    have hvL_4 : VL W4 (B) (U) (some ⟨gL_3, 0, none⟩) (m) (c) (g) := by rw [e4]; exact vtV
    clear e4 nwLx_W2_0 rLx_3 cLx_3 zLx_3 hvL_2 hb2
    refine (isVector_any p n (g i) _ HGi.out).mono ?_; rintro _ W5 ⟨rfl, hw5⟩
    obtain ⟨rLx_5, cLx_5, zLx_5⟩ := keepZ hw5 zLx_4 rLx_4 cLx_4
    obtain ⟨hb5, q5⟩ := bN hb4 hw5
    have sz5 := hw5.size
    have hvL_5 := hvL_4.below hw5 (by omega)
    clear hw5 hvL_4 rLx_4 cLx_4 zLx_4 hb4
    go_wp2_with fail
    go_ret
    exact ⟨ret_bool (by rw [H.out]), bt⟩
   ·
    obtain ⟨gL_6, FL_6, eaL_6, gBL_6, gUL_6, rLx_6, hcL_6, hmL_6, cLx_6, hFbL_6, hFL_6⟩ := hvL_2.some (by omega)
    cases eaL_6
    have HFL_6 := Lib.hid hFL_6; clear hFL_6
    have HBL_6 := Lib.hid hFbL_6; clear hFbL_6
    have zLx_6 := isRow_lt rLx_6
    have HRW : Hid (row 8 (fun t => FL_6 (i * 8 + t)) = row 8 (g i)) := Lib.hid (row_congr fun t ht => HFL_6.out i (by omega) t ht)
    have hrow := HRW.out
    have HGi : Hid (Bytes 8 (g i)) := Lib.hid (HGB.out i hlt2)
    have hc1 : i * 8 + 8 ≤ c * 8 := by omega
    have H := Lib.hid (upto_more (q := fun i => sizesB p n && vecB p n (g i)) HX2.out hv)
    go_wp2_with fail
    have nwLx_W2_0 : (gL_6) ≠ W2.heap.size := by omega
    refine atomC fun W7 e7 => ?_
    have hb7 : Below w.heap.size w W7 := by rw [e7]; exact bt
    have q7 := hb7.size
    have rLx_7 : IsRow W7 (gL_6) := by rw [e7]; simp [go_sem, rLx_6, cLx_6, nwLx_W2_0]
    have cLx_7 := congrArg (fun x => blk x (gL_6)) e7; simp [go_sem, rLx_6, cLx_6, nwLx_W2_0] at cLx_7
    have zLx_7 := isRow_lt rLx_7
    have hvL_7 : VL W7 (B) (U) (some ⟨gL_6, 0, none⟩) (m) (c) (g) := by rw [e7]; exact vtV
    clear e7 nwLx_W2_0 rLx_6 cLx_6 zLx_6 hvL_2 hb2
    refine (isVector_any p n (g i) _ HGi.out).mono ?_; rintro _ W8 ⟨rfl, hw8⟩
    obtain ⟨rLx_8, cLx_8, zLx_8⟩ := keepZ hw8 zLx_7 rLx_7 cLx_7
    obtain ⟨hb8, q8⟩ := bN hb7 hw8
    have sz8 := hw8.size
    have hvL_8 := hvL_7.below hw8 (by omega)
    clear hw8 hvL_7 rLx_7 cLx_7 zLx_7 hb7
    go_wp2
    go_roundw
    case rel => exact ⟨i + 1, by omega, by go_num, bt, vtV, bu, H.out⟩
    case measure => simp [intOf]; try omega
  ·
   obtain rfl : m = i := by omega
   have H : Hid (okR p n m g = sizesB p n) := Lib.hid (by unfold okR allV; cases hs : sizesB p n; rfl; rw [all_yes (q := fun i => vecB p n (g i)) m fun i hi => by have := HX2.out i hi; rw [hs, Bool.true_and] at this; exact this]; rfl)
   go_wp2_with fail
   refine (isField_any _ _ _).mono ?_; rintro _ _ ⟨rfl, rfl⟩
   go_wp2_with fail
   go_ret
   exact ⟨ret_bool (by rw [H.out]), bt⟩

set_option maxRecDepth 100000 in
set_option maxHeartbeats 1000000 in
theorem l01Many_vl (p n : Int) (B U : Nat) (a : Option Addr) (m c : Nat) (g : Nat → Nat → Int) (w : World) (hm : m ≤ 1000000) (hU : U ≤ w.heap.size) (hBU : B ≤ U) (hL : VL w B U a m c g) :
    Calls Try.prog 22 #[.int .i64 p, .int .i64 n, .slice a m c] w fun e w' => e = .returned (.int .i64 (codeB (okR p n m g))) ∧ Below w.heap.size w w' := by
 have HGB : Hid (∀ i, i < m → Bytes 8 (g i)) := Lib.hid (VL.vbytes hL)
 cases hs : sizesB p n
 ·
  have H : Hid (okR p n m g = false) := Lib.hid (by unfold okR; rw [hs]; rfl)
  go_enter Try.func22, Try.ntmps22
  go_wp2_with fail
  refine atomC fun W1 e1 => ?_
  have hb1 : Below w.heap.size w W1 := by rw [e1]; exact bt
  have q1 := hb1.size
  have hvL_1 : VL W1 (B) (U) (a) (m) (c) (g) := by rw [e1]; (repeat (first | exact hL | refine VL.alloc ?_ _ | refine VL.drew ?_ | refine VL.setRow ?_ (by omega) _))
  clear e1 hL
  refine (l01Sizes_any _ _ _).mono ?_; rintro _ _ ⟨rfl, rfl⟩
  go_wp2_with fail
  go_ret
  exact ⟨ret_int (by rw [H.out]; rfl), bt⟩
 ·
  go_enter Try.func22, Try.ntmps22
  go_wp2_with fail
  refine atomC fun W2 e2 => ?_
  have hb2 : Below w.heap.size w W2 := by rw [e2]; exact bt
  have q2 := hb2.size
  have hvL_2 : VL W2 (B) (U) (a) (m) (c) (g) := by rw [e2]; (repeat (first | exact hL | refine VL.alloc ?_ _ | refine VL.drew ?_ | refine VL.setRow ?_ (by omega) _))
  clear e2 hL
  refine (l01Sizes_any _ _ _).mono ?_; rintro _ _ ⟨rfl, rfl⟩
  go_wp2
  go_loopw [7] (fun s7 wr => ∃ i : Nat, i ≤ m ∧ s7 = .int .i64 i ∧ Below w.heap.size w wr ∧ VL wr (B) (U) (a) (m) (c) (g) ∧ ((B) ≤ (U) ∧ (U) ≤ wr.heap.size) ∧ ∀ x, x < i → vecB p n (g x) = true) (fun s7 _ => m - (intOf s7).toNat)
  case atStart => exact ⟨0, by omega, rfl, hb2, hvL_2, (by omega), fun x hx => by omega⟩
  case round =>
   obtain ⟨i, hle3, rfl, hb3, hvL_3, hUL_3, hx3⟩ := hrel
   obtain ⟨W3, rfl⟩ : ∃ W3 : World, W3 = wr := ⟨_, rfl⟩
   have q3 := hb3.size
   have HX3 := Lib.hid hx3; clear hx3
   clear hb2 hvL_2
   by_cases hlt3 : i < m
   ·
    cases hv : vecB p n (g i)
    ·
     obtain ⟨gL_4, FL_4, eaL_4, gBL_4, gUL_4, rLx_4, hcL_4, hmL_4, cLx_4, hFbL_4, hFL_4⟩ := hvL_3.some (by omega)
     cases eaL_4
     have HFL_4 := Lib.hid hFL_4; clear hFL_4
     have HBL_4 := Lib.hid hFbL_4; clear hFbL_4
     have zLx_4 := isRow_lt rLx_4
     have HRW : Hid (row 8 (fun t => FL_4 (i * 8 + t)) = row 8 (g i)) := Lib.hid (row_congr fun t ht => HFL_4.out i (by omega) t ht)
     have hrow := HRW.out
     have HGi : Hid (Bytes 8 (g i)) := Lib.hid (HGB.out i hlt3)
     have hc1 : i * 8 + 8 ≤ c * 8 := by omega
     have H : Hid (okR p n m g = false) := Lib.hid (by unfold okR allV; rw [all_no (q := fun i => vecB p n (g i)) i m hlt3 hv, Bool.and_false])
     go_wp2_with fail
     refine (l01Vector_any p n (g i) _ HGi.out).mono ?_; rintro _ W5 ⟨rfl, hw5⟩
     obtain ⟨rLx_5, cLx_5, zLx_5⟩ := keepZ hw5 zLx_4 rLx_4 cLx_4
     obtain ⟨hb5, q5⟩ := bN hb3 hw5
     have sz5 := hw5.size
     have hvL_5 := hvL_3.below hw5 (by omega)
     clear hw5 hvL_3 rLx_4 cLx_4 zLx_4 hb3
     go_wp2_with fail
     go_ret
     exact ⟨ret_int (by rw [H.out]; rfl), bt⟩
    ·
     obtain ⟨gL_6, FL_6, eaL_6, gBL_6, gUL_6, rLx_6, hcL_6, hmL_6, cLx_6, hFbL_6, hFL_6⟩ := hvL_3.some (by omega)
     cases eaL_6
     have HFL_6 := Lib.hid hFL_6; clear hFL_6
     have HBL_6 := Lib.hid hFbL_6; clear hFbL_6
     have zLx_6 := isRow_lt rLx_6
     have HRW : Hid (row 8 (fun t => FL_6 (i * 8 + t)) = row 8 (g i)) := Lib.hid (row_congr fun t ht => HFL_6.out i (by omega) t ht)
     have hrow := HRW.out
     have HGi : Hid (Bytes 8 (g i)) := Lib.hid (HGB.out i hlt3)
     have hc1 : i * 8 + 8 ≤ c * 8 := by omega
     have H := Lib.hid (upto_more (q := fun i => vecB p n (g i)) HX3.out hv)
     go_wp2_with fail
     refine (l01Vector_any p n (g i) _ HGi.out).mono ?_; rintro _ W7 ⟨rfl, hw7⟩
     obtain ⟨rLx_7, cLx_7, zLx_7⟩ := keepZ hw7 zLx_6 rLx_6 cLx_6
     obtain ⟨hb7, q7⟩ := bN hb3 hw7
     have sz7 := hw7.size
     have hvL_7 := hvL_3.below hw7 (by omega)
     clear hw7 hvL_3 rLx_6 cLx_6 zLx_6 hb3
     go_wp2
     go_roundw
     case rel => exact ⟨i + 1, by omega, by go_num, bt, vtV, bu, H.out⟩
     case measure => simp [intOf]; try omega
   ·
    obtain rfl : m = i := by omega
    have H : Hid (okR p n m g = true) := Lib.hid (by unfold okR allV; rw [hs, all_yes (q := fun i => vecB p n (g i)) m HX3.out]; rfl)
    go_wp2_with fail
    go_ret
    exact ⟨ret_int (by rw [H.out]; rfl), bt⟩

set_option maxRecDepth 100000 in
set_option maxHeartbeats 1000000 in
theorem implReduceVectors_any (p n : Int) (B U : Nat) (a : Option Addr) (m c : Nat) (g : Nat → Nat → Int) (w : World) (hm : m ≤ 1000000) (hU : U ≤ w.heap.size) (hBU : B ≤ U) (hL : VL w B U a m c g) :
    Calls Try.prog 9 #[.int .i64 p, .int .i64 n, .slice a m c] w fun e w' => ∃ a c, e = .returned (.tuple #[.slice a (rvN p n m g) c, .int .i64 (codeB (okR p n m g))]) ∧ Below w.heap.size w w' ∧ VL w' w.heap.size w'.heap.size a (rvN p n m g) c (sgG p m g) := by
 have HGB : Hid (∀ i, i < m → Bytes 8 (g i)) := Lib.hid (VL.vbytes hL)
 cases hc : okR p n m g
 ·
  have HR := Lib.hid (rv_no hc)
  have HC := Lib.hid hc
  go_enter Try.func9, Try.ntmps9
  go_wp2_with fail
  refine atomC fun W1 e1 => ?_
  have hb1 : Below w.heap.size w W1 := by rw [e1]; exact bt
  have q1 := hb1.size
  have sz1 : w.heap.size ≤ W1.heap.size := by rw [e1]; first | omega | (simp; done) | (simp; omega)
  have hvL_1 : VL W1 (B) (U) (a) (m) (c) (g) := by rw [e1]; (repeat (first | exact hL | refine VL.alloc ?_ _ | refine VL.drew ?_ | refine VL.setRow ?_ (by omega) _))
  clear e1 hL
  refine (areVectors_vl p n B U a m c g _ hm (by omega) hBU hvL_1).mono ?_; rintro _ W2 ⟨rfl, hw2⟩
  obtain ⟨hb2, q2⟩ := bN hb1 hw2
  have sz2 := hw2.size
  have hvL_2 := hvL_1.below hw2 (by omega)
  clear hw2 hvL_1 hb1
  go_wp2_with fail
  go_ret2
  exact ⟨none, 0, by rw [HR.out]; rfl, bt, VL.nilOf (HR.out)⟩
 ·
  have HC := Lib.hid hc
  have HY := Lib.hid (rv_yes hc)
  have hc0 := hc
  unfold okR at hc0
  rw [Bool.and_eq_true] at hc0
  obtain ⟨hsz, hall⟩ := hc0
  have Hpr : Hid (prime31 p = true) := Lib.hid (by unfold sizesB at hsz; simp only [Bool.and_eq_true] at hsz; exact hsz.1)
  have hp2 := p2of Hpr.out
  have hp31 := p31of Hpr.out
  have hp : 0 < p := by omega
  have hp' : p ≤ 255 := by omega
  have HRg := Lib.hid (okR_range hall HGB.out)
  clear hsz hall
  go_enter Try.func9, Try.ntmps9
  go_wp2_with fail
  refine atomC fun W3 e3 => ?_
  have hb3 : Below w.heap.size w W3 := by rw [e3]; exact bt
  have q3 := hb3.size
  have sz3 : w.heap.size ≤ W3.heap.size := by rw [e3]; first | omega | (simp; done) | (simp; omega)
  have hvL_3 : VL W3 (B) (U) (a) (m) (c) (g) := by rw [e3]; (repeat (first | exact hL | refine VL.alloc ?_ _ | refine VL.drew ?_ | refine VL.setRow ?_ (by omega) _))
  clear e3 hL
  refine (areVectors_vl p n B U a m c g _ hm (by omega) hBU hvL_3).mono ?_; rintro _ W4 ⟨rfl, hw4⟩
  obtain ⟨hb4, q4⟩ := bN hb3 hw4
  have sz4 := hw4.size
  have hvL_4 := hvL_3.below hw4 (by omega)
  clear hw4 hvL_3 hb3
  go_wp2_with fail
  refine (reduceVectors_sg p B U a m c g _ hp hp' Hpr.out hm (by omega) hBU HRg.out hvL_4).mono ?_; rintro _ W5 ⟨aK_5, cK_5, rfl, hw5, hvK_5⟩
  obtain ⟨hb5, q5⟩ := bN hb4 hw5
  have sz5 := hw5.size
  have hvL_5 := hvL_4.below hw5 (by omega)
  clear hw5 hvL_4 hb4
  go_wp2_with fail
  go_ret2
  exact ⟨aK_5, cK_5, by rw [HY.out]; rfl, bt, ((hvK_5).same HY.out.symm fun _ _ _ _ => rfl).wider (by omega) (by omega)⟩

set_option maxRecDepth 100000 in
set_option maxHeartbeats 1000000 in
theorem specReduceVectors_any (p n : Int) (B U : Nat) (a : Option Addr) (m c : Nat) (g : Nat → Nat → Int) (w : World) (hm : m ≤ 1000000) (hU : U ≤ w.heap.size) (hBU : B ≤ U) (hL : VL w B U a m c g) :
    Calls Try.prog 7 #[.int .i64 p, .int .i64 n, .slice a m c] w fun e w' => ∃ a c, e = .returned (.tuple #[.slice a (rvN p n m g) c, .int .i64 (codeB (okR p n m g))]) ∧ Below w.heap.size w w' ∧ VL w' w.heap.size w'.heap.size a (rvN p n m g) c (sgG p m g) := by
 have HGB : Hid (∀ i, i < m → Bytes 8 (g i)) := Lib.hid (VL.vbytes hL)
 cases hc : okR p n m g
 ·
  have HR := Lib.hid (rv_no hc)
  have HC := Lib.hid hc
  have hcc : codeB false = 1 := rfl
  go_enter Try.func7, Try.ntmps7
  go_wp2_with fail
  refine atomC fun W1 e1 => ?_
  have hb1 : Below w.heap.size w W1 := by rw [e1]; exact bt
  have q1 := hb1.size
  have sz1 : w.heap.size ≤ W1.heap.size := by rw [e1]; first | omega | (simp; done) | (simp; omega)
  have hvL_1 : VL W1 (B) (U) (a) (m) (c) (g) := by rw [e1]; (repeat (first | exact hL | refine VL.alloc ?_ _ | refine VL.drew ?_ | refine VL.setRow ?_ (by omega) _))
  clear e1 hL
  refine (l01Many_vl p n B U a m c g _ hm (by omega) hBU hvL_1).mono ?_; rintro _ W2 ⟨rfl, hw2⟩
  obtain ⟨hb2, q2⟩ := bN hb1 hw2
  have sz2 := hw2.size
  have hvL_2 := hvL_1.below hw2 (by omega)
  clear hw2 hvL_1 hb1
  go_wp2_with fail
  go_ret2
  exact ⟨none, 0, by rw [HR.out]; rfl, bt, VL.nilOf (HR.out)⟩
 ·
  have HC := Lib.hid hc
  have HY := Lib.hid (rv_yes hc)
  have hc0 := hc
  unfold okR at hc0
  rw [Bool.and_eq_true] at hc0
  obtain ⟨hsz, hall⟩ := hc0
  have Hpr : Hid (prime31 p = true) := Lib.hid (by unfold sizesB at hsz; simp only [Bool.and_eq_true] at hsz; exact hsz.1)
  have hp2 := p2of Hpr.out
  have hp31 := p31of Hpr.out
  have hp : 0 < p := by omega
  have hp' : p ≤ 255 := by omega
  have HRg := Lib.hid (okR_range hall HGB.out)
  clear hsz hall
  have hcc : codeB true = 0 := rfl
  go_enter Try.func7, Try.ntmps7
  go_wp2_with fail
  refine atomC fun W3 e3 => ?_
  have hb3 : Below w.heap.size w W3 := by rw [e3]; exact bt
  have q3 := hb3.size
  have sz3 : w.heap.size ≤ W3.heap.size := by rw [e3]; first | omega | (simp; done) | (simp; omega)
  have hvL_3 : VL W3 (B) (U) (a) (m) (c) (g) := by rw [e3]; (repeat (first | exact hL | refine VL.alloc ?_ _ | refine VL.drew ?_ | refine VL.setRow ?_ (by omega) _))
  clear e3 hL
  refine (l01Many_vl p n B U a m c g _ hm (by omega) hBU hvL_3).mono ?_; rintro _ W4 ⟨rfl, hw4⟩
  obtain ⟨hb4, q4⟩ := bN hb3 hw4
  have sz4 := hw4.size
  have hvL_4 := hvL_3.below hw4 (by omega)
  clear hw4 hvL_3 hb3
  go_wp2_with fail
  refine (l01Reduce_sg p B U a m c g _ hp hp' Hpr.out hm (by omega) hBU HRg.out hvL_4).mono ?_; rintro _ W5 ⟨aK_5, cK_5, rfl, hw5, hvK_5⟩
  obtain ⟨hb5, q5⟩ := bN hb4 hw5
  have sz5 := hw5.size
  have hvL_5 := hvL_4.below hw5 (by omega)
  clear hw5 hvL_4 hb4
  go_wp2_with fail
  go_ret2
  exact ⟨aK_5, cK_5, by rw [HY.out]; rfl, bt, ((hvK_5).same HY.out.symm fun _ _ _ _ => rfl).wider (by omega) (by omega)⟩

end Go.Proofs.Ytjmmmggnbndolaa
