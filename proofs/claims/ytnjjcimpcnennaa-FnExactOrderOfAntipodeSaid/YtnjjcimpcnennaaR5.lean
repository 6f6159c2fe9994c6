/- The first axiom that fails, by the program; Hopf algebras by the program. -/
import Derived.Test.YtnjjcimpcnennaaR4
namespace Go.Proofs.Ytnjjcimpcnennaa
open Go.RowKit
set_option linter.unusedSimpArgs false
set_option linter.unusedVariables false
attribute [local irreducible] wpQuiet wpQE

/-- the number, from k on, of the first that is false, or 0 -/
def axN : List Bool → Int → Int
  | [], _ => 0
  | false :: _, k => k
  | true :: l, k => axN l (k + 1)
def axL (p : Int) (n : Nat) (f : Nat → Int) : List Bool := [algB p n f, coB p n (coF f), ax3B p n f, ax4B p f, ax5B p n f, ax6B p n f, ax7B p n f]
def axAt (p : Int) (n : Nat) (f : Nat → Int) (k : Nat) : Bool := (axL p n f).getD k true
def failN (p : Int) (n : Nat) (f : Nat → Int) : Int := axN (axL p n f) 1
theorem axN_at : ∀ (l : List Bool) (k : Int) (i : Nat), (∀ a, a < i → l.getD a true = true) → l.getD i true = false → axN l k = k + i
  | [], _, i, _, h => by simp at h
  | false :: l, k, 0, _, _ => by simp [axN]
  | true :: l, k, 0, _, h => by simp at h
  | b :: l, k, i + 1, ha, h => by
    have h0 : b = true := by simpa using ha 0 (by omega)
    subst h0
    rw [axN, axN_at l (k + 1) i (fun a hi => by simpa using ha (a + 1) (by omega)) (by simpa using h)]
    omega
theorem axN_none : ∀ (l : List Bool) (k : Int), (∀ a, a < l.length → l.getD a true = true) → axN l k = 0
  | [], _, _ => rfl
  | b :: l, k, h => by
    have h0 : b = true := by simpa using h 0 (by simp)
    subst h0
    rw [axN, axN_none l (k + 1) fun a ha => by simpa using h (a + 1) (by simpa using ha)]
theorem fail_at {p : Int} {n : Nat} {f : Nat → Int} {i : Nat} (ha : ∀ a, a < i → axAt p n f a = true) (h : axAt p n f i = false) : failN p n f = 1 + (i : Int) := axN_at _ 1 i ha h
theorem fail_none {p : Int} {n : Nat} {f : Nat → Int} (ha : ∀ a, a < 7 → axAt p n f a = true) : failN p n f = 0 := axN_none _ 1 ha

/-! ### the array of axioms -/
theorem aggAx : AggT Try.prog 80 7 := ⟨by kernel_rfl, by kernel_rfl⟩
@[go_sem ↓] theorem xstoreAx (ρ : Operand → Value) (dst : Option Tmp) (a x : Operand) (ty : TypeId) (pos : String) (after : Array Edge) (guard : Option (Nat × Bool)) (w : World) :
    (execOp ρ ⟨dst, .store 80 a x, ty, pos, after, guard⟩).run Try.prog w = storeN Try.prog 80 (ρ a) (ρ x) w := rfl
@[go_sem] theorem storeAx (w : World) (b : Nat) (f1 f2 f3 f4 f5 f6 f7 : Fn) (h : Has w b (0 + 7)) :
    storeN Try.prog 80 (.pointer (some ⟨b, 0, none⟩)) (.agg #[.func f1 #[] #[], .func f2 #[] #[], .func f3 #[] #[], .func f4 #[] #[], .func f5 #[] #[], .func f6 #[] #[], .func f7 #[] #[]]) w =
      .ok .skip (w.setRow b (lay (blk w b) 0 #[.func f1 #[] #[], .func f2 #[] #[], .func f3 #[] #[], .func f4 #[] #[], .func f5 #[] #[], .func f6 #[] #[], .func f7 #[] #[]])) := storeN_at aggAx w b 0 _ h rfl (by simp [Value.oneCell'])
@[go_sem ↓] theorem xloadAx (ρ : Operand → Value) (dst : Option Tmp) (a : Operand) (ty : TypeId) (pos : String) (after : Array Edge) (guard : Option (Nat × Bool)) (w : World) :
    (execOp ρ ⟨dst, .load 80 a, ty, pos, after, guard⟩).run Try.prog w = loadN Try.prog 80 (ρ a) w := rfl
@[go_sem] theorem loadAx (w : World) (b off : Nat) (h : Has w b (off + 7)) :
    loadN Try.prog 80 (.pointer (some ⟨b, off, none⟩)) w = .ok (.value (.agg ((blk w b).extract off (off + 7)))) w := loadN_at aggAx w b off h
@[go_sem ↓] theorem xindexAx (ρ : Operand → Value) (dst : Option Tmp) (a x : Operand) (ty : TypeId) (pos : String) (after : Array Edge) (guard : Option (Nat × Bool)) (w : World) :
    (execOp ρ ⟨dst, .index 80 a x, ty, pos, after, guard⟩).run Try.prog w = indexN Try.prog 80 (ρ a) (ρ x) w := rfl
@[go_sem] theorem indexAx0 (f0 f1 f2 f3 f4 f5 f6 : Value) (w : World) : indexN Try.prog 80 (.agg #[f0, f1, f2, f3, f4, f5, f6]) (.int .i64 0) w = .ok (.value f0) w := indexN_one (n := 7) (e := 79) (by kernel_rfl) (by kernel_rfl) (by kernel_rfl) _ _ _ _ (by omega) (by omega) rfl w
@[go_sem] theorem indexAx1 (f0 f1 f2 f3 f4 f5 f6 : Value) (w : World) : indexN Try.prog 80 (.agg #[f0, f1, f2, f3, f4, f5, f6]) (.int .i64 1) w = .ok (.value f1) w := indexN_one (n := 7) (e := 79) (by kernel_rfl) (by kernel_rfl) (by kernel_rfl) _ _ _ _ (by omega) (by omega) rfl w
@[go_sem] theorem indexAx2 (f0 f1 f2 f3 f4 f5 f6 : Value) (w : World) : indexN Try.prog 80 (.agg #[f0, f1, f2, f3, f4, f5, f6]) (.int .i64 2) w = .ok (.value f2) w := indexN_one (n := 7) (e := 79) (by kernel_rfl) (by kernel_rfl) (by kernel_rfl) _ _ _ _ (by omega) (by omega) rfl w
@[go_sem] theorem indexAx3 (f0 f1 f2 f3 f4 f5 f6 : Value) (w : World) : indexN Try.prog 80 (.agg #[f0, f1, f2, f3, f4, f5, f6]) (.int .i64 3) w = .ok (.value f3) w := indexN_one (n := 7) (e := 79) (by kernel_rfl) (by kernel_rfl) (by kernel_rfl) _ _ _ _ (by omega) (by omega) rfl w
@[go_sem] theorem indexAx4 (f0 f1 f2 f3 f4 f5 f6 : Value) (w : World) : indexN Try.prog 80 (.agg #[f0, f1, f2, f3, f4, f5, f6]) (.int .i64 4) w = .ok (.value f4) w := indexN_one (n := 7) (e := 79) (by kernel_rfl) (by kernel_rfl) (by kernel_rfl) _ _ _ _ (by omega) (by omega) rfl w
@[go_sem] theorem indexAx5 (f0 f1 f2 f3 f4 f5 f6 : Value) (w : World) : indexN Try.prog 80 (.agg #[f0, f1, f2, f3, f4, f5, f6]) (.int .i64 5) w = .ok (.value f5) w := indexN_one (n := 7) (e := 79) (by kernel_rfl) (by kernel_rfl) (by kernel_rfl) _ _ _ _ (by omega) (by omega) rfl w
@[go_sem] theorem indexAx6 (f0 f1 f2 f3 f4 f5 f6 : Value) (w : World) : indexN Try.prog 80 (.agg #[f0, f1, f2, f3, f4, f5, f6]) (.int .i64 6) w = .ok (.value f6) w := indexN_one (n := 7) (e := 79) (by kernel_rfl) (by kernel_rfl) (by kernel_rfl) _ _ _ _ (by omega) (by omega) rfl w
theorem lay7 (c cs : Array Value) (hc : c.size = 7) (h : cs.size = 7) : lay c 0 cs = cs := by
  apply Array.ext_getElem?
  intro i
  rw [lay_get _ _ _ _ (by omega)]
  split
  · rfl
  · rw [Array.getElem?_eq_none (by omega), Array.getElem?_eq_none (by omega)]
@[go_sem] theorem lay7_fn (n1 n2 n3 n4 n5 n6 n7 f1 f2 f3 f4 f5 f6 f7 : Value) : lay #[n1, n2, n3, n4, n5, n6, n7] 0 #[f1, f2, f3, f4, f5, f6, f7] = #[f1, f2, f3, f4, f5, f6, f7] := lay7 _ _ rfl rfl

set_option maxRecDepth 100000 in
set_option maxHeartbeats 4000000 in
theorem failingAxiom_any (p : Int) (n : Nat) (f : Nat → Int) (w : World) (hp : 0 < p) (hp' : p ≤ 255) (hn : n ≤ 8) (hF : Bytes 1104 f) :
    Calls Try.prog 37 #[.agg (hop p n f)] w fun e w' => e = .returned (.int .i64 (failN p n f)) ∧ Below w.heap.size w w' := by
  have HF := Lib.hid hF; clear hF
  go_enter Try.func37, Try.ntmps37
  go_wp2
  refine atomW fun W1 e1 => ?_
  have hb1 : Below w.heap.size w W1 := by rw [e1]; (repeat (first | exact Below.refl _ _ | refine Below.alloc ?_ (by first | omega | (simp; try omega)) _ | refine below_setRow ?_ (by omega) _ | refine Below.drew ?_))
  have q1 := hb1.size
  have r1_1 : IsRow W1 (w.heap.size) := by rw [e1]; simp [go_sem]
  have c1_1 := congrArg (fun x => blk x (w.heap.size)) e1; simp [go_sem] at c1_1
  have z1_1 := isRow_lt r1_1
  clear e1
  go_loopw [8] (fun s8 wr => ∃ i : Nat, i ≤ 7 ∧ s8 = .int .i64 i ∧ Below w.heap.size w wr ∧ (IsRow wr (w.heap.size) ∧ blk wr (w.heap.size) = blk W1 (w.heap.size)) ∧ ∀ a, a < i → axAt p n f a = true) (fun s8 _ => 7 - (intOf s8).toNat)
  case atStart => exact ⟨0, by omega, rfl, hb1, ⟨r1_1, rfl⟩, fun a ha => by omega⟩
  case round =>
    obtain ⟨i, hle2, rfl, hb2, ⟨r1_2, c1_2⟩, hx2⟩ := hrel
    obtain ⟨W2, rfl⟩ : ∃ W2 : World, W2 = wr := ⟨_, rfl⟩
    have q2 := hb2.size
    have HX2 := Lib.hid hx2; clear hx2
    have E1_2 := Lib.hid c1_1; replace c1_2 := c1_2.trans c1_1
    have z1_2 := isRow_lt r1_2
    clear r1_1 c1_1 z1_1 hb1
    by_cases hlt2 : i < 7
    · skip
      have i0_2 : (0 : Int) ≤ (i : Int) := by omega
      have i8_2 : (i : Int) < 7 := by omega
      have k8_2 : i < 7 := by omega
      by_cases hi0 : i = 0
      · skip
        subst hi0
        cases h0 : axAt p n f 0
        · skip
          have h1 : algB p n f = false := h0
          have H := Lib.hid (fail_at HX2.out h0)
          go_wp2_with fail
          refine (isAlgebraOfHopf_any _ _ _ _ HF.out).mono ?_; rintro _ W3 ⟨rfl, hw3⟩
          obtain ⟨r1_3, c1_3⟩ := keepB hw3 z1_2 r1_2 c1_2
          have z1_3 := isRow_lt r1_3
          have hb3 := hb2.trans (hw3.mono hb2.size)
          have q3 := hb3.size
          clear hw3 r1_2 c1_2 z1_2 hb2
          go_wp2_with fail
          go_ret
          exact ⟨ret_int (by rw [H.out]; rfl), (by (repeat (first | exact hb3 | exact Below.refl _ _ | refine Below.alloc ?_ (by first | omega | (simp; try omega)) _ | refine below_setRow ?_ (by omega) _ | refine Below.drew ?_)))⟩
        · skip
          have h1 : algB p n f = true := h0
          have H := Lib.hid (upto_more (q := axAt p n f) HX2.out h0)
          go_wp2_with fail
          refine (isAlgebraOfHopf_any _ _ _ _ HF.out).mono ?_; rintro _ W4 ⟨rfl, hw4⟩
          obtain ⟨r1_4, c1_4⟩ := keepB hw4 z1_2 r1_2 c1_2
          have z1_4 := isRow_lt r1_4
          have hb4 := hb2.trans (hw4.mono hb2.size)
          have q4 := hb4.size
          clear hw4 r1_2 c1_2 z1_2 hb2
          go_wp2
          go_roundw
          case rel => exact ⟨0 + 1, by omega, by go_num, (by (repeat (first | exact hb4 | exact Below.refl _ _ | refine Below.alloc ?_ (by first | omega | (simp; try omega)) _ | refine below_setRow ?_ (by omega) _ | refine Below.drew ?_))), ⟨by simp [go_sem, r1_4, c1_4], (by rw [E1_2.out]; first | exact c1_4 | (simp [go_sem, r1_4, c1_4]; done))⟩, H.out⟩
          case measure => simp [intOf]; try omega
      · skip
        by_cases hi1 : i = 1
        · skip
          subst hi1
          cases h0 : axAt p n f 1
          · skip
            have h1 : coB p n (coF f) = false := h0
            have H := Lib.hid (fail_at HX2.out h0)
            go_wp2_with fail
            refine (isCoalgebraOfHopf_any _ _ _ _ HF.out).mono ?_; rintro _ W5 ⟨rfl, hw5⟩
            obtain ⟨r1_5, c1_5⟩ := keepB hw5 z1_2 r1_2 c1_2
            have z1_5 := isRow_lt r1_5
            have hb5 := hb2.trans (hw5.mono hb2.size)
            have q5 := hb5.size
            clear hw5 r1_2 c1_2 z1_2 hb2
            go_wp2_with fail
            go_ret
            exact ⟨ret_int (by rw [H.out]; rfl), (by (repeat (first | exact hb5 | exact Below.refl _ _ | refine Below.alloc ?_ (by first | omega | (simp; try omega)) _ | refine below_setRow ?_ (by omega) _ | refine Below.drew ?_)))⟩
          · skip
            have h1 : coB p n (coF f) = true := h0
            have H := Lib.hid (upto_more (q := axAt p n f) HX2.out h0)
            go_wp2_with fail
            refine (isCoalgebraOfHopf_any _ _ _ _ HF.out).mono ?_; rintro _ W6 ⟨rfl, hw6⟩
            obtain ⟨r1_6, c1_6⟩ := keepB hw6 z1_2 r1_2 c1_2
            have z1_6 := isRow_lt r1_6
            have hb6 := hb2.trans (hw6.mono hb2.size)
            have q6 := hb6.size
            clear hw6 r1_2 c1_2 z1_2 hb2
            go_wp2
            go_roundw
            case rel => exact ⟨1 + 1, by omega, by go_num, (by (repeat (first | exact hb6 | exact Below.refl _ _ | refine Below.alloc ?_ (by first | omega | (simp; try omega)) _ | refine below_setRow ?_ (by omega) _ | refine Below.drew ?_))), ⟨by simp [go_sem, r1_6, c1_6], (by rw [E1_2.out]; first | exact c1_6 | (simp [go_sem, r1_6, c1_6]; done))⟩, H.out⟩
            case measure => simp [intOf]; try omega
        · skip
          by_cases hi2 : i = 2
          · skip
            subst hi2
            cases h0 : axAt p n f 2
            · skip
              have h1 : ax3B p n f = false := h0
              have H := Lib.hid (fail_at HX2.out h0)
              go_wp2_with fail
              refine (coproductKeepsProducts_any p n f _ hp hp' hn HF.out).mono ?_; rintro _ W7 ⟨rfl, hw7⟩
              obtain ⟨r1_7, c1_7⟩ := keepB hw7 z1_2 r1_2 c1_2
              have z1_7 := isRow_lt r1_7
              have hb7 := hb2.trans (hw7.mono hb2.size)
              have q7 := hb7.size
              clear hw7 r1_2 c1_2 z1_2 hb2
              go_wp2_with fail
              go_ret
              exact ⟨ret_int (by rw [H.out]; rfl), (by (repeat (first | exact hb7 | exact Below.refl _ _ | refine Below.alloc ?_ (by first | omega | (simp; try omega)) _ | refine below_setRow ?_ (by omega) _ | refine Below.drew ?_)))⟩
            · skip
              have h1 : ax3B p n f = true := h0
              have H := Lib.hid (upto_more (q := axAt p n f) HX2.out h0)
              go_wp2_with fail
              refine (coproductKeepsProducts_any p n f _ hp hp' hn HF.out).mono ?_; rintro _ W8 ⟨rfl, hw8⟩
              obtain ⟨r1_8, c1_8⟩ := keepB hw8 z1_2 r1_2 c1_2
              have z1_8 := isRow_lt r1_8
              have hb8 := hb2.trans (hw8.mono hb2.size)
              have q8 := hb8.size
              clear hw8 r1_2 c1_2 z1_2 hb2
              go_wp2
              go_roundw
              case rel => exact ⟨2 + 1, by omega, by go_num, (by (repeat (first | exact hb8 | exact Below.refl _ _ | refine Below.alloc ?_ (by first | omega | (simp; try omega)) _ | refine below_setRow ?_ (by omega) _ | refine Below.drew ?_))), ⟨by simp [go_sem, r1_8, c1_8], (by rw [E1_2.out]; first | exact c1_8 | (simp [go_sem, r1_8, c1_8]; done))⟩, H.out⟩
              case measure => simp [intOf]; try omega
          · skip
            by_cases hi3 : i = 3
            · skip
              subst hi3
              cases h0 : axAt p n f 3
              · skip
                have h1 : ax4B p f = false := h0
                have H := Lib.hid (fail_at HX2.out h0)
                go_wp2_with fail
                refine (coproductKeepsUnit_any p n f _ hp hp' hn HF.out).mono ?_; rintro _ W9 ⟨rfl, hw9⟩
                obtain ⟨r1_9, c1_9⟩ := keepB hw9 z1_2 r1_2 c1_2
                have z1_9 := isRow_lt r1_9
                have hb9 := hb2.trans (hw9.mono hb2.size)
                have q9 := hb9.size
                clear hw9 r1_2 c1_2 z1_2 hb2
                go_wp2_with fail
                go_ret
                exact ⟨ret_int (by rw [H.out]; rfl), (by (repeat (first | exact hb9 | exact Below.refl _ _ | refine Below.alloc ?_ (by first | omega | (simp; try omega)) _ | refine below_setRow ?_ (by omega) _ | refine Below.drew ?_)))⟩
              · skip
                have h1 : ax4B p f = true := h0
                have H := Lib.hid (upto_more (q := axAt p n f) HX2.out h0)
                go_wp2_with fail
                refine (coproductKeepsUnit_any p n f _ hp hp' hn HF.out).mono ?_; rintro _ W10 ⟨rfl, hw10⟩
                obtain ⟨r1_10, c1_10⟩ := keepB hw10 z1_2 r1_2 c1_2
                have z1_10 := isRow_lt r1_10
                have hb10 := hb2.trans (hw10.mono hb2.size)
                have q10 := hb10.size
                clear hw10 r1_2 c1_2 z1_2 hb2
                go_wp2
                go_roundw
                case rel => exact ⟨3 + 1, by omega, by go_num, (by (repeat (first | exact hb10 | exact Below.refl _ _ | refine Below.alloc ?_ (by first | omega | (simp; try omega)) _ | refine below_setRow ?_ (by omega) _ | refine Below.drew ?_))), ⟨by simp [go_sem, r1_10, c1_10], (by rw [E1_2.out]; first | exact c1_10 | (simp [go_sem, r1_10, c1_10]; done))⟩, H.out⟩
                case measure => simp [intOf]; try omega
            · skip
              by_cases hi4 : i = 4
              · skip
                subst hi4
                cases h0 : axAt p n f 4
                · skip
                  have h1 : ax5B p n f = false := h0
                  have H := Lib.hid (fail_at HX2.out h0)
                  go_wp2_with fail
                  refine (counitKeepsProducts_any p n f _ hp hp' hn HF.out).mono ?_; rintro _ W11 ⟨rfl, hw11⟩
                  obtain ⟨r1_11, c1_11⟩ := keepB hw11 z1_2 r1_2 c1_2
                  have z1_11 := isRow_lt r1_11
                  have hb11 := hb2.trans (hw11.mono hb2.size)
                  have q11 := hb11.size
                  clear hw11 r1_2 c1_2 z1_2 hb2
                  go_wp2_with fail
                  go_ret
                  exact ⟨ret_int (by rw [H.out]; rfl), (by (repeat (first | exact hb11 | exact Below.refl _ _ | refine Below.alloc ?_ (by first | omega | (simp; try omega)) _ | refine below_setRow ?_ (by omega) _ | refine Below.drew ?_)))⟩
                · skip
                  have h1 : ax5B p n f = true := h0
                  have H := Lib.hid (upto_more (q := axAt p n f) HX2.out h0)
                  go_wp2_with fail
                  refine (counitKeepsProducts_any p n f _ hp hp' hn HF.out).mono ?_; rintro _ W12 ⟨rfl, hw12⟩
                  obtain ⟨r1_12, c1_12⟩ := keepB hw12 z1_2 r1_2 c1_2
                  have z1_12 := isRow_lt r1_12
                  have hb12 := hb2.trans (hw12.mono hb2.size)
                  have q12 := hb12.size
                  clear hw12 r1_2 c1_2 z1_2 hb2
                  go_wp2
                  go_roundw
                  case rel => exact ⟨4 + 1, by omega, by go_num, (by (repeat (first | exact hb12 | exact Below.refl _ _ | refine Below.alloc ?_ (by first | omega | (simp; try omega)) _ | refine below_setRow ?_ (by omega) _ | refine Below.drew ?_))), ⟨by simp [go_sem, r1_12, c1_12], (by rw [E1_2.out]; first | exact c1_12 | (simp [go_sem, r1_12, c1_12]; done))⟩, H.out⟩
                  case measure => simp [intOf]; try omega
              · skip
                by_cases hi5 : i = 5
                · skip
                  subst hi5
                  cases h0 : axAt p n f 5
                  · skip
                    have h1 : ax6B p n f = false := h0
                    have H := Lib.hid (fail_at HX2.out h0)
                    go_wp2_with fail
                    refine (antipodeInvertsOnLeft_any p n f _ hp hp' hn HF.out).mono ?_; rintro _ W13 ⟨rfl, hw13⟩
                    obtain ⟨r1_13, c1_13⟩ := keepB hw13 z1_2 r1_2 c1_2
                    have z1_13 := isRow_lt r1_13
                    have hb13 := hb2.trans (hw13.mono hb2.size)
                    have q13 := hb13.size
                    clear hw13 r1_2 c1_2 z1_2 hb2
                    go_wp2_with fail
                    go_ret
                    exact ⟨ret_int (by rw [H.out]; rfl), (by (repeat (first | exact hb13 | exact Below.refl _ _ | refine Below.alloc ?_ (by first | omega | (simp; try omega)) _ | refine below_setRow ?_ (by omega) _ | refine Below.drew ?_)))⟩
                  · skip
                    have h1 : ax6B p n f = true := h0
                    have H := Lib.hid (upto_more (q := axAt p n f) HX2.out h0)
                    go_wp2_with fail
                    refine (antipodeInvertsOnLeft_any p n f _ hp hp' hn HF.out).mono ?_; rintro _ W14 ⟨rfl, hw14⟩
                    obtain ⟨r1_14, c1_14⟩ := keepB hw14 z1_2 r1_2 c1_2
                    have z1_14 := isRow_lt r1_14
                    have hb14 := hb2.trans (hw14.mono hb2.size)
                    have q14 := hb14.size
                    clear hw14 r1_2 c1_2 z1_2 hb2
                    go_wp2
                    go_roundw
                    case rel => exact ⟨5 + 1, by omega, by go_num, (by (repeat (first | exact hb14 | exact Below.refl _ _ | refine Below.alloc ?_ (by first | omega | (simp; try omega)) _ | refine below_setRow ?_ (by omega) _ | refine Below.drew ?_))), ⟨by simp [go_sem, r1_14, c1_14], (by rw [E1_2.out]; first | exact c1_14 | (simp [go_sem, r1_14, c1_14]; done))⟩, H.out⟩
                    case measure => simp [intOf]; try omega
                · skip
                  by_cases hi6 : i = 6
                  · skip
                    subst hi6
                    cases h0 : axAt p n f 6
                    · skip
                      have h1 : ax7B p n f = false := h0
                      have H := Lib.hid (fail_at HX2.out h0)
                      go_wp2_with fail
                      refine (antipodeInvertsOnRight_any p n f _ hp hp' hn HF.out).mono ?_; rintro _ W15 ⟨rfl, hw15⟩
                      obtain ⟨r1_15, c1_15⟩ := keepB hw15 z1_2 r1_2 c1_2
                      have z1_15 := isRow_lt r1_15
                      have hb15 := hb2.trans (hw15.mono hb2.size)
                      have q15 := hb15.size
                      clear hw15 r1_2 c1_2 z1_2 hb2
                      go_wp2_with fail
                      go_ret
                      exact ⟨ret_int (by rw [H.out]; rfl), (by (repeat (first | exact hb15 | exact Below.refl _ _ | refine Below.alloc ?_ (by first | omega | (simp; try omega)) _ | refine below_setRow ?_ (by omega) _ | refine Below.drew ?_)))⟩
                    · skip
                      have h1 : ax7B p n f = true := h0
                      have H := Lib.hid (upto_more (q := axAt p n f) HX2.out h0)
                      go_wp2_with fail
                      refine (antipodeInvertsOnRight_any p n f _ hp hp' hn HF.out).mono ?_; rintro _ W16 ⟨rfl, hw16⟩
                      obtain ⟨r1_16, c1_16⟩ := keepB hw16 z1_2 r1_2 c1_2
                      have z1_16 := isRow_lt r1_16
                      have hb16 := hb2.trans (hw16.mono hb2.size)
                      have q16 := hb16.size
                      clear hw16 r1_2 c1_2 z1_2 hb2
                      go_wp2
                      go_roundw
                      case rel => exact ⟨6 + 1, by omega, by go_num, (by (repeat (first | exact hb16 | exact Below.refl _ _ | refine Below.alloc ?_ (by first | omega | (simp; try omega)) _ | refine below_setRow ?_ (by omega) _ | refine Below.drew ?_))), ⟨by simp [go_sem, r1_16, c1_16], (by rw [E1_2.out]; first | exact c1_16 | (simp [go_sem, r1_16, c1_16]; done))⟩, H.out⟩
                      case measure => simp [intOf]; try omega
                  · skip
                    omega
    · skip
      obtain rfl : i = 7 := by omega
      have H := Lib.hid (fail_none (p := p) (n := n) (f := f) HX2.out)
      go_wp2_with fail
      go_ret
      exact ⟨ret_int (by rw [H.out]), (by (repeat (first | exact hb2 | exact Below.refl _ _ | refine Below.alloc ?_ (by first | omega | (simp; try omega)) _ | refine below_setRow ?_ (by omega) _ | refine Below.drew ?_)))⟩

/-- p, n, f is a Hopf algebra -/
def hopfB (p n : Int) (f : Nat → Int) : Bool := shapeH p n f && (failN p n.toNat f == 0)
theorem hopfB_no {p n : Int} {f : Nat → Int} (h : shapeH p n f = false) : hopfB p n f = false := by unfold hopfB; rw [h]; rfl
theorem hopfB_yes {p : Int} {n : Nat} {f : Nat → Int} (h : shapeH p n f = true) : hopfB p n f = (failN p n f == 0) := by unfold hopfB; rw [h]; rfl
theorem shapeH_sizes {p n : Int} {f : Nat → Int} (h : shapeH p n f = true) : sizesB p n = true := (shape_parts (shapeH_parts h).1).1
theorem hopf_shape {p n : Int} {f : Nat → Int} (h : hopfB p n f = true) : shapeH p n f = true := by
  unfold hopfB at h
  simp only [Bool.and_eq_true] at h
  exact h.1

set_option maxRecDepth 100000 in
set_option maxHeartbeats 1000000 in
theorem isHopf_any (p n : Int) (f : Nat → Int) (w : World) (hF : Bytes 1104 f) :
    Calls Try.prog 13 #[.agg (hop p n f)] w fun e w' => e = .returned (.bool (hopfB p n f)) ∧ Below w.heap.size w w' := by
  have HF := Lib.hid hF; clear hF
  cases hs : shapeH p n f
  · skip
    have H := Lib.hid (hopfB_no hs)
    go_enter Try.func13, Try.ntmps13
    go_wp2_with fail
    refine atomC fun W1 e1 => ?_
    have hb1 : Below w.heap.size w W1 := by rw [e1]; (repeat (first | exact Below.refl _ _ | refine Below.alloc ?_ (by first | omega | (simp; try omega)) _ | refine below_setRow ?_ (by omega) _ | refine Below.drew ?_))
    have q1 := hb1.size
    have r1_1 : IsRow W1 (w.heap.size) := by rw [e1]; simp [go_sem]
    have c1_1 := congrArg (fun x => blk x (w.heap.size)) e1; simp [go_sem] at c1_1
    have z1_1 := isRow_lt r1_1
    clear e1
    refine (isShapedHopf_any _ _ _ _ HF.out).mono ?_; rintro _ W2 ⟨rfl, hw2⟩
    obtain ⟨r1_2, c1_2⟩ := keepB hw2 z1_1 r1_1 c1_1
    have z1_2 := isRow_lt r1_2
    have hb2 := hb1.trans (hw2.mono hb1.size)
    have q2 := hb2.size
    clear hw2 r1_1 c1_1 z1_1 hb1
    go_wp2_with fail
    go_ret
    exact ⟨ret_bool (by rw [H.out]), (by (repeat (first | exact hb2 | exact Below.refl _ _ | refine Below.alloc ?_ (by first | omega | (simp; try omega)) _ | refine below_setRow ?_ (by omega) _ | refine Below.drew ?_)))⟩
  · skip
    obtain ⟨hp2, hp31, hn1, hn8⟩ := sizes_range (shapeH_sizes hs)
    obtain ⟨n, rfl⟩ := Int.eq_ofNat_of_zero_le (show 0 ≤ n by omega)
    have hn : n ≤ 8 := by omega
    have hp : 0 < p := by omega
    have hp' : p ≤ 255 := by omega
    have H := Lib.hid (hopfB_yes hs)
    go_enter Try.func13, Try.ntmps13
    go_wp2_with fail
    refine atomC fun W3 e3 => ?_
    have hb3 : Below w.heap.size w W3 := by rw [e3]; (repeat (first | exact Below.refl _ _ | refine Below.alloc ?_ (by first | omega | (simp; try omega)) _ | refine below_setRow ?_ (by omega) _ | refine Below.drew ?_))
    have q3 := hb3.size
    have r1_3 : IsRow W3 (w.heap.size) := by rw [e3]; simp [go_sem]
    have c1_3 := congrArg (fun x => blk x (w.heap.size)) e3; simp [go_sem] at c1_3
    have z1_3 := isRow_lt r1_3
    clear e3
    refine (isShapedHopf_any _ _ _ _ HF.out).mono ?_; rintro _ W4 ⟨rfl, hw4⟩
    obtain ⟨r1_4, c1_4⟩ := keepB hw4 z1_3 r1_3 c1_3
    have z1_4 := isRow_lt r1_4
    have hb4 := hb3.trans (hw4.mono hb3.size)
    have q4 := hb4.size
    clear hw4 r1_3 c1_3 z1_3 hb3
    go_wp2_with fail
    refine (failingAxiom_any p n f _ hp hp' hn HF.out).mono ?_; rintro _ W5 ⟨rfl, hw5⟩
    have hb5 := hb4.trans (hw5.mono hb4.size)
    have q5 := hb5.size
    clear hw5 hb4
    go_wp2_with fail
    go_ret
    exact ⟨ret_bool (by rw [H.out]), (by (repeat (first | exact hb5 | exact Below.refl _ _ | refine Below.alloc ?_ (by first | omega | (simp; try omega)) _ | refine below_setRow ?_ (by omega) _ | refine Below.drew ?_)))⟩

end Go.Proofs.Ytnjjcimpcnennaa
