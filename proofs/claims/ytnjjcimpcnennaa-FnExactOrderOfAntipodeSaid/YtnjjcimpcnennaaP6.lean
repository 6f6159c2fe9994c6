/- Contracts of the shape checks: linear maps and tables. -/
import Derived.Test.YtnjjcimpcnennaaP5
namespace Go.Proofs.Ytnjjcimpcnennaa
open Go.RowKit
set_option linter.unusedSimpArgs false
set_option linter.unusedVariables false

/-! ### plain -/
theorem sizes_range {p n : Int} (h : sizesB p n = true) : 2 ≤ p ∧ p ≤ 31 ∧ 1 ≤ n ∧ n ≤ 8 := by
  unfold sizesB prime31 at h
  simp only [Bool.and_eq_true, decide_eq_true_eq] at h
  exact ⟨h.1.1.1, h.1.1.2, h.2.1, h.2.2⟩
theorem vecB_iff (p n : Int) (v : Nat → Int) : vecB p n v = true ↔ ∀ i, i < 8 → v i < p ∧ ((i : Int) < n ∨ v i = 0) := by
  unfold vecB entB
  simp only [List.all_eq_true, List.mem_range, Bool.and_eq_true, Bool.or_eq_true, decide_eq_true_eq]
/-- row i of F as a vector -/
def rowOf (m : Nat) (F : Nat → Int) (i : Nat) : Nat → Int := fun t => F (i * m + t)
/-- row i of a linear map -/
def entL (p n : Int) (F : Nat → Int) (i : Nat) : Bool := vecB p n (rowOf 8 F i) && (decide ((i : Int) < n) || segEq 0 8 (rowOf 8 F i) zf)
def linB (p n : Int) (F : Nat → Int) : Bool := (List.range 8).all (entL p n F)
/-- row i of a table -/
def entT (p n : Int) (F : Nat → Int) (i : Nat) : Bool := linB p n (rowOf 64 F i) && (decide ((i : Int) < n) || segEq 0 64 (rowOf 64 F i) zf)
def tabB (p n : Int) (F : Nat → Int) : Bool := (List.range 8).all (entT p n F)
def shapeB (p n : Int) (f : Nat → Int) : Bool := sizesB p n && (vecB p n f && tabB p n (tab f))

theorem all_no {q : Nat → Bool} (k m : Nat) (hk : k < m) (h : q k = false) : (List.range m).all q = false := by
  rw [List.all_eq_false]; exact ⟨k, by simpa using hk, by simp [h]⟩
theorem all_yes {q : Nat → Bool} (m : Nat) (h : ∀ i, i < m → q i = true) : (List.range m).all q = true := by
  rw [List.all_eq_true]; intro i hi; exact h i (by simpa using hi)
theorem all_get {q : Nat → Bool} {m : Nat} (h : (List.range m).all q = true) (i : Nat) (hi : i < m) : q i = true := by
  rw [List.all_eq_true] at h; exact h i (by simpa using hi)
theorem upto_more {q : Nat → Bool} {k : Nat} (h : ∀ i, i < k → q i = true) (hk : q k = true) : ∀ i, i < k + 1 → q i = true := by
  intro i hi
  by_cases e : i = k
  · subst e; exact hk
  · exact h i (by omega)

/-! ### l01Linear, l01Table -/
set_option maxRecDepth 100000 in
set_option maxHeartbeats 1000000 in
theorem l01Linear_any (p n : Int) (F : Nat → Int) (w : World) (hF : Bytes 64 F) :
    Calls Try.prog 71 #[.int .i64 p, .int .i64 n, .agg (row 64 F)] w fun e w' => e = .returned (.bool (linB p n F)) ∧ Below w.heap.size w w' := by
  have HF := Lib.hid hF
  clear hF
  go_enter Try.func71, Try.ntmps71
  go_wp2
  go_loopw [7] (fun s wr => ∃ k : Nat, k ≤ 8 ∧ s = .int .i64 k ∧ Below w.heap.size w wr ∧ (IsRow wr w.heap.size ∧ blk wr w.heap.size = row 64 F) ∧ ∀ i, i < k → entL p n F i = true) (fun s _ => 8 - (intOf s).toNat)
  case atStart => exact ⟨0, by omega, rfl, (Below.refl _ _).alloc (Nat.le_refl _) _, by simp [go_sem], fun i hi => by omega⟩
  case round =>
    obtain ⟨k, hk, rfl, hb, ⟨r0, c0⟩, hn⟩ := hrel
    have Hn := Lib.hid hn
    clear hn
    have z0 := isRow_lt r0
    by_cases hlt : k < 8
    · have hi8 : (k : Int) < 8 := by omega
      have hk8 : k * 8 + 8 ≤ 64 := by omega
      have HG : Hid (Bytes 8 (rowOf 8 F k)) := Lib.hid fun t ht => HF.out (k * 8 + t) (by omega)
      have e0 : (row 64 F).extract (k * 8) (k * 8 + 8) = row 8 (rowOf 8 F k) := row_part 64 8 (k * 8) F hk8
      cases hv : vecB p n (rowOf 8 F k)
      · have H := Lib.hid (all_no (q := entL p n F) k 8 hlt (by unfold entL; rw [hv]; rfl))
        go_wp2_with (go_at_call 69; refine (l01Vector_any _ _ _ _ HG.out).mono ?_; rintro e w2 ⟨rfl, hw2⟩)
        go_ret
        exact ⟨ret_bool (by unfold linB; rw [H.out]), hb.trans (hw2.mono hb.size)⟩
      · by_cases hkn : (k : Int) < n
        · have hkn' : ¬ n ≤ (k : Int) := by omega
          have H := Lib.hid (upto_more Hn.out (show entL p n F k = true by unfold entL; rw [hv, decide_eq_true hkn]; rfl))
          go_wp2_with (go_at_call 69; refine (l01Vector_any _ _ _ _ HG.out).mono ?_; rintro e w2 ⟨rfl, hw2⟩)
          go_roundw
          case rel => exact ⟨k + 1, by omega, by go_num, hb.trans (hw2.mono hb.size), keepB hw2 z0 r0 c0, H.out⟩
          case measure => simp [intOf]; omega
        · have hkn' : n ≤ (k : Int) := by omega
          cases hz : segEq 0 8 (rowOf 8 F k) zf
          · have H := Lib.hid (all_no (q := entL p n F) k 8 hlt (by unfold entL; rw [hv, hz, decide_eq_false hkn]; rfl))
            go_wp2_with (go_at_call 69; refine (l01Vector_any _ _ _ _ HG.out).mono ?_; rintro e w2 ⟨rfl, hw2⟩; obtain ⟨x1, x2⟩ := keepB hw2 z0 r0 c0)
            go_ret
            exact ⟨ret_bool (by unfold linB; rw [H.out]), hb.trans (hw2.mono hb.size)⟩
          · have H := Lib.hid (upto_more Hn.out (show entL p n F k = true by unfold entL; rw [hv, hz, Bool.or_true]; rfl))
            go_wp2_with (go_at_call 69; refine (l01Vector_any _ _ _ _ HG.out).mono ?_; rintro e w2 ⟨rfl, hw2⟩; obtain ⟨x1, x2⟩ := keepB hw2 z0 r0 c0)
            go_roundw
            case rel => exact ⟨k + 1, by omega, by go_num, hb.trans (hw2.mono hb.size), keepB hw2 z0 r0 c0, H.out⟩
            case measure => simp [intOf]; omega
    · have H := Lib.hid (all_yes (q := entL p n F) 8 fun i hi => Hn.out i (by omega))
      go_wp2
      go_ret
      exact ⟨ret_bool (by unfold linB; rw [H.out]), hb⟩
set_option maxRecDepth 100000 in
set_option maxHeartbeats 1000000 in
theorem l01Table_any (p n : Int) (F : Nat → Int) (w : World) (hF : Bytes 512 F) :
    Calls Try.prog 70 #[.int .i64 p, .int .i64 n, .agg (row 512 F)] w fun e w' => e = .returned (.bool (tabB p n F)) ∧ Below w.heap.size w w' := by
  have HF := Lib.hid hF
  clear hF
  go_enter Try.func70, Try.ntmps70
  go_wp2
  go_loopw [7] (fun s wr => ∃ k : Nat, k ≤ 8 ∧ s = .int .i64 k ∧ Below w.heap.size w wr ∧ (IsRow wr w.heap.size ∧ blk wr w.heap.size = row 512 F) ∧ ∀ i, i < k → entT p n F i = true) (fun s _ => 8 - (intOf s).toNat)
  case atStart => exact ⟨0, by omega, rfl, (Below.refl _ _).alloc (Nat.le_refl _) _, by simp [go_sem], fun i hi => by omega⟩
  case round =>
    obtain ⟨k, hk, rfl, hb, ⟨r0, c0⟩, hn⟩ := hrel
    have Hn := Lib.hid hn
    clear hn
    have z0 := isRow_lt r0
    by_cases hlt : k < 8
    · have hi8 : (k : Int) < 8 := by omega
      have hk8 : k * 64 + 64 ≤ 512 := by omega
      have HG : Hid (Bytes 64 (rowOf 64 F k)) := Lib.hid fun t ht => HF.out (k * 64 + t) (by omega)
      have e0 : (row 512 F).extract (k * 64) (k * 64 + 64) = row 64 (rowOf 64 F k) := row_part 512 64 (k * 64) F hk8
      cases hv : linB p n (rowOf 64 F k)
      · have H := Lib.hid (all_no (q := entT p n F) k 8 hlt (by unfold entT; rw [hv]; rfl))
        go_wp2_with (go_at_call 71; refine (l01Linear_any _ _ _ _ HG.out).mono ?_; rintro e w2 ⟨rfl, hw2⟩)
        go_ret
        exact ⟨ret_bool (by unfold tabB; rw [H.out]), hb.trans (hw2.mono hb.size)⟩
      · by_cases hkn : (k : Int) < n
        · have hkn' : ¬ n ≤ (k : Int) := by omega
          have H := Lib.hid (upto_more Hn.out (show entT p n F k = true by unfold entT; rw [hv, decide_eq_true hkn]; rfl))
          go_wp2_with (go_at_call 71; refine (l01Linear_any _ _ _ _ HG.out).mono ?_; rintro e w2 ⟨rfl, hw2⟩)
          go_roundw
          case rel => exact ⟨k + 1, by omega, by go_num, hb.trans (hw2.mono hb.size), keepB hw2 z0 r0 c0, H.out⟩
          case measure => simp [intOf]; omega
        · have hkn' : n ≤ (k : Int) := by omega
          cases hz : segEq 0 64 (rowOf 64 F k) zf
          · have H := Lib.hid (all_no (q := entT p n F) k 8 hlt (by unfold entT; rw [hv, hz, decide_eq_false hkn]; rfl))
            go_wp2_with (go_at_call 71; refine (l01Linear_any _ _ _ _ HG.out).mono ?_; rintro e w2 ⟨rfl, hw2⟩; obtain ⟨x1, x2⟩ := keepB hw2 z0 r0 c0)
            go_ret
            exact ⟨ret_bool (by unfold tabB; rw [H.out]), hb.trans (hw2.mono hb.size)⟩
          · have H := Lib.hid (upto_more Hn.out (show entT p n F k = true by unfold entT; rw [hv, hz, Bool.or_true]; rfl))
            go_wp2_with (go_at_call 71; refine (l01Linear_any _ _ _ _ HG.out).mono ?_; rintro e w2 ⟨rfl, hw2⟩; obtain ⟨x1, x2⟩ := keepB hw2 z0 r0 c0)
            go_roundw
            case rel => exact ⟨k + 1, by omega, by go_num, hb.trans (hw2.mono hb.size), keepB hw2 z0 r0 c0, H.out⟩
            case measure => simp [intOf]; omega
    · have H := Lib.hid (all_yes (q := entT p n F) 8 fun i hi => Hn.out i (by omega))
      go_wp2
      go_ret
      exact ⟨ret_bool (by unfold tabB; rw [H.out]), hb⟩

/-! ### areVectors, isLinear, isTable -/
/-- the first m of a list are vectors -/
def allV (p n : Int) (m : Nat) (g : Nat → Nat → Int) : Bool := (List.range m).all fun i => vecB p n (g i)
set_option maxRecDepth 100000 in
set_option maxHeartbeats 1000000 in
theorem areVectors_any (p n : Int) (b off m cap : Nat) (g : Nat → Nat → Int) (w : World) (hm : m ≤ 1000000) (hr : IsRow w b) (hg : ∀ i, i < m → off + i * 8 + 8 ≤ (blk w b).size ∧ (blk w b).extract (off + i * 8) (off + i * 8 + 8) = row 8 (g i) ∧ Bytes 8 (g i)) :
    Calls Try.prog 75 #[.int .i64 p, .int .i64 n, .slice (some ⟨b, off, none⟩) m cap] w fun e w' => e = .returned (.bool (sizesB p n && allV p n m g)) ∧ Below w.heap.size w w' := by
  have Hg := Lib.hid hg
  have hbw := isRow_lt hr
  clear hg
  go_enter Try.func75, Try.ntmps75
  go_wp2
  go_loopw [11] (fun s wr => ∃ k : Nat, k ≤ m ∧ s = .int .i64 k ∧ Below w.heap.size w wr ∧ (k = 0 ∨ sizesB p n = true) ∧ ∀ i, i < k → vecB p n (g i) = true) (fun s _ => m - (intOf s).toNat)
  case atStart => exact ⟨0, by omega, rfl, Below.refl _ _, .inl rfl, fun i hi => by omega⟩
  case round =>
    obtain ⟨k, hk, rfl, hb, hsz, hn⟩ := hrel
    have Hn := Lib.hid hn
    have Hs := Lib.hid hsz
    clear hn hsz
    by_cases hlt : k < m
    · have g1 := (Hg.out k hlt).1
      have g2 := (Hg.out k hlt).2.1
      have HG : Hid (Bytes 8 (g k)) := Lib.hid (Hg.out k hlt).2.2
      obtain ⟨r0, c0⟩ := keepB hb hbw hr rfl
      rw [← c0] at g1 g2
      clear c0
      have hb1 : Below w.heap.size w (wr.alloc (.cells (row 8 (g k)) 28)) := hb.alloc hb.size _
      cases hs : sizesB p n
      · go_wp2_with (go_at_call 78; refine (isVector_any _ _ _ _ HG.out).mono ?_; rintro e w2 ⟨rfl, hw2⟩)
        go_ret
        exact ⟨ret_bool (by rw [hs]; rfl), hb1.trans (hw2.mono (by have := hb.size; simp; omega))⟩
      · cases hv : vecB p n (g k)
        · have H := Lib.hid (all_no (q := fun i => vecB p n (g i)) k m hlt hv)
          go_wp2_with (go_at_call 78; refine (isVector_any _ _ _ _ HG.out).mono ?_; rintro e w2 ⟨rfl, hw2⟩)
          go_ret
          exact ⟨ret_bool (by unfold allV; rw [H.out, Bool.and_false]), hb1.trans (hw2.mono (by have := hb.size; simp; omega))⟩
        · have H := Lib.hid (upto_more (q := fun i => vecB p n (g i)) Hn.out hv)
          go_wp2_with (go_at_call 78; refine (isVector_any _ _ _ _ HG.out).mono ?_; rintro e w2 ⟨rfl, hw2⟩)
          go_roundw
          case rel => exact ⟨k + 1, by omega, by go_num, hb1.trans (hw2.mono (by have := hb.size; simp; omega)), .inr (by first | exact hs | trivial), H.out⟩
          case measure => simp [intOf]; omega
    · have H := Lib.hid (all_yes (q := fun i => vecB p n (g i)) m fun i hi => Hn.out i (by omega))
      go_wp2_with (go_at_call 80; refine (isField_any _ _ _).mono ?_; rintro e w' ⟨rfl, rfl⟩)
      go_ret
      exact ⟨ret_bool (by unfold allV; rw [H.out, Bool.and_true]), hb⟩

theorem zero_row {F : Nat → Int} {m i : Nat} (h : segEq 0 m (rowOf m F i) zf = true) : ∀ t, t < m → F (i * m + t) = 0 := by
  intro t ht
  have := (segEq_iff 0 m (rowOf m F i) zf).1 h t ht
  rw [Nat.zero_add] at this
  exact this
theorem vecB_zero {p n : Int} (hp : 0 < p) {v : Nat → Int} (h : ∀ t, t < 8 → v t = 0) : vecB p n v = true := by
  rw [vecB_iff]
  intro i hi
  rw [h i hi]
  exact ⟨hp, .inr rfl⟩
/-- the first n rows are vectors, those behind are zeros -/
theorem linB_of {p : Int} {n : Nat} (hp : 0 < p) {F : Nat → Int} (h1 : ∀ i, i < n → vecB p n (rowOf 8 F i) = true) (h2 : ∀ i, n ≤ i → i < 8 → segEq 0 8 (rowOf 8 F i) zf = true) : linB p n F = true := by
  refine all_yes 8 fun i hi => ?_
  unfold entL
  by_cases h : i < n
  · rw [h1 i h, decide_eq_true (by omega)]; rfl
  · have hz : vecB p n (rowOf 8 F i) = true := vecB_zero hp (zero_row (h2 i (by omega) hi))
    rw [h2 i (by omega) hi, hz, Bool.or_true]; rfl
theorem linB_not1 {p : Int} {n : Nat} {F : Nat → Int} (hn : n ≤ 8) (h : allV p n n (rowOf 8 F) = false) : linB p n F = false := by
  unfold allV at h
  rw [List.all_eq_false] at h
  obtain ⟨i, hi, hv⟩ := h
  have hi' : i < n := by simpa using hi
  refine all_no i 8 (by omega) ?_
  unfold entL
  rw [Bool.not_eq_true] at hv
  rw [hv]; rfl
theorem linB_not2 {p : Int} {n i : Nat} {F : Nat → Int} (h1 : n ≤ i) (h2 : i < 8) (h : segEq 0 8 (rowOf 8 F i) zf = false) : linB p n F = false := by
  refine all_no i 8 h2 ?_
  unfold entL
  rw [h, decide_eq_false (by omega), Bool.or_false, Bool.and_false]

/-- image i: a vector before the place c, zeros from there on -/
def entI (p n c : Int) (F : Nat → Int) (i : Nat) : Bool := (decide (c ≤ (i : Int)) || (sizesB p n && vecB p n (rowOf 8 F i))) && (decide ((i : Int) < c) || segEq 0 8 (rowOf 8 F i) zf)
def imgB (p n c : Int) (F : Nat → Int) : Bool := (List.range 8).all (entI p n c F)
theorem img_lin {p n : Int} (F : Nat → Int) (hs : sizesB p n = true) : imgB p n n F = linB p n F := by
  unfold imgB linB
  congr 1
  funext i
  unfold entI entL
  rw [hs, Bool.true_and]
  obtain ⟨hp, _⟩ := sizes_range hs
  by_cases h : (i : Int) < n
  · rw [decide_eq_true h, decide_eq_false (p := n ≤ (i : Int)) (by omega), Bool.false_or, Bool.true_or]
  · rw [decide_eq_false h, decide_eq_true (p := n ≤ (i : Int)) (by omega), Bool.true_or, Bool.true_and, Bool.false_or]
    cases hz : segEq 0 8 (rowOf 8 F i) zf
    · rw [Bool.and_false]
    · rw [show vecB p n (rowOf 8 F i) = true from vecB_zero (by omega) (zero_row hz)]; rfl

set_option maxRecDepth 100000 in
set_option maxHeartbeats 1000000 in
theorem hasImages_any (p n c : Int) (F : Nat → Int) (w : World) (hF : Bytes 64 F) :
    Calls Try.prog 81 #[.int .i64 p, .int .i64 n, .int .i64 c, .agg (row 64 F)] w fun e w' => e = .returned (.bool (imgB p n c F)) ∧ Below w.heap.size w w' := by
  have HF := Lib.hid hF
  clear hF
  go_enter Try.func81, Try.ntmps81
  go_wp2
  go_loopw [12] (fun s wr => ∃ k : Nat, k ≤ 8 ∧ s = .int .i64 k ∧ Below w.heap.size w wr ∧ ∀ i, i < k → entI p n c F i = true) (fun s _ => 8 - (intOf s).toNat)
  case atStart => exact ⟨0, by omega, rfl, (Below.refl _ _).alloc (Nat.le_refl _) _, fun i hi => by omega⟩
  case round =>
    obtain ⟨k, hk, rfl, hb, hn⟩ := hrel
    have Hn := Lib.hid hn
    clear hn
    by_cases hlt : k < 8
    · have hi8 : (k : Int) < 8 := by omega
      have hk8 : k * 8 + 8 ≤ 64 := by omega
      have HG : Hid (Bytes 8 (rowOf 8 F k)) := Lib.hid fun t ht => HF.out (k * 8 + t) (by omega)
      have e0 : (row 64 F).extract (k * 8) (k * 8 + 8) = row 8 (rowOf 8 F k) := row_part 64 8 (k * 8) F hk8
      have hb1 : Below w.heap.size w (wr.alloc (.cells (row 8 (rowOf 8 F k)) 28)) := hb.alloc hb.size _
      have hbz := hb.size
      by_cases hkc : (k : Int) < c
      · have hkc' : ¬ c ≤ (k : Int) := by omega
        cases hv : (sizesB p n && vecB p n (rowOf 8 F k))
        · have H := Lib.hid (all_no (q := entI p n c F) k 8 hlt (by unfold entI; rw [hv, decide_eq_false hkc']; rfl))
          go_wp2_with (go_at_call 78; refine (isVector_any _ _ _ _ HG.out).mono ?_; rintro e w2 ⟨rfl, hw2⟩)
          go_ret
          exact ⟨ret_bool (by unfold imgB; rw [H.out]), hb1.trans (hw2.mono (by simp; omega))⟩
        · have H := Lib.hid (upto_more (q := entI p n c F) Hn.out (by unfold entI; rw [hv, decide_eq_true hkc, Bool.or_true]; rfl))
          go_wp2_with (go_at_call 78; refine (isVector_any _ _ _ _ HG.out).mono ?_; rintro e w2 ⟨rfl, hw2⟩)
          go_roundw
          case rel => exact ⟨k + 1, by omega, by go_num, hb1.trans (hw2.mono (by simp; omega)), H.out⟩
          case measure => simp [intOf]; omega
      · have hkc' : c ≤ (k : Int) := by omega
        cases hz : segEq 0 8 (rowOf 8 F k) zf
        · have H := Lib.hid (all_no (q := entI p n c F) k 8 hlt (by unfold entI; rw [hz, decide_eq_false hkc, Bool.or_false, Bool.and_false]))
          go_wp2
          go_ret
          exact ⟨ret_bool (by unfold imgB; rw [H.out]), hb1⟩
        · have H := Lib.hid (upto_more (q := entI p n c F) Hn.out (by unfold entI; rw [hz, decide_eq_true hkc', Bool.or_true, Bool.true_or]; rfl))
          go_wp2
          go_roundw
          case rel => exact ⟨k + 1, by omega, by go_num, hb1, H.out⟩
          case measure => simp [intOf]; omega
    · have H : Hid (imgB p n c F = true) := Lib.hid (all_yes (q := entI p n c F) 8 fun i hi => Hn.out i (by omega))
      go_wp2
      go_ret
      exact ⟨ret_bool (by rw [H.out] <;> rfl), hb⟩

set_option maxRecDepth 100000 in
theorem isLinear_any (p n : Int) (F : Nat → Int) (w : World) (hF : Bytes 64 F) :
    Calls Try.prog 60 #[.int .i64 p, .int .i64 n, .agg (row 64 F)] w fun e w' => e = .returned (.bool (sizesB p n && linB p n F)) ∧ Below w.heap.size w w' := by
  have HF := Lib.hid hF
  clear hF
  cases hs : sizesB p n
  · go_enter Try.func60, Try.ntmps60
    go_wp2_with (go_at_call 80; refine (isField_any _ _ _).mono ?_; rintro e w' ⟨rfl, rfl⟩)
    go_ret
    exact ⟨rfl, (Below.refl _ _).alloc (Nat.le_refl _) _⟩
  · have H := Lib.hid (img_lin F hs)
    go_enter Try.func60, Try.ntmps60
    go_wp2_with (first | (go_at_call 80; refine (isField_any _ _ _).mono ?_; rintro e w' ⟨rfl, rfl⟩) | (go_at_call 81; refine (hasImages_any _ _ _ _ _ HF.out).mono ?_; rintro e w2 ⟨rfl, hw2⟩))
    go_ret
    exact ⟨ret_bool (by rw [H.out] <;> rfl), ((Below.refl _ _).alloc (Nat.le_refl _) _).trans (hw2.mono (by simp))⟩

theorem tabB_no {p n : Int} {F : Nat → Int} {i : Nat} (hi : i < 8) (h : entT p n F i = false) : tabB p n F = false := all_no i 8 hi h
theorem linB_zero {p n : Int} (hp : 0 < p) {F : Nat → Int} {i : Nat} (h : segEq 0 64 (rowOf 64 F i) zf = true) : linB p n (rowOf 64 F i) = true := by
  have hz := zero_row h
  refine all_yes 8 fun j hj => ?_
  have h0 : ∀ t, t < 8 → rowOf 8 (rowOf 64 F i) j t = 0 := fun t ht => hz (j * 8 + t) (by omega)
  have h1 : vecB p n (rowOf 8 (rowOf 64 F i) j) = true := vecB_zero hp h0
  have h2 : segEq 0 8 (rowOf 8 (rowOf 64 F i) j) zf = true := (segEq_iff 0 8 _ _).2 fun t ht => by rw [Nat.zero_add]; exact h0 t ht
  unfold entL
  rw [h1, h2, Bool.or_true]; rfl

set_option maxRecDepth 100000 in
set_option maxHeartbeats 1000000 in
theorem isTable_any (p n : Int) (F : Nat → Int) (w : World) (hF : Bytes 512 F) :
    Calls Try.prog 79 #[.int .i64 p, .int .i64 n, .agg (row 512 F)] w fun e w' => e = .returned (.bool (sizesB p n && tabB p n F)) ∧ Below w.heap.size w w' := by
  have HF := Lib.hid hF
  clear hF
  cases hs : sizesB p n
  · go_enter Try.func79, Try.ntmps79
    go_wp2_with (go_at_call 80; refine (isField_any _ _ _).mono ?_; rintro e w' ⟨rfl, rfl⟩)
    go_ret
    exact ⟨rfl, (Below.refl _ _).alloc (Nat.le_refl _) _⟩
  · obtain ⟨hp2, hp31, hn1, hn8⟩ := sizes_range hs
    go_enter Try.func79, Try.ntmps79
    go_wp2_with (go_at_call 80; refine (isField_any _ _ _).mono ?_; rintro e w' ⟨rfl, rfl⟩)
    go_loopw [14] (fun s wr => ∃ k : Nat, k ≤ 8 ∧ s = .int .i64 k ∧ Below w.heap.size w wr ∧ ∀ i, i < k → entT p n F i = true) (fun s _ => 8 - (intOf s).toNat)
    case atStart => exact ⟨0, by omega, rfl, (Below.refl _ _).alloc (Nat.le_refl _) _, fun i hi => by omega⟩
    case round =>
      obtain ⟨k, hk, rfl, hb, hn⟩ := hrel
      have Hn := Lib.hid hn
      clear hn
      by_cases hlt : k < 8
      · have hi8 : (k : Int) < 8 := by omega
        have hk8 : k * 64 + 64 ≤ 512 := by omega
        have HG : Hid (Bytes 64 (rowOf 64 F k)) := Lib.hid fun t ht => HF.out (k * 64 + t) (by omega)
        have e0 : (row 512 F).extract (k * 64) (k * 64 + 64) = row 64 (rowOf 64 F k) := row_part 512 64 (k * 64) F hk8
        have hb1 : Below w.heap.size w (wr.alloc (.cells (row 64 (rowOf 64 F k)) 30)) := hb.alloc hb.size _
        have hbz := hb.size
        by_cases hkn : (k : Int) < n
        · have hkn' : ¬ n ≤ (k : Int) := by omega
          cases hv : linB p n (rowOf 64 F k)
          · have H := Lib.hid (tabB_no (p := p) (n := n) (F := F) hlt (by unfold entT; rw [hv]; rfl))
            go_wp2_with (go_at_call 60; refine (isLinear_any _ _ _ _ HG.out).mono ?_; rintro e w2 ⟨rfl, hw2⟩)
            go_ret
            exact ⟨ret_bool (by rw [H.out] <;> rfl), hb1.trans (hw2.mono (by simp; omega))⟩
          · have H := Lib.hid (upto_more (q := entT p n F) Hn.out (by unfold entT; rw [hv, decide_eq_true hkn]; rfl))
            go_wp2_with (go_at_call 60; refine (isLinear_any _ _ _ _ HG.out).mono ?_; rintro e w2 ⟨rfl, hw2⟩)
            go_roundw
            case rel => exact ⟨k + 1, by omega, by go_num, hb1.trans (hw2.mono (by simp; omega)), H.out⟩
            case measure => simp [intOf]; omega
        · have hkn' : n ≤ (k : Int) := by omega
          cases hz : segEq 0 64 (rowOf 64 F k) zf
          · have H := Lib.hid (tabB_no (p := p) (n := n) (F := F) hlt (by unfold entT; rw [hz, decide_eq_false hkn, Bool.or_false, Bool.and_false]))
            go_wp2
            go_ret
            exact ⟨ret_bool (by rw [H.out] <;> rfl), hb1⟩
          · have H := Lib.hid (upto_more (q := entT p n F) Hn.out (by unfold entT; rw [hz, linB_zero (by omega) hz, Bool.or_true]; rfl))
            go_wp2
            go_roundw
            case rel => exact ⟨k + 1, by omega, by go_num, hb1, H.out⟩
            case measure => simp [intOf]; omega
      · have H : Hid (tabB p n F = true) := Lib.hid (all_yes (q := entT p n F) 8 fun i hi => Hn.out i (by omega))
        go_wp2
        go_ret
        exact ⟨ret_bool (by rw [H.out] <;> rfl), hb⟩
end Go.Proofs.Ytnjjcimpcnennaa
