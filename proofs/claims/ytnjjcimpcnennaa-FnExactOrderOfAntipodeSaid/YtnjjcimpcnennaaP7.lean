/- Contracts of the shape of an algebra, of its unit, and of the search for a fault: IsAlgebra and l01Is return one Boolean function. -/
import Derived.Test.YtnjjcimpcnennaaP6
import Derived.Test.YtnjjcimpcnennaaLin
namespace Go.Proofs.Ytnjjcimpcnennaa
open Go.RowKit
set_option linter.unusedSimpArgs false
set_option linter.unusedVariables false

/-! ### the shape -/
theorem unit_bytes {f : Nat → Int} (h : Bytes 520 f) : Bytes 8 f := fun i hi => h i (by omega)

set_option maxRecDepth 100000 in
theorem isShaped_any (p n : Int) (f : Nat → Int) (w : World) (hF : Bytes 520 f) :
    Calls Try.prog 58 #[.agg (alg p n f)] w fun e w' => e = .returned (.bool (shapeB p n f)) ∧ Below w.heap.size w w' := by
  have HU : Hid (Bytes 8 f) := Lib.hid (unit_bytes hF)
  have HT : Hid (Bytes 512 (tab f)) := Lib.hid (tab_bytes hF)
  clear hF
  have H : Hid (shapeB p n f = ((sizesB p n && vecB p n f) && (sizesB p n && tabB p n (tab f)))) := Lib.hid (by
    unfold shapeB; cases sizesB p n <;> cases vecB p n f <;> rfl)
  cases hv : (sizesB p n && vecB p n f)
  · go_enter Try.func58, Try.ntmps58
    go_wp2_with (go_at_call 78; refine (isVector_any _ _ _ _ HU.out).mono ?_; rintro e w1 ⟨rfl, hw1⟩)
    go_ret
    exact ⟨ret_bool (by rw [H.out, hv] <;> rfl), ((Below.refl _ _).alloc (Nat.le_refl _) _).trans (hw1.mono (by simp))⟩
  · go_enter Try.func58, Try.ntmps58
    go_wp2_with (first | (go_at_call 78; refine (isVector_any _ _ _ _ HU.out).mono ?_; rintro e w1 ⟨rfl, hw1⟩; obtain ⟨x1, x2⟩ := keepB (b := w.heap.size) (c := alg p n f) hw1 (by simp) (by simp [go_sem]) (by simp [go_sem])) | (go_at_call 79; refine (isTable_any _ _ _ _ HT.out).mono ?_; rintro e w2 ⟨rfl, hw2⟩))
    go_ret
    exact ⟨ret_bool (by rw [H.out, hv] <;> rfl), (((Below.refl _ _).alloc (Nat.le_refl _) _).trans (hw1.mono (by simp))).trans (hw2.mono (by have := hw1.size; simp at this; omega))⟩

set_option maxRecDepth 100000 in
theorem l01Shape_any (p n : Int) (f : Nat → Int) (w : World) (hF : Bytes 520 f) :
    Calls Try.prog 68 #[.agg (alg p n f)] w fun e w' => e = .returned (.bool (shapeB p n f)) ∧ Below w.heap.size w w' := by
  have HU : Hid (Bytes 8 f) := Lib.hid (unit_bytes hF)
  have HT : Hid (Bytes 512 (tab f)) := Lib.hid (tab_bytes hF)
  clear hF
  have H : Hid (shapeB p n f = (sizesB p n && (vecB p n f && tabB p n (tab f)))) := Lib.hid rfl
  cases hs : sizesB p n
  · go_enter Try.func68, Try.ntmps68
    go_wp2_with (go_at_call 89; refine (l01Sizes_any _ _ _).mono ?_; rintro e w' ⟨rfl, rfl⟩)
    go_ret
    exact ⟨ret_bool (by rw [H.out, hs] <;> rfl), (Below.refl _ _).alloc (Nat.le_refl _) _⟩
  · cases hv : vecB p n f
    · go_enter Try.func68, Try.ntmps68
      go_wp2_with (first | (go_at_call 89; refine (l01Sizes_any _ _ _).mono ?_; rintro e w' ⟨rfl, rfl⟩) | (go_at_call 69; refine (l01Vector_any _ _ _ _ HU.out).mono ?_; rintro e w1 ⟨rfl, hw1⟩))
      go_ret
      exact ⟨ret_bool (by rw [H.out, hs, hv] <;> rfl), ((Below.refl _ _).alloc (Nat.le_refl _) _).trans (hw1.mono (by simp))⟩
    · go_enter Try.func68, Try.ntmps68
      go_wp2_with (first | (go_at_call 89; refine (l01Sizes_any _ _ _).mono ?_; rintro e w' ⟨rfl, rfl⟩) | (go_at_call 69; refine (l01Vector_any _ _ _ _ HU.out).mono ?_; rintro e w1 ⟨rfl, hw1⟩; obtain ⟨x1, x2⟩ := keepB (b := w.heap.size) (c := alg p n f) hw1 (by simp) (by simp [go_sem]) (by simp [go_sem])) | (go_at_call 70; refine (l01Table_any _ _ _ _ HT.out).mono ?_; rintro e w2 ⟨rfl, hw2⟩))
      go_ret
      exact ⟨ret_bool (by rw [H.out, hs, hv] <;> rfl), (((Below.refl _ _).alloc (Nat.le_refl _) _).trans (hw1.mono (by simp))).trans (hw2.mono (by have := hw1.size; simp at this; omega))⟩

/-! ### the unit -/
theorem ebas_bytes (i : Nat) : Bytes 8 (ebas i) := fun t _ => by unfold ebas upd zf; split <;> omega
theorem basisAt (k : Nat) (hk : k < 8) (w : World) : Calls Try.prog 57 #[.int .i64 (k : Int)] w fun e w' => e = .returned (.agg (row 8 (ebas k))) ∧ Below w.heap.size w w' :=
  basisVector_any k w (by omega) (by omega)
theorem l01BasisAt (k : Nat) (hk : k < 8) (w : World) : Calls Try.prog 77 #[.int .i64 (k : Int)] w fun e w' => e = .returned (.agg (row 8 (ebas k))) ∧ Below w.heap.size w w' :=
  l01Basis_any k w (by omega) (by omega)
/-- the unit times e(i), and e(i) times the unit, are e(i) -/
def unitAt (p : Int) (n : Nat) (f : Nat → Int) (i : Nat) : Bool := segEq 0 8 (mulF p n (mtab f) f (ebas i)) (ebas i) && segEq 0 8 (mulF p n (mtab f) (ebas i) f) (ebas i)
def unitB (p : Int) (n : Nat) (f : Nat → Int) : Bool := (List.range n).all (unitAt p n f)

set_option maxRecDepth 100000 in
set_option maxHeartbeats 1000000 in
theorem hasUnit_any (p : Int) (n : Nat) (f : Nat → Int) (w : World) (hp : 0 < p) (hp' : p ≤ 255) (hn : n ≤ 8) (hF : Bytes 520 f) :
    Calls Try.prog 96 #[.agg (alg p n f)] w fun e w' => e = .returned (.bool (unitB p n f)) ∧ Below w.heap.size w w' := by
  have HF := Lib.hid hF
  clear hF
  go_enter Try.func96, Try.ntmps96
  go_wp2
  go_loopw [7] (fun s wr => ∃ k : Nat, k ≤ n ∧ s = .int .i64 k ∧ Below w.heap.size w wr ∧ (IsRow wr w.heap.size ∧ blk wr w.heap.size = alg p n f) ∧ ∀ i, i < k → unitAt p n f i = true) (fun s _ => n - (intOf s).toNat)
  case atStart => exact ⟨0, by omega, rfl, (Below.refl _ _).alloc (Nat.le_refl _) _, by simp [go_sem], fun i hi => by omega⟩
  case round =>
    obtain ⟨k, hk, rfl, hb, ⟨r0, c0⟩, hn'⟩ := hrel
    have Hn := Lib.hid hn'
    clear hn'
    have z0 := isRow_lt r0
    by_cases hlt : k < n
    · have hi8 : (k : Int) < 8 := by omega
      have hk0 : (0 : Int) ≤ (k : Int) := by omega
      have hk8 : k < 8 := by omega
      have HE : Hid (Bytes 8 (ebas k)) := Lib.hid (ebas_bytes k)
      have HU : Hid (Bytes 8 f) := Lib.hid (unit_bytes HF.out)
      cases hu1 : segEq 0 8 (mulF p n (mtab f) f (ebas k)) (ebas k)
      · have H : Hid (unitB p n f = false) := Lib.hid (all_no (q := unitAt p n f) k n hlt (by unfold unitAt; rw [hu1]; rfl))
        go_wp2_with (go_at_call 57; refine (basisAt k hk8 _).mono ?_; rintro e w1 ⟨rfl, hw1⟩; obtain ⟨s0, d0⟩ := keepB hw1 z0 r0 c0)
        have hb1 := (hb.trans (hw1.mono hb.size)).alloc (by have := hb.size; have := hw1.size; omega) (.cells (row 8 (ebas k)) 28)
        have y0 := isRow_lt s0
        have HC : ∀ W, Below (w1.heap.size + 1) (w1.alloc (.cells (row 8 (ebas k)) 28)) W → (IsRow W w.heap.size ∧ blk W w.heap.size = alg p n f) ∧ (IsRow W w1.heap.size ∧ blk W w1.heap.size = row 8 (ebas k)) :=
          fun W h => ⟨keepB h (by omega) (by simp [go_sem, s0]) (by simp [go_sem, d0, Nat.ne_of_lt y0]), keepB h (by omega) (by simp [go_sem]) (by simp [go_sem])⟩
        refine wp_quiet_all (Below (w1.heap.size + 1) (w1.alloc (.cells (row 8 (ebas k)) 28))) (by kernel_rfl) (by kernel_rfl) (Below.refl _ _).drew ?_
        repeat (first | (refine q_skip (by rfl) ?_; simp only [Act.put, List.setIfInBounds_toArray, List.set_cons_zero, List.set_cons_succ]) | (refine q_want (by rfl) ?_; apply Exists.intro; refine ⟨fun W hW => ?_, ?_⟩; (focus (obtain ⟨⟨x1, x2⟩, x3, x4⟩ := HC W hW; go_simp; first | done | rfl | ((go_at_call 101; refine (multiply_any p n f _ _ _ hp hp' hn HF.out ?_ ?_).mono (fun e w2 ⟨he, hw2⟩ => ⟨he, hW.trans (hw2.mono (by have := hW.size; simp at this; omega))⟩) <;> first | exact HU.out | exact HE.out)))); simp only [Act.put, List.setIfInBounds_toArray, List.set_cons_zero, List.set_cons_succ]))
        refine wpQuiet_nil ?_
        intro W hW
        obtain ⟨⟨x1, x2⟩, x3, x4⟩ := HC W hW
        have hb2 := hb1.trans (hW.mono (by have := hb1.size; simp at this; omega))
        go_wp2
        go_ret
        exact ⟨ret_bool (by rw [H.out] <;> rfl), hb2⟩
      · cases hu2 : segEq 0 8 (mulF p n (mtab f) (ebas k) f) (ebas k)
        · have H : Hid (unitB p n f = false) := Lib.hid (all_no (q := unitAt p n f) k n hlt (by unfold unitAt; rw [hu1, hu2]; rfl))
          go_wp2_with (go_at_call 57; refine (basisAt k hk8 _).mono ?_; rintro e w1 ⟨rfl, hw1⟩; obtain ⟨s0, d0⟩ := keepB hw1 z0 r0 c0)
          have hb1 := (hb.trans (hw1.mono hb.size)).alloc (by have := hb.size; have := hw1.size; omega) (.cells (row 8 (ebas k)) 28)
          have y0 := isRow_lt s0
          have HC : ∀ W, Below (w1.heap.size + 1) (w1.alloc (.cells (row 8 (ebas k)) 28)) W → (IsRow W w.heap.size ∧ blk W w.heap.size = alg p n f) ∧ (IsRow W w1.heap.size ∧ blk W w1.heap.size = row 8 (ebas k)) :=
            fun W h => ⟨keepB h (by omega) (by simp [go_sem, s0]) (by simp [go_sem, d0, Nat.ne_of_lt y0]), keepB h (by omega) (by simp [go_sem]) (by simp [go_sem])⟩
          refine wp_quiet_all (Below (w1.heap.size + 1) (w1.alloc (.cells (row 8 (ebas k)) 28))) (by kernel_rfl) (by kernel_rfl) (Below.refl _ _).drew ?_
          repeat (first | (refine q_skip (by rfl) ?_; simp only [Act.put, List.setIfInBounds_toArray, List.set_cons_zero, List.set_cons_succ]) | (refine q_want (by rfl) ?_; apply Exists.intro; refine ⟨fun W hW => ?_, ?_⟩; (focus (obtain ⟨⟨x1, x2⟩, x3, x4⟩ := HC W hW; go_simp; first | done | rfl | ((go_at_call 101; refine (multiply_any p n f _ _ _ hp hp' hn HF.out ?_ ?_).mono (fun e w2 ⟨he, hw2⟩ => ⟨he, hW.trans (hw2.mono (by have := hW.size; simp at this; omega))⟩) <;> first | exact HU.out | exact HE.out)))); simp only [Act.put, List.setIfInBounds_toArray, List.set_cons_zero, List.set_cons_succ]))
          refine wpQuiet_nil ?_
          intro W hW
          obtain ⟨⟨x1, x2⟩, x3, x4⟩ := HC W hW
          have hb2 := hb1.trans (hW.mono (by have := hb1.size; simp at this; omega))
          go_wp2
          go_ret
          exact ⟨ret_bool (by rw [H.out] <;> rfl), hb2⟩
        · have H := Lib.hid (upto_more (q := unitAt p n f) Hn.out (by unfold unitAt; rw [hu1, hu2]; rfl))
          go_wp2_with (go_at_call 57; refine (basisAt k hk8 _).mono ?_; rintro e w1 ⟨rfl, hw1⟩; obtain ⟨s0, d0⟩ := keepB hw1 z0 r0 c0)
          have hb1 := (hb.trans (hw1.mono hb.size)).alloc (by have := hb.size; have := hw1.size; omega) (.cells (row 8 (ebas k)) 28)
          have y0 := isRow_lt s0
          have HC : ∀ W, Below (w1.heap.size + 1) (w1.alloc (.cells (row 8 (ebas k)) 28)) W → (IsRow W w.heap.size ∧ blk W w.heap.size = alg p n f) ∧ (IsRow W w1.heap.size ∧ blk W w1.heap.size = row 8 (ebas k)) :=
            fun W h => ⟨keepB h (by omega) (by simp [go_sem, s0]) (by simp [go_sem, d0, Nat.ne_of_lt y0]), keepB h (by omega) (by simp [go_sem]) (by simp [go_sem])⟩
          refine wp_quiet_all (Below (w1.heap.size + 1) (w1.alloc (.cells (row 8 (ebas k)) 28))) (by kernel_rfl) (by kernel_rfl) (Below.refl _ _).drew ?_
          repeat (first | (refine q_skip (by rfl) ?_; simp only [Act.put, List.setIfInBounds_toArray, List.set_cons_zero, List.set_cons_succ]) | (refine q_want (by rfl) ?_; apply Exists.intro; refine ⟨fun W hW => ?_, ?_⟩; (focus (obtain ⟨⟨x1, x2⟩, x3, x4⟩ := HC W hW; go_simp; first | done | rfl | ((go_at_call 101; refine (multiply_any p n f _ _ _ hp hp' hn HF.out ?_ ?_).mono (fun e w2 ⟨he, hw2⟩ => ⟨he, hW.trans (hw2.mono (by have := hW.size; simp at this; omega))⟩) <;> first | exact HU.out | exact HE.out)))); simp only [Act.put, List.setIfInBounds_toArray, List.set_cons_zero, List.set_cons_succ]))
          refine wpQuiet_nil ?_
          intro W hW
          obtain ⟨⟨x1, x2⟩, x3, x4⟩ := HC W hW
          have hb2 := hb1.trans (hW.mono (by have := hb1.size; simp at this; omega))
          go_wp2
          go_roundw
          case rel => exact ⟨k + 1, by omega, by go_num, hb2, ⟨x1, x2⟩, H.out⟩
          case measure => simp [intOf]; omega
    · have H : Hid (unitB p n f = true) := Lib.hid (all_yes (q := unitAt p n f) n fun i hi => Hn.out i (by omega))
      go_wp2
      go_ret
      exact ⟨ret_bool (by rw [H.out] <;> rfl), hb⟩
end Go.Proofs.Ytnjjcimpcnennaa
