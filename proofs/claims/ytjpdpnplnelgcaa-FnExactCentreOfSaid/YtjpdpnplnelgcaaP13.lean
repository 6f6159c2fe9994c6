/- isAlgebraWith and l01Code: an algebra and vectors for it. -/
import Derived.Test.YtjpdpnplnelgcaaEqs
import Derived.Test.YtjpdpnplnelgcaaPA
namespace Go.Proofs.Ytjpdpnplnelgcaa
open Go.RowKit
set_option linter.unusedSimpArgs false
set_option linter.unusedVariables false
attribute [local irreducible] wpQuiet wpQE

/-- an algebra and m vectors for it -/
def okB (p n : Int) (f : Nat → Int) (m : Nat) (g : Nat → Nat → Int) : Bool := algB p n f && allV p n m g
theorem alg_sizes {p n : Int} {f : Nat → Int} (h : algB p n f = true) : sizesB p n = true := by
  unfold algB at h
  simp only [Bool.and_eq_true] at h
  exact shape_sizes h.1

set_option maxRecDepth 100000 in
theorem isAlgebraWith_any (p n : Int) (f : Nat → Int) (b off m cap : Nat) (g : Nat → Nat → Int) (w : World) (hF : Bytes 520 f) (hm : m ≤ 1000000) (hr : IsRow w b)
    (hg : ∀ i, i < m → off + i * 8 + 8 ≤ (blk w b).size ∧ (blk w b).extract (off + i * 8) (off + i * 8 + 8) = row 8 (g i) ∧ Bytes 8 (g i)) :
    Calls Try.prog 61 #[.agg (alg p n f), .slice (some ⟨b, off, none⟩) m cap] w fun e w' => e = .returned (.bool (okB p n f m g)) ∧ Below w.heap.size w w' := by
  have HF := Lib.hid hF
  have hlt := isRow_lt hr
  have HK : Hid (∀ W, Below w.heap.size w W → IsRow W b ∧ ∀ i, i < m → off + i * 8 + 8 ≤ (blk W b).size ∧ (blk W b).extract (off + i * 8) (off + i * 8 + 8) = row 8 (g i) ∧ Bytes 8 (g i)) := Lib.hid fun W h => by
    obtain ⟨h1, h2⟩ := keepB h hlt hr rfl
    refine ⟨h1, ?_⟩
    rw [h2]
    exact hg
  clear hF hg
  have hbox : Below w.heap.size w (w.alloc (.cells (alg p n f) 54)) := (Below.refl _ _).alloc (Nat.le_refl _) _
  cases hv : (sizesB p n && allV p n m g)
  · have H : Hid (okB p n f m g = false) := Lib.hid (by
      unfold okB
      cases ha : algB p n f
      · rfl
      · rw [alg_sizes ha, Bool.true_and] at hv; rw [hv]; rfl)
    go_enter Try.func61, Try.ntmps61
    go_wp2_with (go_at_call 68; refine (areVectors_any _ _ _ _ _ _ g _ hm (HK.out _ hbox).1 (HK.out _ hbox).2).mono ?_; rintro e w1 ⟨rfl, hw1⟩)
    go_ret
    exact ⟨ret_bool (by rw [H.out]), hbox.trans (hw1.mono (by simp))⟩
  · have H : Hid (okB p n f m g = algB p n f) := Lib.hid (by
      unfold okB
      simp only [Bool.and_eq_true] at hv
      rw [hv.2, Bool.and_true])
    go_enter Try.func61, Try.ntmps61
    go_wp2_with (first | (go_at_call 68; refine (areVectors_any _ _ _ _ _ _ g _ hm (HK.out _ hbox).1 (HK.out _ hbox).2).mono ?_; rintro e w1 ⟨rfl, hw1⟩; obtain ⟨x1, x2⟩ := keepB (b := w.heap.size) (c := alg p n f) hw1 (by simp) (by simp [go_sem]) (by simp [go_sem])) | (go_at_call 56; refine (isAlgebra_any _ _ _ _ HF.out).mono ?_; rintro e w2 ⟨rfl, hw2⟩))
    go_ret
    have z1 := hw1.size
    simp only [World.size_alloc] at z1
    exact ⟨ret_bool (by rw [H.out] <;> rfl), (hbox.trans (hw1.mono (by simp))).trans (hw2.mono (by omega))⟩

set_option maxRecDepth 100000 in
theorem l01Code_any (p n : Int) (f : Nat → Int) (b off m cap : Nat) (g : Nat → Nat → Int) (w : World) (hF : Bytes 520 f) (hm : m ≤ 1000000) (hr : IsRow w b)
    (hg : ∀ i, i < m → off + i * 8 + 8 ≤ (blk w b).size ∧ (blk w b).extract (off + i * 8) (off + i * 8 + 8) = row 8 (g i) ∧ Bytes 8 (g i)) :
    Calls Try.prog 58 #[.agg (alg p n f), .slice (some ⟨b, off, none⟩) m cap] w fun e w' => e = .returned (.int .i64 (codeB (okB p n f m g))) ∧ Below w.heap.size w w' := by
  have HF := Lib.hid hF
  have Hg := Lib.hid hg
  have hbw := isRow_lt hr
  clear hF hg
  have hbox : Below w.heap.size w (w.alloc (.cells (alg p n f) 54)) := (Below.refl _ _).alloc (Nat.le_refl _) _
  cases ha : algB p n f
  · have H : Hid (okB p n f m g = false) := Lib.hid (by unfold okB; rw [ha]; rfl)
    go_enter Try.func58, Try.ntmps58
    go_wp2_with (go_at_call 52; refine (l01Is_any _ _ _ _ HF.out).mono ?_; rintro e w1 ⟨rfl, hw1⟩)
    go_ret
    exact ⟨ret_int (by rw [H.out]; rfl), hbox.trans (hw1.mono (by simp))⟩
  · have HA : Hid (okB p n f m g = allV p n m g) := Lib.hid (by unfold okB; rw [ha]; rfl)
    go_enter Try.func58, Try.ntmps58
    go_wp2_with (go_at_call 52; refine (l01Is_any _ _ _ _ HF.out).mono ?_; rintro e w1 ⟨rfl, hw1⟩)
    obtain ⟨r0, c0⟩ := keepB (b := w.heap.size) (c := alg p n f) hw1 (by simp) (by simp [go_sem]) (by simp [go_sem])
    have hb0 := hbox.trans (hw1.mono (by simp))
    go_loopw [5] (fun s wr => ∃ k : Nat, k ≤ m ∧ s = .int .i64 k ∧ Below w.heap.size w wr ∧ (IsRow wr w.heap.size ∧ blk wr w.heap.size = alg p n f) ∧ ∀ i, i < k → vecB p n (g i) = true) (fun s _ => m - (intOf s).toNat)
    case atStart => exact ⟨0, by omega, rfl, hb0, ⟨r0, c0⟩, fun i hi => by omega⟩
    case round =>
      obtain ⟨k, hk, rfl, hb, ⟨s0, d0⟩, hn⟩ := hrel
      have Hn := Lib.hid hn
      clear hn r0 c0 hb0 hw1
      have z0 := isRow_lt s0
      have hbz := hb.size
      by_cases hlt : k < m
      · have g1 := (Hg.out k hlt).1
        have g2 := (Hg.out k hlt).2.1
        have HG : Hid (Bytes 8 (g k)) := Lib.hid (Hg.out k hlt).2.2
        obtain ⟨r1, c1⟩ := keepB hb hbw hr rfl
        have z1 := isRow_lt r1
        have HC : ∀ W, Below wr.heap.size wr W → (IsRow W w.heap.size ∧ blk W w.heap.size = alg p n f) ∧ (IsRow W b ∧ blk W b = blk w b) := fun W h => ⟨keepB h z0 s0 d0, keepB h z1 r1 c1⟩
        cases hv : vecB p n (g k)
        · have H := Lib.hid (all_no (q := fun i => vecB p n (g i)) k m hlt hv)
          go_wp2
          refine wp_quiet_all (Below wr.heap.size wr) (by kernel_rfl) (by kernel_rfl) (Below.refl _ _).drew ?_
          repeat (first | (refine q_plain rfl ?_; apply Exists.intro; refine ⟨fun W hW => ?_, ?_⟩; (focus (obtain ⟨⟨x1, x2⟩, x3, x4⟩ := HC W hW; go_simp; first | done | rfl | ((go_at_call 74; exact (l01Vector_any _ _ _ _ HG.out).mono (fun e w2 ⟨he, hw2⟩ => ⟨he, hW.trans (hw2.mono hW.size)⟩))))); simp only [Act.put, List.setIfInBounds_toArray, List.set_cons_zero, List.set_cons_succ]) | (refine q_skip (by rfl) ?_; simp only [Act.put, List.setIfInBounds_toArray, List.set_cons_zero, List.set_cons_succ]) | (refine q_want (by rfl) ?_; apply Exists.intro; refine ⟨fun W hW => ?_, ?_⟩; (focus (obtain ⟨⟨x1, x2⟩, x3, x4⟩ := HC W hW; go_simp; first | done | rfl | ((go_at_call 74; exact (l01Vector_any _ _ _ _ HG.out).mono (fun e w2 ⟨he, hw2⟩ => ⟨he, hW.trans (hw2.mono hW.size)⟩))))); simp only [Act.put, List.setIfInBounds_toArray, List.set_cons_zero, List.set_cons_succ]))
          refine wpQuiet_nil ?_
          intro W hW
          obtain ⟨⟨x1, x2⟩, x3, x4⟩ := HC W hW
          have hb2 := hb.trans (hW.mono hbz)
          go_wp2
          go_ret
          exact ⟨ret_int (by rw [HA.out]; unfold allV; rw [H.out]; rfl), hb2⟩
        · have H := Lib.hid (upto_more (q := fun i => vecB p n (g i)) Hn.out hv)
          go_wp2
          refine wp_quiet_all (Below wr.heap.size wr) (by kernel_rfl) (by kernel_rfl) (Below.refl _ _).drew ?_
          repeat (first | (refine q_plain rfl ?_; apply Exists.intro; refine ⟨fun W hW => ?_, ?_⟩; (focus (obtain ⟨⟨x1, x2⟩, x3, x4⟩ := HC W hW; go_simp; first | done | rfl | ((go_at_call 74; exact (l01Vector_any _ _ _ _ HG.out).mono (fun e w2 ⟨he, hw2⟩ => ⟨he, hW.trans (hw2.mono hW.size)⟩))))); simp only [Act.put, List.setIfInBounds_toArray, List.set_cons_zero, List.set_cons_succ]) | (refine q_skip (by rfl) ?_; simp only [Act.put, List.setIfInBounds_toArray, List.set_cons_zero, List.set_cons_succ]) | (refine q_want (by rfl) ?_; apply Exists.intro; refine ⟨fun W hW => ?_, ?_⟩; (focus (obtain ⟨⟨x1, x2⟩, x3, x4⟩ := HC W hW; go_simp; first | done | rfl | ((go_at_call 74; exact (l01Vector_any _ _ _ _ HG.out).mono (fun e w2 ⟨he, hw2⟩ => ⟨he, hW.trans (hw2.mono hW.size)⟩))))); simp only [Act.put, List.setIfInBounds_toArray, List.set_cons_zero, List.set_cons_succ]))
          refine wpQuiet_nil ?_
          intro W hW
          obtain ⟨⟨x1, x2⟩, x3, x4⟩ := HC W hW
          have hb2 := hb.trans (hW.mono hbz)
          go_wp2
          go_roundw
          case rel => exact ⟨k + 1, by omega, by go_num, hb2, ⟨x1, x2⟩, H.out⟩
          case measure => simp [intOf]; omega
      · have H := Lib.hid (all_yes (q := fun i => vecB p n (g i)) m fun i hi => Hn.out i (by omega))
        go_wp2
        go_ret
        exact ⟨ret_int (by rw [HA.out]; unfold allV; rw [H.out]; rfl), hb⟩

/-! ### eqVector of a vector and itself -/
end Go.Proofs.Ytjpdpnplnelgcaa
