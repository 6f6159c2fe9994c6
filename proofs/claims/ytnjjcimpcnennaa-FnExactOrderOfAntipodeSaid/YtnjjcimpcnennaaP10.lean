/- IsAlgebra, l01Is: the same Boolean function. -/
import Derived.Test.YtnjjcimpcnennaaP9
import Derived.Test.YtnjjcimpcnennaaRegionB
namespace Go.Proofs.Ytnjjcimpcnennaa
open Go.RowKit
-- an elaborator's whnf of the goal runs through a chain of skipped operations otherwise (120 s)
attribute [local irreducible] wpQuiet wpQE
set_option linter.unusedSimpArgs false
set_option linter.unusedVariables false

/-- there is no fault, as a Boolean -/
def noFaultB (p : Int) (n : Nat) (f : Nat → Int) : Bool := (List.range n).all fun i => (List.range n).all fun j => (List.range n).all fun k => !faultAt p n f i j k
theorem noFaultB_iff (p : Int) (n : Nat) (f : Nat → Int) : noFaultB p n f = true ↔ NoFault p n f := by
  unfold noFaultB NoFault
  simp only [List.all_eq_true, List.mem_range, Bool.not_eq_true']
  exact ⟨fun h i j k hi hj hk => h i hi j hj k hk, fun h i hi j hj k hk => h i j k hi hj hk⟩
theorem noFaultB_not {p : Int} {n : Nat} {f : Nat → Int} {i j k : Nat} (h : FirstAt p n f i j k) : noFaultB p n f = false := by
  cases hq : noFaultB p n f
  · rfl
  · exact (first_not h ((noFaultB_iff p n f).1 hq)).elim
/-- p, n, f are an algebra -/
def algB (p n : Int) (f : Nat → Int) : Bool := shapeB p n f && (unitB p n.toNat f && noFaultB p n.toNat f)
theorem shape_sizes {p n : Int} {f : Nat → Int} (h : shapeB p n f = true) : sizesB p n = true := by
  unfold shapeB at h
  simp only [Bool.and_eq_true] at h
  exact h.1

theorem nil_none (w : World) : (binOp .eql 100 (.slice none 0 0) (.slice none 0 0)).run Try.prog w = .ok (.bool true) w := by kernel_rfl
theorem nil_some (a : Addr) (n c : Nat) (w : World) : (binOp .eql 100 (.slice (some a) n c) (.slice none 0 0)).run Try.prog w = .ok (.bool false) w := by kernel_rfl

set_option maxRecDepth 100000 in
set_option maxHeartbeats 1000000 in
theorem isAlgebra_any (p n : Int) (f : Nat → Int) (w : World) (hF : Bytes 520 f) :
    Calls Try.prog 82 #[.agg (alg p n f)] w fun e w' => e = .returned (.bool (algB p n f)) ∧ Below w.heap.size w w' := by
  have HF := Lib.hid hF
  clear hF
  cases hs : shapeB p n f
  · have H : Hid (algB p n f = false) := Lib.hid (by unfold algB; rw [hs]; rfl)
    go_enter Try.func82, Try.ntmps82
    go_wp2_with (go_at_call 58; refine (isShaped_any _ _ _ _ HF.out).mono ?_; rintro e w1 ⟨rfl, hw1⟩)
    go_ret
    exact ⟨ret_bool (by rw [H.out] <;> rfl), ((Below.refl _ _).alloc (Nat.le_refl _) _).trans (hw1.mono (by simp))⟩
  · obtain ⟨hp2, hp31, hn1, hn8⟩ := sizes_range (shape_sizes hs)
    obtain ⟨n, rfl⟩ := Int.eq_ofNat_of_zero_le (show 0 ≤ n by omega)
    have hn : n ≤ 8 := by omega
    have ht : ((n : Nat) : Int).toNat = n := by omega
    cases hu : unitB p n f
    · have H : Hid (algB p n f = false) := Lib.hid (by unfold algB; rw [hs, ht, hu]; rfl)
      clear ht
      go_enter Try.func82, Try.ntmps82
      go_wp2_with (first | (go_at_call 58; refine (isShaped_any _ _ _ _ HF.out).mono ?_; rintro e w1 ⟨rfl, hw1⟩; obtain ⟨x1, x2⟩ := keepB (b := w.heap.size) (c := alg p n f) hw1 (by simp) (by simp [go_sem]) (by simp [go_sem])) | (go_at_call 96; refine (hasUnit_any p n f _ (by omega) (by omega) hn HF.out).mono ?_; rintro e w2 ⟨rfl, hw2⟩))
      go_ret
      have z1 := hw1.size
      simp only [World.size_alloc] at z1
      exact ⟨ret_bool (by rw [H.out] <;> rfl), (((Below.refl _ _).alloc (Nat.le_refl _) _).trans (hw1.mono (by simp))).trans (hw2.mono (by omega))⟩
    · have H : Hid (algB p n f = noFaultB p n f) := Lib.hid (by unfold algB; rw [hs, ht, hu]; rfl)
      clear ht
      go_enter Try.func82, Try.ntmps82
      go_wp2_with (first | (go_at_call 58; refine (isShaped_any _ _ _ _ HF.out).mono ?_; rintro e w1 ⟨rfl, hw1⟩; obtain ⟨x1, x2⟩ := keepB (b := w.heap.size) (c := alg p n f) hw1 (by simp) (by simp [go_sem]) (by simp [go_sem])) | (go_at_call 96; refine (hasUnit_any p n f _ (by omega) (by omega) hn HF.out).mono ?_; rintro e w2 ⟨rfl, hw2⟩; obtain ⟨x3, x4⟩ := keepB hw2 (isRow_lt x1) x1 x2))
      have z1 := hw1.size
      simp only [World.size_alloc] at z1
      have z2 := hw2.size
      have hb2 := (((Below.refl w.heap.size w).alloc (Nat.le_refl _) (.cells (alg p n f) 40)).trans (hw1.mono (by simp))).trans (hw2.mono (by omega))
      refine (findFault_any p n f _ (by omega) (by omega) hn HF.out).mono ?_
      have hn1 := nil_none
      have hn2 := nil_some
      rintro e w3 (⟨rfl, hno, hw3⟩ | ⟨b, i, j, k, rfl, hfi, hw3, hbb, r3, c3⟩)
      · have HN : Hid (noFaultB p n f = true) := Lib.hid ((noFaultB_iff p n f).2 hno)
        clear hno
        go_wp2
        go_ret
        exact ⟨ret_bool (by rw [H.out, HN.out] <;> rfl), hb2.trans (hw3.mono (by omega))⟩
      · have HN : Hid (noFaultB p n f = false) := Lib.hid (noFaultB_not hfi)
        clear hfi
        go_wp2
        go_ret
        exact ⟨ret_bool (by rw [H.out, HN.out] <;> rfl), hb2.trans (hw3.mono (by omega))⟩

set_option maxRecDepth 100000 in
set_option maxHeartbeats 2000000 in
theorem l01Is_any (p n : Int) (f : Nat → Int) (w : World) (hF : Bytes 520 f) :
    Calls Try.prog 90 #[.agg (alg p n f)] w fun e w' => e = .returned (.bool (algB p n f)) ∧ Below w.heap.size w w' := by
  have HF := Lib.hid hF
  clear hF
  cases hs : shapeB p n f
  · have H : Hid (algB p n f = false) := Lib.hid (by unfold algB; rw [hs]; rfl)
    go_enter Try.func90, Try.ntmps90
    go_wp2_with (go_at_call 68; refine (l01Shape_any _ _ _ _ HF.out).mono ?_; rintro e w1 ⟨rfl, hw1⟩)
    go_ret
    exact ⟨ret_bool (by rw [H.out] <;> rfl), ((Below.refl _ _).alloc (Nat.le_refl _) _).trans (hw1.mono (by simp))⟩
  · obtain ⟨hp2, hp31, hn1, hn8⟩ := sizes_range (shape_sizes hs)
    obtain ⟨n, rfl⟩ := Int.eq_ofNat_of_zero_le (show 0 ≤ n by omega)
    have hn : n ≤ 8 := by omega
    have hp : 0 < p := by omega
    have hp' : p ≤ 255 := by omega
    have ht : ((n : Nat) : Int).toNat = n := by omega
    have HA : Hid (algB p n f = (unitB p n f && noFaultB p n f)) := Lib.hid (by unfold algB; rw [hs, ht]; rfl)
    clear ht
    go_enter Try.func90, Try.ntmps90
    go_wp2_with (go_at_call 68; refine (l01Shape_any _ _ _ _ HF.out).mono ?_; rintro e w1 ⟨rfl, hw1⟩)
    obtain ⟨r0, c0⟩ := keepB (b := w.heap.size) (c := alg p n f) hw1 (by simp) (by simp [go_sem]) (by simp [go_sem])
    have hb0 := ((Below.refl w.heap.size w).alloc (Nat.le_refl _) (.cells (alg p n f) 40)).trans (hw1.mono (by simp))
    go_loopw [3] (fun s wr => ∃ k : Nat, k ≤ n ∧ s = .int .i64 k ∧ Below w.heap.size w wr ∧ (IsRow wr w.heap.size ∧ blk wr w.heap.size = alg p n f) ∧ ∀ i, i < k → unitAt p n f i = true) (fun s _ => n - (intOf s).toNat)
    case atStart => exact ⟨0, by omega, rfl, hb0, ⟨r0, c0⟩, fun i hi => by omega⟩
    case round =>
      obtain ⟨k, hk, rfl, hb, ⟨s0, d0⟩, hn'⟩ := hrel
      have Hn := Lib.hid hn'
      clear hn' r0 c0 hb0 hw1
      have z0 := isRow_lt s0
      have hbz := hb.size
      by_cases hlt : k < n
      · have hi8 : (k : Int) < 8 := by omega
        have hk8 : k < 8 := by omega
        have HE : Hid (Bytes 8 (ebas k)) := Lib.hid (ebas_bytes k)
        have HU : Hid (Bytes 8 f) := Lib.hid (unit_bytes HF.out)
        have HC : ∀ W, Below wr.heap.size wr W → IsRow W w.heap.size ∧ blk W w.heap.size = alg p n f := fun W h => keepB h z0 s0 d0
        cases hu1 : segEq 0 8 (mulF p n (mtab f) f (ebas k)) (ebas k)
        · have H : Hid (unitB p n f = false) := Lib.hid (all_no (q := unitAt p n f) k n hlt (by unfold unitAt; rw [hu1]; rfl))
          go_wp2
          refine wp_quiet_all (Below wr.heap.size wr) (by kernel_rfl) (by kernel_rfl) (Below.refl _ _).drew ?_
          repeat (first | (refine q_plain rfl ?_; apply Exists.intro; refine ⟨fun W hW => ?_, ?_⟩; (focus (obtain ⟨x1, x2⟩ := HC W hW; go_simp; first | done | rfl | (first | (go_at_call 77; exact (l01BasisAt k hk8 _).mono fun e w2 ⟨he, hw2⟩ => ⟨he, hW.trans (hw2.mono hW.size)⟩) | (go_at_call 104; refine (l01Times_any p n f _ _ _ hp hp' hn HF.out ?_ ?_).mono (fun e w2 ⟨he, hw2⟩ => ⟨he, hW.trans (hw2.mono hW.size)⟩) <;> first | exact HU.out | exact HE.out)))); simp only [Act.put, List.setIfInBounds_toArray, List.set_cons_zero, List.set_cons_succ]) | (refine q_skip (by rfl) ?_; simp only [Act.put, List.setIfInBounds_toArray, List.set_cons_zero, List.set_cons_succ]) | (refine q_want (by rfl) ?_; apply Exists.intro; refine ⟨fun W hW => ?_, ?_⟩; (focus (obtain ⟨x1, x2⟩ := HC W hW; go_simp; first | done | rfl | (first | (go_at_call 77; exact (l01BasisAt k hk8 _).mono fun e w2 ⟨he, hw2⟩ => ⟨he, hW.trans (hw2.mono hW.size)⟩) | (go_at_call 104; refine (l01Times_any p n f _ _ _ hp hp' hn HF.out ?_ ?_).mono (fun e w2 ⟨he, hw2⟩ => ⟨he, hW.trans (hw2.mono hW.size)⟩) <;> first | exact HU.out | exact HE.out)))); simp only [Act.put, List.setIfInBounds_toArray, List.set_cons_zero, List.set_cons_succ]))
          refine wpQuiet_nil ?_
          intro W hW
          obtain ⟨x1, x2⟩ := HC W hW
          have hb2 := hb.trans (hW.mono hbz)
          go_wp2
          go_ret
          exact ⟨ret_bool (by rw [HA.out, H.out] <;> rfl), hb2⟩
        · cases hu2 : segEq 0 8 (mulF p n (mtab f) (ebas k) f) (ebas k)
          · have H : Hid (unitB p n f = false) := Lib.hid (all_no (q := unitAt p n f) k n hlt (by unfold unitAt; rw [hu1, hu2]; rfl))
            go_wp2
            refine wp_quiet_all (Below wr.heap.size wr) (by kernel_rfl) (by kernel_rfl) (Below.refl _ _).drew ?_
            repeat (first | (refine q_plain rfl ?_; apply Exists.intro; refine ⟨fun W hW => ?_, ?_⟩; (focus (obtain ⟨x1, x2⟩ := HC W hW; go_simp; first | done | rfl | (first | (go_at_call 77; exact (l01BasisAt k hk8 _).mono fun e w2 ⟨he, hw2⟩ => ⟨he, hW.trans (hw2.mono hW.size)⟩) | (go_at_call 104; refine (l01Times_any p n f _ _ _ hp hp' hn HF.out ?_ ?_).mono (fun e w2 ⟨he, hw2⟩ => ⟨he, hW.trans (hw2.mono hW.size)⟩) <;> first | exact HU.out | exact HE.out)))); simp only [Act.put, List.setIfInBounds_toArray, List.set_cons_zero, List.set_cons_succ]) | (refine q_skip (by rfl) ?_; simp only [Act.put, List.setIfInBounds_toArray, List.set_cons_zero, List.set_cons_succ]) | (refine q_want (by rfl) ?_; apply Exists.intro; refine ⟨fun W hW => ?_, ?_⟩; (focus (obtain ⟨x1, x2⟩ := HC W hW; go_simp; first | done | rfl | (first | (go_at_call 77; exact (l01BasisAt k hk8 _).mono fun e w2 ⟨he, hw2⟩ => ⟨he, hW.trans (hw2.mono hW.size)⟩) | (go_at_call 104; refine (l01Times_any p n f _ _ _ hp hp' hn HF.out ?_ ?_).mono (fun e w2 ⟨he, hw2⟩ => ⟨he, hW.trans (hw2.mono hW.size)⟩) <;> first | exact HU.out | exact HE.out)))); simp only [Act.put, List.setIfInBounds_toArray, List.set_cons_zero, List.set_cons_succ]))
            refine wpQuiet_nil ?_
            intro W hW
            obtain ⟨x1, x2⟩ := HC W hW
            have hb2 := hb.trans (hW.mono hbz)
            go_wp2
            go_ret
            exact ⟨ret_bool (by rw [HA.out, H.out] <;> rfl), hb2⟩
          · have H := Lib.hid (upto_more (q := unitAt p n f) Hn.out (by unfold unitAt; rw [hu1, hu2]; rfl))
            go_wp2
            refine wp_quiet_all (Below wr.heap.size wr) (by kernel_rfl) (by kernel_rfl) (Below.refl _ _).drew ?_
            repeat (first | (refine q_plain rfl ?_; apply Exists.intro; refine ⟨fun W hW => ?_, ?_⟩; (focus (obtain ⟨x1, x2⟩ := HC W hW; go_simp; first | done | rfl | (first | (go_at_call 77; exact (l01BasisAt k hk8 _).mono fun e w2 ⟨he, hw2⟩ => ⟨he, hW.trans (hw2.mono hW.size)⟩) | (go_at_call 104; refine (l01Times_any p n f _ _ _ hp hp' hn HF.out ?_ ?_).mono (fun e w2 ⟨he, hw2⟩ => ⟨he, hW.trans (hw2.mono hW.size)⟩) <;> first | exact HU.out | exact HE.out)))); simp only [Act.put, List.setIfInBounds_toArray, List.set_cons_zero, List.set_cons_succ]) | (refine q_skip (by rfl) ?_; simp only [Act.put, List.setIfInBounds_toArray, List.set_cons_zero, List.set_cons_succ]) | (refine q_want (by rfl) ?_; apply Exists.intro; refine ⟨fun W hW => ?_, ?_⟩; (focus (obtain ⟨x1, x2⟩ := HC W hW; go_simp; first | done | rfl | (first | (go_at_call 77; exact (l01BasisAt k hk8 _).mono fun e w2 ⟨he, hw2⟩ => ⟨he, hW.trans (hw2.mono hW.size)⟩) | (go_at_call 104; refine (l01Times_any p n f _ _ _ hp hp' hn HF.out ?_ ?_).mono (fun e w2 ⟨he, hw2⟩ => ⟨he, hW.trans (hw2.mono hW.size)⟩) <;> first | exact HU.out | exact HE.out)))); simp only [Act.put, List.setIfInBounds_toArray, List.set_cons_zero, List.set_cons_succ]))
            refine wpQuiet_nil ?_
            intro W hW
            obtain ⟨x1, x2⟩ := HC W hW
            have hb2 := hb.trans (hW.mono hbz)
            go_wp2
            go_roundw
            case rel => exact ⟨k + 1, by omega, by go_num, hb2, ⟨x1, x2⟩, H.out⟩
            case measure => simp [intOf]; omega
      · have H : Hid (unitB p n f = true) := Lib.hid (all_yes (q := unitAt p n f) n fun i hi => Hn.out i (by omega))
        go_wp2_with fail
        refine (l01Fault_any p n f _ hp hp' hn HF.out).mono ?_
        rintro e w3 (⟨rfl, hno, hw3⟩ | ⟨b, i, j, l, rfl, hfi, hw3, hbb, r3, c3⟩)
        · have HN : Hid (noFaultB p n f = true) := Lib.hid ((noFaultB_iff p n f).2 hno)
          clear hno
          go_wp2
          go_ret
          exact ⟨ret_bool (by rw [HA.out, H.out, HN.out] <;> rfl), hb.trans (hw3.mono hbz)⟩
        · have HN : Hid (noFaultB p n f = false) := Lib.hid (noFaultB_not hfi)
          clear hfi
          go_wp2
          go_ret
          exact ⟨ret_bool (by rw [HA.out, H.out, HN.out] <;> rfl), hb.trans (hw3.mono hbz)⟩

end Go.Proofs.Ytnjjcimpcnennaa
