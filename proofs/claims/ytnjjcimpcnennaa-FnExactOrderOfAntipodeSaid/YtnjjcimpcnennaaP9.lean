/- l01Fault, IsAlgebra, l01Is: the same Boolean function. -/
import Derived.Test.YtnjjcimpcnennaaP8
namespace Go.Proofs.Ytnjjcimpcnennaa
open Go.RowKit
set_option linter.unusedSimpArgs false
set_option linter.unusedVariables false

set_option maxRecDepth 100000 in
set_option maxHeartbeats 4000000 in
theorem l01Fault_any (p : Int) (n : Nat) (f : Nat → Int) (w : World) (hp : 0 < p) (hp' : p ≤ 255) (hn : n ≤ 8) (hF : Bytes 520 f) :
    Calls Try.prog 105 #[.agg (alg p n f)] w fun e w' =>
      (e = .returned (.tuple #[.slice none 0 0, .bool false]) ∧ NoFault p n f ∧ Below w.heap.size w w') ∨
      (∃ b i j k, e = .returned (.tuple #[.slice (some ⟨b, 0, none⟩) 3 3, .bool true]) ∧ FirstAt p n f i j k ∧ Below w.heap.size w w' ∧ w.heap.size ≤ b ∧ IsRow w' b ∧ blk w' b = cells3 i j k) := by
  have HF := Lib.hid hF
  clear hF
  go_enter Try.func105, Try.ntmps105
  go_wp2
  go_loopw [4] (fun s wr => ∃ i : Nat, i ≤ n ∧ s = .int .i64 i ∧ Below w.heap.size w wr ∧ (IsRow wr w.heap.size ∧ blk wr w.heap.size = alg p n f) ∧ Clean3 p n f i 0 0) (fun s _ => n - (intOf s).toNat)
  case atStart => exact ⟨0, by omega, rfl, (Below.refl _ _).alloc (Nat.le_refl _) _, by simp [go_sem], clean_start p n f⟩
  case round =>
    obtain ⟨i, hi, rfl, hb, ⟨r0, c0⟩, hc⟩ := hrel
    have Hc := Lib.hid hc
    clear hc
    by_cases hlt : i < n
    · have hi8 : (i : Int) < 8 := by omega
      have hi8' : i < 8 := by omega
      go_wp2
      obtain ⟨wo, rfl⟩ : ∃ wo : World, wo = wr := ⟨_, rfl⟩
      go_loopw [5] (fun s wr => ∃ j : Nat, j ≤ n ∧ s = .int .i64 j ∧ Below w.heap.size w wr ∧ (IsRow wr w.heap.size ∧ blk wr w.heap.size = alg p n f) ∧ Clean3 p n f i j 0) (fun s _ => n - (intOf s).toNat)
      case atStart => exact ⟨0, by omega, rfl, hb, ⟨r0, c0⟩, Hc.out⟩
      case round =>
        obtain ⟨j, hj, rfl, hb', ⟨s0, d0⟩, hc⟩ := hrel
        have Hc2 := Lib.hid hc
        clear hc hb r0 c0
        by_cases hjt : j < n
        · have hj8 : (j : Int) < 8 := by omega
          have hj8' : j < 8 := by omega
          go_wp2
          obtain ⟨wo2, rfl⟩ : ∃ wo2 : World, wo2 = wr := ⟨_, rfl⟩
          go_loopw [6] (fun s wr => ∃ k : Nat, k ≤ n ∧ s = .int .i64 k ∧ Below w.heap.size w wr ∧ (IsRow wr w.heap.size ∧ blk wr w.heap.size = alg p n f) ∧ Clean3 p n f i j k) (fun s _ => n - (intOf s).toNat)
          case atStart => exact ⟨0, by omega, rfl, hb', ⟨s0, d0⟩, Hc2.out⟩
          case round =>
            obtain ⟨k, hk, rfl, hb, ⟨r0, c0⟩, hc⟩ := hrel
            have Hc3 := Lib.hid hc
            clear hc hb' s0 d0
            by_cases hkt : k < n
            · have hk8 : (k : Int) < 8 := by omega
              have hk8' : k < 8 := by omega
              have z0 := isRow_lt r0
              have hbz := hb.size
              have HM1 : Hid (Bytes 8 (mtab f i j)) := Lib.hid (mtab_bytes HF.out i j hi8' hj8')
              have HM2 : Hid (Bytes 8 (mtab f j k)) := Lib.hid (mtab_bytes HF.out j k hj8' hk8')
              have HE1 : Hid (Bytes 8 (ebas k)) := Lib.hid (ebas_bytes k)
              have HE2 : Hid (Bytes 8 (ebas i)) := Lib.hid (ebas_bytes i)
              have e1 := alg_at8 p n f i j hi8' hj8'
              have e2 := alg_at8 p n f j k hj8' hk8'
              have l1 : 10 + i * 64 + j * 8 + 8 ≤ 522 := by omega
              have l2 : 10 + j * 64 + k * 8 + 8 ≤ 522 := by omega
              have HC : ∀ W, Below wr.heap.size wr W → IsRow W w.heap.size ∧ blk W w.heap.size = alg p n f := fun W h => keepB h z0 r0 c0
              go_wp2
              refine wp_quiet_all (Below wr.heap.size wr) (by kernel_rfl) (by kernel_rfl) (Below.refl _ _).drew ?_
              repeat (first | (refine q_skip (by rfl) ?_; simp only [Act.put, List.setIfInBounds_toArray, List.set_cons_zero, List.set_cons_succ]) | (refine q_want (by rfl) ?_; apply Exists.intro; refine ⟨fun W hW => ?_, ?_⟩; (focus (obtain ⟨x1, x2⟩ := HC W hW; go_simp; first | done | rfl | (first | (go_at_call 77; refine (l01BasisAt _ ?_ _).mono (fun e w2 ⟨he, hw2⟩ => ⟨he, hW.trans (hw2.mono hW.size)⟩); first | exact hk8' | exact hi8') | (go_at_call 104; refine (l01Times_any p n f _ _ _ hp hp' hn HF.out ?_ ?_).mono (fun e w2 ⟨he, hw2⟩ => ⟨he, hW.trans (hw2.mono hW.size)⟩) <;> first | exact HM1.out | exact HE1.out | exact HE2.out | exact HM2.out)))); simp only [Act.put, List.setIfInBounds_toArray, List.set_cons_zero, List.set_cons_succ]))
              refine wpQuiet_nil ?_
              intro W hW
              obtain ⟨x1, x2⟩ := HC W hW
              have hb2 := hb.trans (hW.mono hbz)
              cases hq : segEq 0 8 (mulF p n (mtab f) (mtab f i j) (ebas k)) (mulF p n (mtab f) (ebas i) (mtab f j k))
              · have H := Lib.hid (show FirstAt p n f i j k from ⟨hlt, hjt, hkt, by unfold faultAt; rw [hq]; rfl, Hc3.out⟩)
                go_wp2
                go_ret2
                refine .inr ⟨_, i, j, k, rfl, H.out, hb2.alloc hb2.size _, ?_, ?_, ?_⟩
                · have := hb2.size; simp at this ⊢; omega
                · simp [go_sem]
                · simp [go_sem, cells3]
              · have H := Lib.hid (clean_step Hc3.out (by unfold faultAt; rw [hq]; rfl))
                go_wp2
                go_roundw
                case rel => exact ⟨k + 1, by omega, by go_num, hb2, ⟨x1, x2⟩, H.out⟩
                case measure => simp [intOf]; omega
            · obtain rfl : k = n := by omega
              go_wp2
              go_roundw
              case rel => exact ⟨j + 1, by omega, by go_num, hb, ⟨r0, c0⟩, clean_col Hc3.out⟩
              case measure => simp [intOf]; omega
        · obtain rfl : j = n := by omega
          go_wp2
          go_roundw
          case rel => exact ⟨i + 1, by omega, by go_num, hb', ⟨s0, d0⟩, clean_row Hc2.out⟩
          case measure => simp [intOf]; omega
    · obtain rfl : i = n := by omega
      go_wp2
      go_ret2
      exact .inl ⟨rfl, fun i' j' k' h1 h2 h3 => Hc.out.rows i' j' k' h1 h2 h3, hb⟩
end Go.Proofs.Ytnjjcimpcnennaa
