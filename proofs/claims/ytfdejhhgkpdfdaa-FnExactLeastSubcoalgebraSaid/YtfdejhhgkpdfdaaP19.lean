/- Lists of numbers: the laws' eqInt64S, markInt64S, heldInt64S. -/
import Derived.Test.YtfdejhhgkpdfdaaEqs
import Derived.Test.YtfdejhhgkpdfdaaPA
namespace Go.Proofs.Ytfdejhhgkpdfdaa
open Go.RowKit
set_option linter.unusedSimpArgs false
set_option linter.unusedVariables false
attribute [local irreducible] wpQuiet wpQE

theorem nums_congr {m : Nat} {f g : Nat → Int} (h : ∀ i, i < m → f i = g i) : nums m f = nums m g := by
  apply Array.ext_getElem?
  intro i
  by_cases hi : i < m
  · rw [nums_get? m f i hi, nums_get? m g i hi, h i hi]
  · rw [nums_none m f i (by omega), nums_none m g i (by omega)]

set_option maxRecDepth 100000 in
theorem eqInt64S_nil (w : World) : Calls Try.prog 26 #[.slice none 0 0, .slice none 0 0] w fun e w' => e = .returned (.bool true) ∧ Below w.heap.size w w' := by
  go_enter Try.func26, Try.ntmps26
  go_wp2
  go_loopw [5] (fun i wr => i = .int .i64 0 ∧ wr = w) (fun i _ => 0 - (intOf i).toNat)
  case atStart => exact ⟨rfl, rfl⟩
  case round =>
    obtain ⟨rfl, rfl⟩ := hrel
    go_wp2
    go_ret
    exact ⟨rfl, Below.refl _ _⟩

set_option maxRecDepth 100000 in
theorem eqInt64S_same (b b' m c c' : Nat) (g : Nat → Int) (w : World) (hm : m ≤ 1000000) (hr : IsRow w b) (hc : blk w b = nums m g) (hr' : IsRow w b') (hc' : blk w b' = nums m g) :
    Calls Try.prog 26 #[.slice (some ⟨b, 0, none⟩) m c, .slice (some ⟨b', 0, none⟩) m c'] w fun e w' => e = .returned (.bool true) ∧ Below w.heap.size w w' := by
  have hlt := isRow_lt hr
  have hlt' := isRow_lt hr'
  go_enter Try.func26, Try.ntmps26
  go_wp2
  go_loopw [5] (fun i wr => ∃ k : Nat, k ≤ m ∧ i = .int .i64 k ∧ Below w.heap.size w wr) (fun i _ => m - (intOf i).toNat)
  case atStart => exact ⟨0, by omega, rfl, Below.refl _ _⟩
  case round =>
    obtain ⟨k, hk, rfl, hb⟩ := hrel
    by_cases hkm : k < m
    · obtain ⟨r0, c0⟩ := keepB hb hlt hr hc
      obtain ⟨r1, c1⟩ := keepB hb hlt' hr' hc'
      have z0 := isRow_lt r0
      have z1 := isRow_lt r1
      have hbz := hb.size
      have HC : ∀ W, Below wr.heap.size wr W → (IsRow W b ∧ blk W b = nums m g) ∧ (IsRow W b' ∧ blk W b' = nums m g) := fun W h => ⟨keepB h z0 r0 c0, keepB h z1 r1 c1⟩
      go_wp2
      refine wp_quiet_all (Below wr.heap.size wr) (by kernel_rfl) (by kernel_rfl) (Below.refl _ _).drew ?_
      repeat (first | (refine q_plain rfl ?_; apply Exists.intro; refine ⟨fun W hW => ?_, ?_⟩; (focus (obtain ⟨⟨x1, x2⟩, x3, x4⟩ := HC W hW; go_simp; first | done | rfl | (fail))); simp only [Act.put, List.setIfInBounds_toArray, List.set_cons_zero, List.set_cons_succ]) | (refine q_skip (by rfl) ?_; simp only [Act.put, List.setIfInBounds_toArray, List.set_cons_zero, List.set_cons_succ]) | (refine q_want (by rfl) ?_; apply Exists.intro; refine ⟨fun W hW => ?_, ?_⟩; (focus (obtain ⟨⟨x1, x2⟩, x3, x4⟩ := HC W hW; go_simp; first | done | rfl | (fail))); simp only [Act.put, List.setIfInBounds_toArray, List.set_cons_zero, List.set_cons_succ]))
      refine wpQuiet_nil ?_
      intro W hW
      have hb2 := hb.trans (hW.mono hbz)
      go_wp2
      go_roundw
      case rel => exact ⟨k + 1, by omega, by go_num, hb2⟩
      case measure => simp [intOf]; omega
    · obtain rfl : k = m := by omega
      go_wp2
      go_ret
      exact ⟨rfl, hb⟩

set_option maxRecDepth 100000 in
theorem markInt64S_nil (c : Int) (w : World) : Calls Try.prog 27 #[.slice none 0 0, .int .i64 c] w fun e w' => e = .returned (.int .i64 c) ∧ w = w' := by
  go_enter Try.func27, Try.ntmps27
  go_wp2
  go_loopw [1, 5] (fun s i wr => s = .int .i64 c ∧ i = .int .i64 0 ∧ wr = w) (fun _ i _ => 0 - (intOf i).toNat)
  case atStart => exact ⟨rfl, rfl, rfl⟩
  case round =>
    obtain ⟨rfl, rfl, rfl⟩ := hrel
    go_wp2
    go_ret
    exact ⟨rfl, rfl⟩
set_option maxRecDepth 100000 in
theorem heldInt64S_nil (c : Int) (w : World) : Calls Try.prog 28 #[.slice none 0 0, .int .i64 c] w fun e w' => e = .returned (.int .i64 c) ∧ w = w' := by
  go_enter Try.func28, Try.ntmps28
  go_wp2
  go_loopw [1, 5] (fun s i wr => s = .int .i64 c ∧ i = .int .i64 0 ∧ wr = w) (fun _ i _ => 0 - (intOf i).toNat)
  case atStart => exact ⟨rfl, rfl, rfl⟩
  case round =>
    obtain ⟨rfl, rfl, rfl⟩ := hrel
    go_wp2
    go_ret
    exact ⟨rfl, rfl⟩

/-- c, c + 1, .. in the first k places, then g -/
def marked (c : Int) (g : Nat → Int) (k : Nat) : Nat → Int := fun i => if i < k then c + i else g i
theorem marked_zero (c : Int) (g : Nat → Int) : marked c g 0 = g := by funext i; simp [marked]
theorem marked_succ (c : Int) (g : Nat → Int) (k : Nat) : upd (marked c g k) k (c + k) = marked c g (k + 1) := by
  funext i
  unfold upd marked
  by_cases h : i = k
  · subst h; rw [if_pos rfl, if_pos (by omega)]
  · rw [if_neg h]
    by_cases h2 : i < k
    · rw [if_pos h2, if_pos (by omega)]
    · rw [if_neg h2, if_neg (by omega)]
set_option maxRecDepth 100000 in
theorem markInt64S_any (b m cp : Nat) (g : Nat → Int) (c : Int) (w : World) (hm : m ≤ 1000000) (h0 : 0 ≤ c) (h1 : c ≤ 1000000) (hr : IsRow w b) (hc : blk w b = nums m g) :
    Calls Try.prog 27 #[.slice (some ⟨b, 0, none⟩) m cp, .int .i64 c] w fun e w' => e = .returned (.int .i64 (c + m)) ∧ Below b w w' ∧ IsRow w' b ∧ blk w' b = nums m (marked c g m) := by
  have hlt := isRow_lt hr
  go_enter Try.func27, Try.ntmps27
  go_wp2
  go_loopw [1, 5] (fun s i wr => ∃ k : Nat, k ≤ m ∧ s = .int .i64 (c + k) ∧ i = .int .i64 k ∧ Below b w wr ∧ IsRow wr b ∧ blk wr b = nums m (marked c g k)) (fun _ i _ => m - (intOf i).toNat)
  case atStart => exact ⟨0, by omega, by simp, rfl, Below.refl _ _, hr, by rw [marked_zero]; exact hc⟩
  case round =>
    obtain ⟨k, hk, rfl, rfl, hb, r0, c0⟩ := hrel
    have z0 := isRow_lt r0
    by_cases hkm : k < m
    · have H := Lib.hid (marked_succ c g k)
      go_wp2
      go_roundw
      case rel =>
        refine ⟨k + 1, by omega, by go_num, by go_num, below_setRow hb (Nat.le_refl _) _, by simp [go_sem, r0], ?_⟩
        rw [blk_setRow _ _ _ _ r0, if_pos rfl, H.out]
      case measure => simp [intOf]; omega
    · obtain rfl : k = m := by omega
      go_wp2
      go_ret
      exact ⟨rfl, hb, r0, c0⟩
set_option maxRecDepth 100000 in
theorem heldInt64S_any (b m cp : Nat) (g : Nat → Int) (c : Int) (w : World) (hm : m ≤ 1000000) (h0 : 0 ≤ c) (h1 : c ≤ 1000000) (hr : IsRow w b) (hc : blk w b = nums m (marked c g m)) :
    Calls Try.prog 28 #[.slice (some ⟨b, 0, none⟩) m cp, .int .i64 c] w fun e w' => e = .returned (.int .i64 (c + m)) ∧ w = w' := by
  have hlt := isRow_lt hr
  go_enter Try.func28, Try.ntmps28
  go_wp2
  go_loopw [1, 5] (fun s i wr => ∃ k : Nat, k ≤ m ∧ s = .int .i64 (c + k) ∧ i = .int .i64 k ∧ wr = w) (fun _ i _ => m - (intOf i).toNat)
  case atStart => exact ⟨0, by omega, by simp, rfl, rfl⟩
  case round =>
    obtain ⟨k, hk, rfl, rfl, rfl⟩ := hrel
    by_cases hkm : k < m
    · have H : marked c g m k = c + k := by unfold marked; rw [if_pos hkm]
      go_wp2
      go_roundw
      case rel => exact ⟨k + 1, by omega, by go_num, by go_num, by first | rfl | trivial⟩
      case measure => simp [intOf]; omega
    · obtain rfl : k = m := by omega
      go_wp2
      go_ret
      exact ⟨rfl, rfl⟩
end Go.Proofs.Ytfdejhhgkpdfdaa
