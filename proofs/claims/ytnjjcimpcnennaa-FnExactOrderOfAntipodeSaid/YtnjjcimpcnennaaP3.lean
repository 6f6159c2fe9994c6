/- Contracts of the functions on numbers modulo p and of sums of rows. -/
import Derived.Test.YtnjjcimpcnennaaP2
import Derived.Test.YtnjjcimpcnennaaMath
import Derived.Test.YtnjjcimpcnennaaRegion
import Derived.BigQuiet
import Derived.Laws.CopyOwn
namespace Go.Proofs.Ytnjjcimpcnennaa
open Go.RowKit
set_option linter.unusedSimpArgs false
set_option linter.unusedVariables false

theorem ret_u8 {a b : Int} (h : a = b) : Ending.returned (.int .u8 a) = .returned (.int .u8 b) := by rw [h]

theorem timesNumber_any (p x y : Int) (w : World) (hp : 0 < p) (hp' : p ≤ 255) (hx : 0 ≤ x) (hx' : x ≤ 255) (hy : 0 ≤ y) (hy' : y ≤ 255) :
    Calls Try.prog 86 #[.int .i64 p, .int .u8 x, .int .u8 y] w fun e w' => e = .returned (.int .u8 (x * y % p)) ∧ w = w' := by
  have h1 := (prod_le x y 255 255 hx hy hx' hy').1
  have h2 := (prod_le x y 255 255 hx hy hx' hy').2
  have h3 := (mod_range (x * y) p hp).1
  have h4 := (mod_range (x * y) p hp).2
  go_enter Try.func86, Try.ntmps86
  go_wp2
  go_ret
  exact ⟨rfl, rfl⟩

theorem l01Mod_any (p x : Int) (w : World) (hp : 0 < p) (hp' : p ≤ 255) (_hx : -1000000 ≤ x) (_hx' : x ≤ 1000000) :
    Calls Try.prog 94 #[.int .i64 p, .int .i64 x] w fun e w' => e = .returned (.int .u8 (x % p)) ∧ w = w' := by
  have H := Lib.hid (tmod_emod_pos x p hp)
  have h3 := (mod_range x p hp).1
  have h4 := (mod_range x p hp).2
  have h5 := Int.lt_tmod_of_pos x hp
  have h6 := Int.tmod_lt_of_pos x hp
  go_enter Try.func94, Try.ntmps94
  go_wp2
  go_ret
  exact ⟨ret_u8 (by rw [H.out]; omega), rfl⟩

theorem basisVector_any (i : Int) (w : World) (h0 : 0 ≤ i) (h8 : i < 8) :
    Calls Try.prog 57 #[.int .i64 i] w fun e w' => e = .returned (.agg (row 8 (upd zf i.toNat 1))) ∧ Below w.heap.size w w' := by
  obtain ⟨k, rfl⟩ := Int.eq_ofNat_of_zero_le h0
  have hk : k < 8 := by omega
  go_enter Try.func57, Try.ntmps57
  go_wp2
  refine bodyPost_ret (result_cell rfl aggVec _ _ (row 8 (upd zf k 1)) _ rfl ?_ ?_) rfl ⟨rfl, ?_⟩
  · simp [go_sem]
  · simp [go_sem]
  · exact ((Below.refl _ _).alloc (Nat.le_refl _) _).alloc (by simp) _

theorem l01Basis_any (i : Int) (w : World) (h0 : 0 ≤ i) (h8 : i < 8) :
    Calls Try.prog 77 #[.int .i64 i] w fun e w' => e = .returned (.agg (row 8 (upd zf i.toNat 1))) ∧ Below w.heap.size w w' := by
  obtain ⟨k, rfl⟩ := Int.eq_ofNat_of_zero_le h0
  have hk : k < 8 := by omega
  go_enter Try.func77, Try.ntmps77
  go_wp2
  refine bodyPost_ret (result_cell rfl aggVec _ _ (row 8 (upd zf k 1)) _ rfl ?_ ?_) rfl ⟨rfl, ?_⟩
  · simp [go_sem]
  · simp [go_sem]
  · exact ((Below.refl _ _).alloc (Nat.le_refl _) _).alloc (by simp) _

/-! ### addMultiple -/
/-- f with c times g added modulo p to the m entries from off on, the first k of them -/
def addm (p : Int) (off k : Nat) (c : Int) (f g : Nat → Int) : Nat → Int := fun i => if off ≤ i ∧ i < off + k then (f i + c * g (i - off)) % p else f i
theorem addm_zero (p : Int) (off : Nat) (c : Int) (f g : Nat → Int) : addm p off 0 c f g = f := by
  funext i; unfold addm; rw [if_neg (by omega)]
theorem addm_at (p : Int) (off k : Nat) (c : Int) (f g : Nat → Int) : addm p off k c f g (off + k) = f (off + k) := by
  unfold addm; rw [if_neg (by omega)]
theorem addm_succ (p : Int) (off k : Nat) (c : Int) (f g : Nat → Int) : upd (addm p off k c f g) (off + k) ((f (off + k) + c * g k) % p) = addm p off (k + 1) c f g := by
  funext i
  unfold upd addm
  by_cases e : i = off + k
  · subst e
    rw [if_pos rfl, if_pos (by omega), Nat.add_sub_cancel_left]
  · rw [if_neg e]
    by_cases h : off ≤ i ∧ i < off + k
    · rw [if_pos h, if_pos (by omega)]
    · rw [if_neg h, if_neg (by omega)]
theorem addm_same (p : Int) (off k : Nat) (f g : Nat → Int) (h : ∀ i, off ≤ i → i < off + k → 0 ≤ f i ∧ f i < p) : addm p off k 0 f g = f := by
  funext i
  unfold addm
  split
  · rename_i hi
    rw [Int.zero_mul, Int.add_zero, Int.emod_eq_of_lt (h i hi.1 hi.2).1 (h i hi.1 hi.2).2]
  · rfl

theorem setRow_same {w : World} {b : Nat} (h : IsRow w b) : w.setRow b (blk w b) = w := by
  obtain ⟨t, h1⟩ := isRow_heap h
  exact setRow_self w b _ t (0, 0) h1

set_option maxRecDepth 100000 in
set_option maxHeartbeats 1000000 in
theorem addMultiple_any (p c : Int) (b off N m cap cap' b' off' : Nat) (f g : Nat → Int) (w : World) (hp : 0 < p) (hp' : p ≤ 255) (hc : 0 ≤ c) (hc' : c ≤ 255)
    (hr : IsRow w b) (hf : blk w b = row N f) (hN : off + m ≤ N) (hm : m ≤ 1000000) (hfr : ∀ i, off ≤ i → i < off + m → 0 ≤ f i ∧ f i < p)
    (hg : ∀ i, i < m → (blk w b')[off' + i]? = some (.int .u8 (g i)) ∧ 0 ≤ g i ∧ g i ≤ 255) (hbb : b' ≠ b) :
    Calls Try.prog 76 #[.int .i64 p, .slice (some ⟨b, off, none⟩) m cap, .int .u8 c, .slice (some ⟨b', off', none⟩) m cap'] w fun e w' =>
      e = .returned (.tuple #[]) ∧ w.setRow b (row N (addm p off m c f g)) = w' := by
  have Hg := Lib.hid hg
  have Hfr := Lib.hid hfr
  have HN := Lib.hid hN
  clear hg hfr
  by_cases hc0 : c = 0
  · subst hc0
    have H : Hid (w.setRow b (row N (addm p off m 0 f g)) = w) := by
      have : w.setRow b (row N (addm p off m 0 f g)) = w := by rw [addm_same p off m f g Hfr.out, ← hf]; exact setRow_same hr
      exact Lib.hid this
    go_enter Try.func76, Try.ntmps76
    go_wp2
    (try simp only [Exit.inBlock, Exit.then]); refine bodyPost_ret (results_none rfl _ _ _) rfl ⟨rfl, H.out⟩
  · have hc1 : (c == 0) = false := by simpa using hc0
    clear hc0
    have H0 : Hid (w = w.setRow b (row N (addm p off 0 c f g))) := by
      have : w = w.setRow b (row N (addm p off 0 c f g)) := by rw [addm_zero, ← hf]; exact (setRow_same hr).symm
      exact Lib.hid this
    go_enter Try.func76, Try.ntmps76
    go_wp2
    go_loopw [14] (fun i wr => ∃ k : Nat, k ≤ m ∧ i = .int .i64 k ∧ wr = w.setRow b (row N (addm p off k c f g))) (fun i _ => m - (intOf i).toNat)
    case atStart => exact ⟨0, by omega, rfl, H0.out⟩
    case round =>
      obtain ⟨k, hk, rfl, rfl⟩ := hrel
      by_cases hlt : k < m
      · have e1 := addm_at p off k c f g
        have e2 := (Hg.out k hlt).1
        have b1 := (Hg.out k hlt).2.1
        have b2 := (Hg.out k hlt).2.2
        have b3 := (Hfr.out (off + k) (by omega) (by omega)).1
        have b4 := (Hfr.out (off + k) (by omega) (by omega)).2
        have b5 := (prod_le c (g k) 255 255 hc b1 hc' b2).1
        have b6 := (prod_le c (g k) 255 255 hc b1 hc' b2).2
        have b7 := (mod_range (f (off + k) + c * g k) p hp).1
        have b8 := (mod_range (f (off + k) + c * g k) p hp).2
        have hlt2 : off + k < N := by omega
        go_wp2
        go_roundw
        case rel => exact ⟨k + 1, by omega, by go_num, by rw [addm_succ]⟩
        case measure => simp [intOf]; omega
      · obtain rfl : k = m := by omega
        go_wp2
        (try simp only [Exit.inBlock, Exit.then]); refine bodyPost_end (results_none rfl _ _ _) rfl ⟨rfl, rfl⟩

/-! ### l01Add -/
set_option maxRecDepth 100000 in
set_option maxHeartbeats 1000000 in
theorem l01Add_any (p c : Int) (f g : Nat → Int) (w : World) (hp : 0 < p) (hp' : p ≤ 255) (hc : -1000 ≤ c) (hc' : c ≤ 1000) (hf : Bytes 8 f) (hg : Bytes 8 g) :
    Calls Try.prog 74 #[.int .i64 p, .agg (row 8 f), .agg (row 8 g), .int .i64 c] w fun e w' => e = .returned (.agg (row 8 (addm p 0 8 c f g))) ∧ Below w.heap.size w w' := by
  have Hf := Lib.hid hf
  have Hg := Lib.hid hg
  clear hf hg
  have H0 : Hid (row 8 f = row 8 (addm p 0 0 c f g)) := by
    have : row 8 f = row 8 (addm p 0 0 c f g) := by rw [addm_zero]
    exact Lib.hid this
  go_enter Try.func74, Try.ntmps74
  go_wp2
  go_loopw [9] (fun i wr => ∃ k : Nat, k ≤ 8 ∧ i = .int .i64 k ∧ Below w.heap.size w wr ∧ IsRow wr w.heap.size ∧ blk wr w.heap.size = row 8 (addm p 0 k c f g) ∧
      IsRow wr (w.heap.size + 1) ∧ blk wr (w.heap.size + 1) = row 8 g ∧ IsRow wr (w.heap.size + 2) ∧ blk wr (w.heap.size + 2) = row 8 zf) (fun i _ => 8 - (intOf i).toNat)
  case atStart =>
    refine ⟨0, by omega, rfl, (((Below.refl _ _).alloc (Nat.le_refl _) _).alloc (by simp) _).alloc (by simp; omega) _, by simp [go_sem], ?_, by simp [go_sem], ?_, by simp [go_sem], ?_⟩
    · rw [← H0.out]; simp [go_sem]
    · simp [go_sem]
    · simp [go_sem]
  case round =>
    obtain ⟨k, hk, rfl, hb, r0, c0, r1, c1, r2, c2⟩ := hrel
    by_cases hlt : k < 8
    · have e1 := addm_at p 0 k c f g
      rw [Nat.zero_add] at e1
      have b1 := (Hf.out k hlt).1
      have b2 := (Hf.out k hlt).2
      have b3 := (Hg.out k hlt).1
      have b4 := (Hg.out k hlt).2
      have z0 := isRow_lt r0
      have z1 := isRow_lt r1
      have z2 := isRow_lt r2
      have p1 : -255000 ≤ c * g k := by
        have := Int.mul_le_mul_of_nonneg_right hc b3
        have : (-1000 : Int) * 255 ≤ -1000 * g k := by omega
        omega
      have p2 : c * g k ≤ 255000 := by
        have := Int.mul_le_mul_of_nonneg_right hc' b3
        omega
      have q3 : IntKind.i64.wrap (f k) = f k := IntWalk.i64_in _ (by omega)
      have q4 : IntKind.i64.wrap (g k) = g k := IntWalk.i64_in _ (by omega)
      have q1 : IntKind.i64.wrap (c * g k) = c * g k := IntWalk.i64_in _ (by omega)
      have q2 : IntKind.i64.wrap (f k + c * g k) = f k + c * g k := IntWalk.i64_in _ (by omega)
      have HC : ∀ W, Below wr.heap.size wr W → (IsRow W w.heap.size ∧ blk W w.heap.size = row 8 (addm p 0 k c f g)) ∧ (IsRow W (w.heap.size + 1) ∧ blk W (w.heap.size + 1) = row 8 g) := fun W h => ⟨keepB h z0 r0 c0, keepB h z1 r1 c1⟩
      go_wp2
      refine wp_quiet_tail 15 (Below wr.heap.size wr) (by kernel_rfl) (by kernel_rfl) (Below.refl _ _).drew ?_
      simp only [List.take_succ_cons, List.take_zero, List.drop_succ_cons, List.drop_zero]
      repeat (first | (refine q_skip (by rfl) ?_; simp only [Act.put, List.setIfInBounds_toArray, List.set_cons_zero, List.set_cons_succ]) | (refine q_want (by rfl) ?_; apply Exists.intro; refine ⟨fun W hW => ?_, ?_⟩; (focus (obtain ⟨⟨x1, x2⟩, x3, x4⟩ := HC W hW; go_simp; first | done | rfl | ((go_at_call 94; exact (l01Mod_any _ _ _ hp hp' (by omega) (by omega)).mono fun e w2 ⟨he, hw2⟩ => ⟨he, hw2 ▸ hW⟩)))); simp only [Act.put, List.setIfInBounds_toArray, List.set_cons_zero, List.set_cons_succ]))
      refine wpQuiet_nil ?_
      intro W hW
      obtain ⟨⟨x1, x2⟩, x3, x4⟩ := HC W hW
      have y1 := keepB hW z2 r2 c2
      clear q1 q2 q3 q4
      go_wp2
      have hs := addm_succ p 0 k c f g
      rw [Nat.zero_add] at hs
      go_roundw
      case rel =>
        refine ⟨k + 1, by omega, by go_num, (hb.trans (hW.mono hb.size)).trans (below_setRow (Below.refl _ _) (Nat.le_refl _) _), by simp [go_sem, x1], by simp [go_sem, x1, hs], by simp [go_sem, x3], by simp [go_sem, x1, x4], by simp [go_sem, y1.1], by simp [go_sem, x1, y1.2]⟩
      case measure => simp [intOf]; omega
    · obtain rfl : k = 8 := by omega
      go_wp2
      refine bodyPost_ret (result_cell rfl aggVec _ _ (row 8 (addm p 0 8 c f g)) _ rfl ?_ ?_) rfl ⟨rfl, ?_⟩
      · simp [go_sem, r2, c2]
      · simp [go_sem, r2, c2]
      · exact hb.trans (below_setRow (Below.refl _ _) (by omega) _)
end Go.Proofs.Ytnjjcimpcnennaa
