/- The comparisons of the laws, lists of vectors and of numbers as cells: what most walks share. -/
import Derived.Test.YtjmmmggnbndolaaGreatPA
import Derived.Test.YtjmmmggnbndolaaGreatGen
namespace Go.Proofs.YtjmmmggnbndolaaGreat
open Go.RowKit
set_option linter.unusedSimpArgs false
set_option linter.unusedVariables false
attribute [local irreducible] wpQuiet wpQE

/-- ErrNone or ErrInvalid -/
def codeB (c : Bool) : Int := match c with | true => 0 | false => 1

theorem ret_int {a b : Int} (h : a = b) : Ending.returned (.int .i64 a) = .returned (.int .i64 b) := by rw [h]

set_option maxRecDepth 100000 in
theorem eqVector_same (v : Nat → Int) (w : World) :
    Calls Tryz.prog 39 #[.agg (row 8 v), .agg (row 8 v)] w fun e w' => e = .returned (.bool true) ∧ Below w.heap.size w w' := by
  go_enter Tryz.func39, Tryz.ntmps39
  go_wp2
  go_loopw [5] (fun i wr => ∃ k : Nat, k ≤ 8 ∧ i = .int .i64 k ∧ Below w.heap.size w wr ∧ (IsRow wr w.heap.size ∧ blk wr w.heap.size = row 8 v) ∧ (IsRow wr (w.heap.size + 1) ∧ blk wr (w.heap.size + 1) = row 8 v)) (fun i _ => 8 - (intOf i).toNat)
  case atStart => exact ⟨0, by omega, rfl, ((Below.refl _ _).alloc (Nat.le_refl _) _).alloc (by simp) _, by simp [go_sem], by simp [go_sem]⟩
  case round =>
    obtain ⟨k, hk, rfl, hb, ⟨r0, c0⟩, ⟨r1, c1⟩⟩ := hrel
    by_cases hlt : k < 8
    · have hi8 : (k : Int) < 8 := by omega
      have z0 := isRow_lt r0
      have z1 := isRow_lt r1
      have HC : ∀ W, Below wr.heap.size wr W → (IsRow W w.heap.size ∧ blk W w.heap.size = row 8 v) ∧ (IsRow W (w.heap.size + 1) ∧ blk W (w.heap.size + 1) = row 8 v) := fun W h => ⟨keepB h z0 r0 c0, keepB h z1 r1 c1⟩
      have hbz := hb.size
      go_wp2
      refine wp_quiet_all (Below wr.heap.size wr) (by kernel_rfl) (by kernel_rfl) (Below.refl _ _).drew ?_
      repeat (first | (refine q_plain rfl ?_; apply Exists.intro; refine ⟨fun W hW => ?_, ?_⟩; (focus (obtain ⟨⟨x1, x2⟩, x3, x4⟩ := HC W hW; go_simp; first | done | rfl | (fail))); simp only [Act.put, List.setIfInBounds_toArray, List.set_cons_zero, List.set_cons_succ]) | (refine q_skip (by rfl) ?_; simp only [Act.put, List.setIfInBounds_toArray, List.set_cons_zero, List.set_cons_succ]) | (refine q_want (by rfl) ?_; apply Exists.intro; refine ⟨fun W hW => ?_, ?_⟩; (focus (obtain ⟨⟨x1, x2⟩, x3, x4⟩ := HC W hW; go_simp; first | done | rfl | (fail))); simp only [Act.put, List.setIfInBounds_toArray, List.set_cons_zero, List.set_cons_succ]))
      refine wpQuiet_nil ?_
      intro W hW
      obtain ⟨⟨x1, x2⟩, x3, x4⟩ := HC W hW
      have hb2 := hb.trans (hW.mono hbz)
      go_wp2
      go_roundw
      case rel => exact ⟨k + 1, by omega, by go_num, hb2, ⟨x1, x2⟩, x3, x4⟩
      case measure => simp [intOf]; omega
    · go_wp2
      go_ret
      exact ⟨rfl, hb⟩

def buildN (P : Program) (T : TypeId) (len : Nat) (ps : Array (Nat × Value)) (w : World) : Result Next := (do pure (Next.value (← Instr.buildSlice T len ps)) : Sem Next).run P w

@[go_sem ↓] theorem xbuild2 (ρ : Operand → Value) (dst : Option Tmp) (a b : Operand) (ty : TypeId) (pos : String) (after : Array Edge) (guard : Option (Nat × Bool)) (w : World) :
    (execOp ρ ⟨dst, .buildSlice 29 2 #[(0, a), (1, b)], ty, pos, after, guard⟩).run Tryz.prog w = buildN Tryz.prog 29 2 #[(0, ρ a), (1, ρ b)] w := by kernel_rfl

@[go_sem ↓] theorem xbuild1 (ρ : Operand → Value) (dst : Option Tmp) (a : Operand) (ty : TypeId) (pos : String) (after : Array Edge) (guard : Option (Nat × Bool)) (w : World) :
    (execOp ρ ⟨dst, .buildSlice 29 1 #[(0, a)], ty, pos, after, guard⟩).run Tryz.prog w = buildN Tryz.prog 29 1 #[(0, ρ a)] w := by kernel_rfl

/-- v and u behind each other -/
def pair (v u : Nat → Int) : Nat → Int := fun i => if i < 8 then v i else u (i - 8)

@[go_sem] theorem build2 (v u : Nat → Int) (w : World) : buildN Tryz.prog 29 2 #[(0, .agg (row 8 v)), (1, .agg (row 8 u))] w = .ok (.value (.slice (some ⟨w.heap.size, 0, none⟩) 2 2)) (w.alloc (.cells (row 16 (pair v u)) 32)) := by kernel_rfl

@[go_sem] theorem build1 (v : Nat → Int) (w : World) : buildN Tryz.prog 29 1 #[(0, .agg (row 8 v))] w = .ok (.value (.slice (some ⟨w.heap.size, 0, none⟩) 1 1)) (w.alloc (.cells (row 8 v) 32)) := by kernel_rfl

/-- entry i of a list of vectors that lies in a row -/
def nth (F : Nat → Int) (i : Nat) : Nat → Int := fun t => F (i * 8 + t)

theorem nth_row (F : Nat → Int) (N i : Nat) (h : i * 8 + 8 ≤ N) : (row N F).extract (0 + i * 8) (0 + i * 8 + 8) = row 8 (nth F i) := by
  rw [row_extract _ _ _ _ (by omega), show 0 + i * 8 + 8 - (0 + i * 8) = 8 by omega]
  exact row_congr fun t _ => by unfold nth; rw [Nat.zero_add]

theorem nth_zero (v : Nat → Int) : nth v 0 = v := by funext t; simp [nth]

theorem mulF_bytes {p : Int} (hp : 0 < p) (hp' : p ≤ 255) (n : Nat) (m : Nat → Nat → Nat → Int) (v u : Nat → Int) : Bytes 8 (mulF p n m v u) := bytes_mod hp hp' _

/-- m numbers as cells -/
def nums (m : Nat) (g : Nat → Int) : Array Value := Array.ofFn (n := m) fun i => Value.int .i64 (g i)

@[go_sem] theorem nums_size (m : Nat) (g : Nat → Int) : (nums m g).size = m := by simp [nums]

@[go_sem] theorem nums_get? (m : Nat) (g : Nat → Int) (i : Nat) (h : i < m) : (nums m g)[i]? = some (.int .i64 (g i)) := by simp [nums, h]

@[go_sem] theorem nums_get (m : Nat) (g : Nat → Int) (i : Nat) (h : i < (nums m g).size) : (nums m g)[i] = .int .i64 (g i) := by simp [nums]

theorem nums_none (m : Nat) (g : Nat → Int) (i : Nat) (h : m ≤ i) : (nums m g)[i]? = none := by simp [nums]; omega

@[go_sem] theorem nums_set (m : Nat) (g : Nat → Int) (i : Nat) (y : Int) : (nums m g).setIfInBounds i (.int .i64 y) = nums m (upd g i y) := by
  apply Array.ext_getElem?
  intro j
  rw [Array.getElem?_setIfInBounds]
  by_cases e : i = j
  · subst e
    by_cases hj : i < m
    · rw [nums_get? m (upd g i y) i hj, if_pos rfl, if_pos (by rw [nums_size]; exact hj)]; simp [upd]
    · rw [nums_none m (upd g i y) i (by omega), if_pos rfl, if_neg (by rw [nums_size]; exact hj)]
  · by_cases hj : j < m
    · rw [if_neg e, nums_get? m g j hj, nums_get? m _ j hj]; simp [upd, Ne.symm e]
    · rw [if_neg e, nums_none m g j (by omega), nums_none m _ j (by omega)]

set_option maxRecDepth 100000 in
theorem eqLinear_same (v : Nat → Int) (w : World) :
    Calls Tryz.prog 76 #[.agg (row 64 v), .agg (row 64 v)] w fun e w' => e = .returned (.bool true) ∧ Below w.heap.size w w' := by
  go_enter Tryz.func76, Tryz.ntmps76
  go_wp2
  go_loopw [5] (fun i wr => ∃ k : Nat, k ≤ 8 ∧ i = .int .i64 k ∧ Below w.heap.size w wr ∧ (IsRow wr w.heap.size ∧ blk wr w.heap.size = row 64 v) ∧ (IsRow wr (w.heap.size + 1) ∧ blk wr (w.heap.size + 1) = row 64 v)) (fun i _ => 8 - (intOf i).toNat)
  case atStart => exact ⟨0, by omega, rfl, ((Below.refl _ _).alloc (Nat.le_refl _) _).alloc (by simp) _, by simp [go_sem], by simp [go_sem]⟩
  case round =>
    obtain ⟨k, hk, rfl, hb, ⟨r0, c0⟩, ⟨r1, c1⟩⟩ := hrel
    by_cases hlt : k < 8
    · have hi8 : (k : Int) < 8 := by omega
      have hk8 : k * 8 + 8 ≤ 64 := by omega
      have z0 := isRow_lt r0
      have z1 := isRow_lt r1
      have HC : ∀ W, Below wr.heap.size wr W → (IsRow W w.heap.size ∧ blk W w.heap.size = row 64 v) ∧ (IsRow W (w.heap.size + 1) ∧ blk W (w.heap.size + 1) = row 64 v) := fun W h => ⟨keepB h z0 r0 c0, keepB h z1 r1 c1⟩
      have hbz := hb.size
      go_wp2
      refine wp_quiet_all (Below wr.heap.size wr) (by kernel_rfl) (by kernel_rfl) (Below.refl _ _).drew ?_
      repeat (first | (refine q_plain rfl ?_; apply Exists.intro; refine ⟨fun W hW => ?_, ?_⟩; (focus (obtain ⟨⟨x1, x2⟩, x3, x4⟩ := HC W hW; go_simp; first | done | rfl | ((go_at_call 39; exact (eqVector_same _ _).mono fun e w2 ⟨he, hw2⟩ => ⟨he, hW.trans (hw2.mono hW.size)⟩)))); simp only [Act.put, List.setIfInBounds_toArray, List.set_cons_zero, List.set_cons_succ]) | (refine q_skip (by rfl) ?_; simp only [Act.put, List.setIfInBounds_toArray, List.set_cons_zero, List.set_cons_succ]) | (refine q_want (by rfl) ?_; apply Exists.intro; refine ⟨fun W hW => ?_, ?_⟩; (focus (obtain ⟨⟨x1, x2⟩, x3, x4⟩ := HC W hW; go_simp; first | done | rfl | ((go_at_call 39; exact (eqVector_same _ _).mono fun e w2 ⟨he, hw2⟩ => ⟨he, hW.trans (hw2.mono hW.size)⟩)))); simp only [Act.put, List.setIfInBounds_toArray, List.set_cons_zero, List.set_cons_succ]))
      refine wpQuiet_nil ?_
      intro W hW
      obtain ⟨⟨x1, x2⟩, x3, x4⟩ := HC W hW
      have hb2 := hb.trans (hW.mono hbz)
      go_wp2
      go_roundw
      case rel => exact ⟨k + 1, by omega, by go_num, hb2, ⟨x1, x2⟩, x3, x4⟩
      case measure => simp [intOf]; omega
    · go_wp2
      go_ret
      exact ⟨rfl, hb⟩

end Go.Proofs.YtjmmmggnbndolaaGreat
