/- Contracts of l01Apply, l01Times and multiply: each returns the product by a table. -/
import Derived.Test.YtnjjcimpcnennaaP3
namespace Go.Proofs.Ytnjjcimpcnennaa
open Go.RowKit
set_option linter.unusedSimpArgs false
set_option linter.unusedVariables false

theorem bytes_mod {p : Int} (hp : 0 < p) (hp' : p ≤ 255) (g : Nat → Int) : Bytes 8 fun k => g k % p := fun i _ => ⟨(mod_range (g i) p hp).1, Int.le_trans (Int.le_of_lt (mod_range (g i) p hp).2) hp'⟩
theorem addm_row {p c : Int} {f g h : Nat → Int} (e : ∀ i, i < 8 → (f i + c * g i) % p = h i) : row 8 (addm p 0 8 c f g) = row 8 h :=
  row_congr fun i hi => by
    unfold addm
    rw [if_pos (by omega), Nat.sub_zero, e i hi]

set_option maxRecDepth 100000 in
set_option maxHeartbeats 1000000 in
theorem l01Apply_any (p : Int) (n : Nat) (F v : Nat → Int) (w : World) (hp : 0 < p) (hp' : p ≤ 255) (hn : n ≤ 8) (hF : Bytes 64 F) (hv : Bytes 8 v) :
    Calls Try.prog 51 #[.int .i64 p, .int .i64 n, .agg (row 64 F), .agg (row 8 v)] w fun e w' =>
      e = .returned (.agg (row 8 (appF p n (fun j k => F (j * 8 + k)) v))) ∧ Below w.heap.size w w' := by
  have HF := Lib.hid hF
  have Hv := Lib.hid hv
  clear hF hv
  have H0 : Hid (row 8 zf = row 8 (appF p 0 (fun j k => F (j * 8 + k)) v)) := by
    have : row 8 zf = row 8 (appF p 0 (fun j k => F (j * 8 + k)) v) := row_congr fun i _ => by simp [appF, sumTo, zf]
    exact Lib.hid this
  go_enter Try.func51, Try.ntmps51
  go_wp2
  go_loopw [10] (fun i wr => ∃ k : Nat, k ≤ n ∧ i = .int .i64 k ∧ Below w.heap.size w wr ∧ (IsRow wr w.heap.size ∧ blk wr w.heap.size = row 64 F) ∧ (IsRow wr (w.heap.size + 1) ∧ blk wr (w.heap.size + 1) = row 8 v) ∧
      (IsRow wr (w.heap.size + 2) ∧ blk wr (w.heap.size + 2) = row 8 zf) ∧ (IsRow wr (w.heap.size + 3) ∧ blk wr (w.heap.size + 3) = row 8 (appF p k (fun j k => F (j * 8 + k)) v))) (fun i _ => n - (intOf i).toNat)
  case atStart =>
    refine ⟨0, by omega, rfl, ((((Below.refl _ _).alloc (Nat.le_refl _) _).alloc (by simp) _).alloc (by simp; omega) _).alloc (by simp; omega) _, by simp [go_sem], by simp [go_sem], by simp [go_sem], by simp [go_sem], ?_⟩
    rw [← H0.out]; simp [go_sem]
  case round =>
    obtain ⟨k, hk, rfl, hb, ⟨r0, c0⟩, ⟨r1, c1⟩, ⟨r2, c2⟩, ⟨r3, c3⟩⟩ := hrel
    have z0 := isRow_lt r0
    have z1 := isRow_lt r1
    have z2 := isRow_lt r2
    have z3 := isRow_lt r3
    by_cases hlt : k < n
    · have hlt8 : k < 8 := by omega
      have hi8 : (k : Int) < 8 := by omega
      have hk8 : k * 8 + 8 ≤ 64 := by omega
      have b1 := (Hv.out k hlt8).1
      have b2 := (Hv.out k hlt8).2
      by_cases hv0 : v k = 0
      · have H := Lib.hid (fun i => app_skip p k (fun j k => F (j * 8 + k)) v i hv0)
        have hv1 : (v k != 0) = false := by simpa using hv0
        clear hv0
        go_wp2
        go_roundw
        case rel => exact ⟨k + 1, by omega, by go_num, hb, ⟨r0, c0⟩, ⟨r1, c1⟩, ⟨r2, c2⟩, r3, by rw [c3]; exact row_congr fun i _ => H.out i⟩
        case measure => simp [intOf]; omega
      · have hv1 : (v k != 0) = true := by simpa using hv0
        clear hv0
        have q1 : IntKind.i64.wrap (v k) = v k := IntWalk.i64_in _ (by omega)
        have HG : Hid (Bytes 8 fun i => F (k * 8 + i)) := Lib.hid fun i hi => HF.out (k * 8 + i) (by omega)
        have HA : Hid (Bytes 8 (appF p k (fun j k => F (j * 8 + k)) v)) := Lib.hid (bytes_mod hp hp' _)
        have HC : ∀ W, Below wr.heap.size wr W → (IsRow W w.heap.size ∧ blk W w.heap.size = row 64 F) ∧ (IsRow W (w.heap.size + 1) ∧ blk W (w.heap.size + 1) = row 8 v) ∧ (IsRow W (w.heap.size + 3) ∧ blk W (w.heap.size + 3) = row 8 (appF p k (fun j k => F (j * 8 + k)) v)) :=
          fun W h => ⟨keepB h z0 r0 c0, keepB h z1 r1 c1, keepB h z3 r3 c3⟩
        go_wp2
        refine wp_quiet_tail 10 (Below wr.heap.size wr) (by kernel_rfl) (by kernel_rfl) (Below.refl _ _).drew ?_
        simp only [List.take_succ_cons, List.take_zero, List.drop_succ_cons, List.drop_zero]
        repeat (first | (refine q_skip (by rfl) ?_; simp only [Act.put, List.setIfInBounds_toArray, List.set_cons_zero, List.set_cons_succ]) | (refine q_want (by rfl) ?_; apply Exists.intro; refine ⟨fun W hW => ?_, ?_⟩; (focus (obtain ⟨⟨x1, x2⟩, ⟨x3, x4⟩, x5, x6⟩ := HC W hW; go_simp; first | done | rfl | ((go_at_call 74; exact (l01Add_any _ _ _ _ _ hp hp' (by omega) (by omega) HA.out HG.out).mono fun e w2 ⟨he, hw2⟩ => ⟨he, hW.trans (hw2.mono hW.size)⟩)))); simp only [Act.put, List.setIfInBounds_toArray, List.set_cons_zero, List.set_cons_succ]))
        refine wpQuiet_nil ?_
        intro W hW
        obtain ⟨⟨x1, x2⟩, ⟨x3, x4⟩, x5, x6⟩ := HC W hW
        have y1 := keepB hW z2 r2 c2
        go_wp2
        go_roundw
        case rel =>
          refine ⟨k + 1, by omega, by go_num, (hb.trans (hW.mono hb.size)).trans (below_setRow (Below.refl _ _) (by omega) _), by simp [go_sem, x1, x2, x5], by simp [go_sem, x3, x4, x5], by simp [go_sem, y1, x5], by simp [go_sem, x5], ?_⟩
          rw [blk_setRow _ _ _ _ x5, if_pos rfl]
          exact addm_row fun i _ => app_step p k (fun j k => F (j * 8 + k)) v i
        case measure => simp [intOf]; omega
    · obtain rfl : k = n := by omega
      go_wp2
      refine bodyPost_ret (result_cell rfl aggVec _ _ (row 8 (appF p k (fun j k => F (j * 8 + k)) v)) _ rfl ?_ ?_) rfl ⟨rfl, ?_⟩
      · simp [go_sem, r2, c2]
      · simp [go_sem, r2, c2]
      · exact hb.trans (below_setRow (Below.refl _ _) (by omega) _)
end Go.Proofs.Ytnjjcimpcnennaa
