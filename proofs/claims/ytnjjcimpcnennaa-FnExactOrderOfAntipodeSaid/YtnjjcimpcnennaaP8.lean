/- The search for the first fault of associativity: both programs answer the same. -/
import Derived.Test.YtnjjcimpcnennaaP7
import Derived.Test.YtnjjcimpcnennaaRegionA
namespace Go.Proofs.Ytnjjcimpcnennaa
open Go.RowKit
set_option linter.unusedSimpArgs false
set_option linter.unusedVariables false

/-- (e(i) e(j)) e(k) is not e(i) (e(j) e(k)) -/
def faultAt (p : Int) (n : Nat) (f : Nat → Int) (i j k : Nat) : Bool :=
  !segEq 0 8 (mulF p n (mtab f) (mtab f i j) (ebas k)) (mulF p n (mtab f) (ebas i) (mtab f j k))
/-- no fault before i, j, k -/
structure Clean3 (p : Int) (n : Nat) (f : Nat → Int) (i j k : Nat) : Prop where
  rows : ∀ i' j' k', i' < i → j' < n → k' < n → faultAt p n f i' j' k' = false
  cols : ∀ j' k', j' < j → k' < n → faultAt p n f i j' k' = false
  last : ∀ k', k' < k → faultAt p n f i j k' = false
theorem clean_start (p : Int) (n : Nat) (f : Nat → Int) : Clean3 p n f 0 0 0 := ⟨fun _ _ _ h _ _ => by omega, fun _ _ h _ => by omega, fun _ h => by omega⟩
theorem clean_step {p : Int} {n : Nat} {f : Nat → Int} {i j k : Nat} (h : Clean3 p n f i j k) (hk : faultAt p n f i j k = false) : Clean3 p n f i j (k + 1) :=
  ⟨h.rows, h.cols, fun k' hk' => by
    by_cases e : k' = k
    · subst e; exact hk
    · exact h.last k' (by omega)⟩
theorem clean_col {p : Int} {n : Nat} {f : Nat → Int} {i j : Nat} (h : Clean3 p n f i j n) : Clean3 p n f i (j + 1) 0 :=
  ⟨h.rows, fun j' k' hj hk => by
    by_cases e : j' = j
    · subst e; exact h.last k' hk
    · exact h.cols j' k' (by omega) hk, fun _ h => by omega⟩
theorem clean_row {p : Int} {n : Nat} {f : Nat → Int} {i : Nat} (h : Clean3 p n f i n 0) : Clean3 p n f (i + 1) 0 0 :=
  ⟨fun i' j' k' hi hj hk => by
    by_cases e : i' = i
    · subst e; exact h.cols j' k' hj hk
    · exact h.rows i' j' k' (by omega) hj hk, fun _ _ h _ => by omega, fun _ h => by omega⟩
/-- i, j, k is the first fault -/
structure FirstAt (p : Int) (n : Nat) (f : Nat → Int) (i j k : Nat) : Prop where
  i_lt : i < n
  j_lt : j < n
  k_lt : k < n
  fault : faultAt p n f i j k = true
  clean : Clean3 p n f i j k
/-- there is no fault -/
def NoFault (p : Int) (n : Nat) (f : Nat → Int) : Prop := ∀ i j k, i < n → j < n → k < n → faultAt p n f i j k = false
theorem first_not {p : Int} {n : Nat} {f : Nat → Int} {i j k : Nat} (h : FirstAt p n f i j k) (hn : NoFault p n f) : False := by
  have := h.fault
  rw [hn i j k h.i_lt h.j_lt h.k_lt] at this
  cases this
theorem first_le {p : Int} {n : Nat} {f : Nat → Int} {i j k i' j' k' : Nat} (h : FirstAt p n f i j k) (h' : FirstAt p n f i' j' k') : ¬ (i' < i ∨ (i' = i ∧ (j' < j ∨ (j' = j ∧ k' < k)))) := by
  rintro (h1 | ⟨rfl, h1 | ⟨rfl, h1⟩⟩)
  · have := h.clean.rows i' j' k' h1 h'.j_lt h'.k_lt; rw [h'.fault] at this; cases this
  · have := h.clean.cols j' k' h1 h'.k_lt; rw [h'.fault] at this; cases this
  · have := h.clean.last k' h1; rw [h'.fault] at this; cases this
theorem first_eq {p : Int} {n : Nat} {f : Nat → Int} {i j k i' j' k' : Nat} (h : FirstAt p n f i j k) (h' : FirstAt p n f i' j' k') : i = i' ∧ j = j' ∧ k = k' := by
  have h1 := first_le h h'
  have h2 := first_le h' h
  omega
/-- the three numbers as cells -/
def cells3 (i j k : Nat) : Array Value := #[.int .i64 (i : Int), .int .i64 (j : Int), .int .i64 (k : Int)]

theorem alg_at8 (p n : Int) (f : Nat → Int) (i j : Nat) (hi : i < 8) (hj : j < 8) : (alg p n f).extract (10 + i * 64 + j * 8) (10 + i * 64 + j * 8 + 8) = row 8 (mtab f i j) := by
  rw [alg_entry p n f (i * 64) (j * 8) 8 (by omega)]
  exact row_congr fun t _ => by unfold mtab; congr 1; omega
theorem mtab_bytes {f : Nat → Int} (h : Bytes 520 f) (i j : Nat) (hi : i < 8) (hj : j < 8) : Bytes 8 (mtab f i j) := fun t ht => tab_bytes h (i * 64 + (j * 8 + t)) (by omega)

set_option maxRecDepth 100000 in
set_option maxHeartbeats 4000000 in
theorem findFault_any (p : Int) (n : Nat) (f : Nat → Int) (w : World) (hp : 0 < p) (hp' : p ≤ 255) (hn : n ≤ 8) (hF : Bytes 520 f) :
    Calls Try.prog 97 #[.agg (alg p n f)] w fun e w' =>
      (e = .returned (.slice none 0 0) ∧ NoFault p n f ∧ Below w.heap.size w w') ∨
      (∃ b i j k, e = .returned (.slice (some ⟨b, 0, none⟩) 3 3) ∧ FirstAt p n f i j k ∧ Below w.heap.size w w' ∧ w.heap.size ≤ b ∧ IsRow w' b ∧ blk w' b = cells3 i j k) := by
  have HF := Lib.hid hF
  clear hF
  go_enter Try.func97, Try.ntmps97
  go_wp2
  go_loopw [10] (fun s wr => ∃ i : Nat, i ≤ n ∧ s = .int .i64 i ∧ Below w.heap.size w wr ∧ (IsRow wr w.heap.size ∧ blk wr w.heap.size = alg p n f) ∧ Clean3 p n f i 0 0) (fun s _ => n - (intOf s).toNat)
  case atStart => exact ⟨0, by omega, rfl, (Below.refl _ _).alloc (Nat.le_refl _) _, by simp [go_sem], clean_start p n f⟩
  case round =>
    obtain ⟨i, hi, rfl, hb, ⟨r0, c0⟩, hc⟩ := hrel
    have Hc := Lib.hid hc
    clear hc
    by_cases hlt : i < n
    · have hi8 : (i : Int) < 8 := by omega
      have hi8' : i < 8 := by omega
      go_wp2
      obtain ⟨wo, rfl⟩ : ∃ wo : World, wo = wr := ⟨_, rfl⟩
      go_loopw [15] (fun s wr => ∃ j : Nat, j ≤ n ∧ s = .int .i64 j ∧ Below w.heap.size w wr ∧ (IsRow wr w.heap.size ∧ blk wr w.heap.size = alg p n f) ∧ Clean3 p n f i j 0) (fun s _ => n - (intOf s).toNat)
      case atStart => exact ⟨0, by omega, rfl, hb, ⟨r0, c0⟩, Hc.out⟩
      case round =>
        obtain ⟨j, hj, rfl, hb', ⟨s0, d0⟩, hc⟩ := hrel
        have Hc2 := Lib.hid hc
        clear hc hb r0 c0
        by_cases hjt : j < n
        · have hj8 : (j : Int) < 8 := by omega
          have hj8' : j < 8 := by omega
          go_wp2
          obtain ⟨wo2, rfl⟩ : ∃ wo2 : World, wo2 = wr := ⟨_, rfl⟩
          go_loopw [20] (fun s wr => ∃ k : Nat, k ≤ n ∧ s = .int .i64 k ∧ Below w.heap.size w wr ∧ (IsRow wr w.heap.size ∧ blk wr w.heap.size = alg p n f) ∧ Clean3 p n f i j k) (fun s _ => n - (intOf s).toNat)
          case atStart => exact ⟨0, by omega, rfl, hb', ⟨s0, d0⟩, Hc2.out⟩
          case round =>
            obtain ⟨k, hk, rfl, hb, ⟨r0, c0⟩, hc⟩ := hrel
            have Hc3 := Lib.hid hc
            clear hc hb' s0 d0
            by_cases hkt : k < n
            · have hk8 : (k : Int) < 8 := by omega
              have hk8' : k < 8 := by omega
              have z0 := isRow_lt r0
              have hbz := hb.size
              have HM1 : Hid (Bytes 8 (mtab f i j)) := Lib.hid (mtab_bytes HF.out i j hi8' hj8')
              have HM2 : Hid (Bytes 8 (mtab f j k)) := Lib.hid (mtab_bytes HF.out j k hj8' hk8')
              have HE1 : Hid (Bytes 8 (ebas k)) := Lib.hid (ebas_bytes k)
              have HE2 : Hid (Bytes 8 (ebas i)) := Lib.hid (ebas_bytes i)
              have e1 := alg_at8 p n f i j hi8' hj8'
              have e2 := alg_at8 p n f j k hj8' hk8'
              have l1 : 10 + i * 64 + j * 8 + 8 ≤ 522 := by omega
              have l2 : 10 + j * 64 + k * 8 + 8 ≤ 522 := by omega
              have HC : ∀ W, Below wr.heap.size wr W → IsRow W w.heap.size ∧ blk W w.heap.size = alg p n f := fun W h => keepB h z0 r0 c0
              go_wp2
              refine wp_quiet_alloc 10 _ (.cells (row 8 zf) 28) (Below wr.heap.size wr) (Made wr (row 8 zf)) (by kernel_rfl) rfl rfl (by kernel_rfl) (fun a W => (xallocVec _ _ _ _ _ _ _).trans (allocVec W)) (closed_below wr) (closed_made wr _) (fun b W h => h.1) (fun W h => made_new wr _ _ W h) (Below.refl _ _).drew ?_
              simp only [List.take_succ_cons, List.take_zero, List.drop_succ_cons, List.drop_zero]
              repeat (first | (refine e_skip (by rfl) ?_; simp only [Act.put, List.setIfInBounds_toArray, List.set_cons_zero, List.set_cons_succ]) | (refine e_want (by rfl) ?_; apply Exists.intro; refine ⟨fun D hD hK W hW => ?_, ?_⟩; (focus (obtain ⟨x1, x2⟩ := HC W (hD W hW); unfold Oper.quietAt; go_simp; first | done | rfl | (first | (go_at_call 57; exact (basisAt k hk8' _).mono fun e w2 ⟨he, hw2⟩ => ⟨he, hK _ _ hW hw2⟩) | (go_at_call 101; exact (multiply_any p n f _ _ _ hp hp' hn HF.out HM1.out HE1.out).mono fun e w2 ⟨he, hw2⟩ => ⟨he, hK _ _ hW hw2⟩)))); simp only [Act.put, List.setIfInBounds_toArray, List.set_cons_zero, List.set_cons_succ]))
              refine e_nil ?_
              intro b W hW
              obtain ⟨hW1, hbb, m1, m2⟩ := hW
              obtain ⟨x1, x2⟩ := HC W hW1
              clear HC
              have hb0 : b ≠ w.heap.size := by omega
              have hb0' := Ne.symm hb0
              simp only [Act.put, List.setIfInBounds_toArray, List.set_cons_zero, List.set_cons_succ]
              go_wp2
              have F1 : Below w.heap.size w (W.setRow b (row 8 (mulF p n (mtab f) (mtab f i j) (ebas k)))) := (hb.trans (hW1.mono hbz)).trans (below_setRow (Below.refl _ _) (by omega) _)
              have F2 : IsRow (W.setRow b (row 8 (mulF p n (mtab f) (mtab f i j) (ebas k)))) w.heap.size ∧ blk (W.setRow b (row 8 (mulF p n (mtab f) (mtab f i j) (ebas k)))) w.heap.size = alg p n f := by simp [go_sem, x1, x2, m1, hb0']
              have F3 : IsRow (W.setRow b (row 8 (mulF p n (mtab f) (mtab f i j) (ebas k)))) b ∧ blk (W.setRow b (row 8 (mulF p n (mtab f) (mtab f i j) (ebas k)))) b = row 8 (mulF p n (mtab f) (mtab f i j) (ebas k)) := by simp [go_sem, m1]
              clear x1 x2 m1 m2
              generalize W.setRow b (row 8 (mulF p n (mtab f) (mtab f i j) (ebas k))) = W1 at F1 F2 F3 ⊢
              obtain ⟨x1, x2⟩ := F2
              obtain ⟨x3, x4⟩ := F3
              have y1 := isRow_lt x1
              have y3 := isRow_lt x3
              have HC2 : ∀ W, Below W1.heap.size W1 W → (IsRow W w.heap.size ∧ blk W w.heap.size = alg p n f) ∧ (IsRow W b ∧ blk W b = row 8 (mulF p n (mtab f) (mtab f i j) (ebas k))) :=
                fun W h => ⟨keepB h y1 x1 x2, keepB h y3 x3 x4⟩
              clear x1 x2 x3 x4
              refine wp_quiet_alloc 10 _ (.cells (row 8 zf) 28) (Below W1.heap.size W1) (Made W1 (row 8 zf)) (by kernel_rfl) rfl rfl (by kernel_rfl) (fun a W => (xallocVec _ _ _ _ _ _ _).trans (allocVec W)) (closed_below W1) (closed_made W1 _) (fun b W h => h.1) (fun W h => made_new W1 _ _ W h) (Below.refl _ _).drew ?_
              simp only [List.take_succ_cons, List.take_zero, List.drop_succ_cons, List.drop_zero]
              repeat (first | (refine e_skip (by rfl) ?_; simp only [Act.put, List.setIfInBounds_toArray, List.set_cons_zero, List.set_cons_succ]) | (refine e_want (by rfl) ?_; apply Exists.intro; refine ⟨fun D hD hK W hW => ?_, ?_⟩; (focus (obtain ⟨⟨x1, x2⟩, x3, x4⟩ := HC2 W (hD W hW); unfold Oper.quietAt; go_simp; first | done | rfl | (first | (go_at_call 57; exact (basisAt i hi8' _).mono fun e w2 ⟨he, hw2⟩ => ⟨he, hK _ _ hW hw2⟩) | (go_at_call 101; exact (multiply_any p n f _ _ _ hp hp' hn HF.out HE2.out HM2.out).mono fun e w2 ⟨he, hw2⟩ => ⟨he, hK _ _ hW hw2⟩)))); simp only [Act.put, List.setIfInBounds_toArray, List.set_cons_zero, List.set_cons_succ]))
              refine e_nil ?_
              intro b2 W hW
              obtain ⟨hW2, hbb2, m1, m2⟩ := hW
              obtain ⟨⟨x1, x2⟩, x3, x4⟩ := HC2 W hW2
              clear HC2
              have q1 : b2 ≠ w.heap.size := by omega
              have q1' := Ne.symm q1
              have q2 : b2 ≠ b := by omega
              have q2' := Ne.symm q2
              have hb2 : Below w.heap.size w (W.setRow b2 (row 8 (mulF p n (mtab f) (ebas i) (mtab f j k)))) := (F1.trans (hW2.mono F1.size)).trans (below_setRow (Below.refl _ _) (by omega) _)
              simp only [Act.put, List.setIfInBounds_toArray, List.set_cons_zero, List.set_cons_succ]
              cases hq : segEq 0 8 (mulF p n (mtab f) (mtab f i j) (ebas k)) (mulF p n (mtab f) (ebas i) (mtab f j k))
              · have H := Lib.hid (show FirstAt p n f i j k from ⟨hlt, hjt, hkt, by unfold faultAt; rw [hq]; rfl, Hc3.out⟩)
                go_wp2
                go_ret
                refine .inr ⟨_, i, j, k, rfl, H.out, hb2.alloc hb2.size _, ?_, ?_, ?_⟩
                · have := hb2.size; simp at this ⊢; omega
                · simp [go_sem]
                · simp [go_sem, cells3]
              · have H := Lib.hid (clean_step Hc3.out (by unfold faultAt; rw [hq]; rfl))
                go_wp2
                go_roundw
                case rel => exact ⟨k + 1, by omega, by go_num, hb2, by simp [go_sem, x1, x2, q1', m1], H.out⟩
                case measure => simp [intOf]; omega
            · obtain rfl : k = n := by omega
              go_wp2
              go_roundw
              case rel => exact ⟨j + 1, by omega, by go_num, hb, ⟨r0, c0⟩, clean_col Hc3.out⟩
              case measure => simp [intOf]; omega
        · obtain rfl : j = n := by omega
          go_wp2
          go_roundw
          case rel => exact ⟨i + 1, by omega, by go_num, hb', ⟨s0, d0⟩, clean_row Hc2.out⟩
          case measure => simp [intOf]; omega
    · obtain rfl : i = n := by omega
      go_wp2
      go_ret
      exact .inl ⟨rfl, fun i' j' k' h1 h2 h3 => Hc.out.rows i' j' k' h1 h2 h3, hb⟩
end Go.Proofs.Ytnjjcimpcnennaa
