/- The counit by the reference model, the shape of a coalgebra, and coalgebras: both programs say the same. -/
import Derived.Test.YtnjjcimpcnennaaQ5
namespace Go.Proofs.Ytnjjcimpcnennaa
open Go.RowKit
set_option linter.unusedSimpArgs false
set_option linter.unusedVariables false
attribute [local irreducible] wpQuiet wpQE

/-! ### entries of a shaped algebra or coalgebra -/
theorem shape_parts {p n : Int} {f : Nat → Int} (h : shapeB p n f = true) : sizesB p n = true ∧ vecB p n f = true ∧ tabB p n (tab f) = true := by
  unfold shapeB at h
  simp only [Bool.and_eq_true] at h
  exact ⟨h.1, h.2.1, h.2.2⟩
theorem shape_unit {p n : Int} {f : Nat → Int} (h : shapeB p n f = true) (i : Nat) (hi : i < 8) : f i < p ∧ ((i : Int) < n ∨ f i = 0) := (vecB_iff p n f).1 (shape_parts h).2.1 i hi
theorem shape_entry {p n : Int} {f : Nat → Int} (h : shapeB p n f = true) (i j k : Nat) (hi : i < 8) (hj : j < 8) (hk : k < 8) : mtab f i j k < p ∧ (((i : Int) < n ∧ (j : Int) < n ∧ (k : Int) < n) ∨ mtab f i j k = 0) := by
  obtain ⟨hs, _, ht⟩ := shape_parts h
  have h1 := all_get ht i hi
  unfold entT at h1
  simp only [Bool.and_eq_true, Bool.or_eq_true, decide_eq_true_eq] at h1
  have h2 := all_get h1.1 j hj
  unfold entL at h2
  simp only [Bool.and_eq_true, Bool.or_eq_true, decide_eq_true_eq] at h2
  have h3 := (vecB_iff p n _).1 h2.1 k hk
  have e : rowOf 8 (rowOf 64 (tab f) i) j k = mtab f i j k := rfl
  rw [e] at h3
  refine ⟨h3.1, ?_⟩
  rcases h1.2 with a | a
  · rcases h2.2 with b | b
    · rcases h3.2 with c | c
      · exact .inl ⟨a, b, c⟩
      · exact .inr c
    · have := (segEq_iff 0 8 _ _).1 b k hk
      rw [Nat.zero_add] at this
      exact .inr this
  · have := (segEq_iff 0 64 _ _).1 a (j * 8 + k) (by omega)
    rw [Nat.zero_add] at this
    exact .inr this
theorem sumTo_more {g : Nat → Int} {n : Nat} (h : ∀ i, n ≤ i → i < 8 → g i = 0) (hn : n ≤ 8) : sumTo g 8 = sumTo g n := by
  have key : ∀ k, n + k ≤ 8 → sumTo g (n + k) = sumTo g n := by
    intro k
    induction k with
    | zero => exact fun _ => rfl
    | succ k ih => intro hk; rw [← Nat.add_assoc, sumTo, ih (by omega), h (n + k) (by omega) (by omega), Int.add_zero]
  have := key (8 - n) (by omega)
  rwa [show n + (8 - n) = 8 by omega] at this

theorem alg_cuq (p n : Int) (f : Nat → Int) (i : Nat) (hi : i < 8) : (alg p n f)[2 + i]? = some (.int .u8 (f i)) := by rw [alg_get p n f _ (by omega) (by omega), Nat.add_sub_cancel_left]
/-! ### the counit by the reference model -/
def cuRs (p : Int) (f : Nat → Int) (i n j : Nat) : Nat → Int := fun t => if t < j then cuR p f i n t else 0
def cuSAt (p : Int) (n : Nat) (f : Nat → Int) (i : Nat) : Bool := segEq 0 8 (cuL p f i n) (ebas i) && segEq 0 8 (cuRs p f i n n) (ebas i)
def cuSB (p : Int) (n : Nat) (f : Nat → Int) : Bool := (List.range n).all (cuSAt p n f)
theorem cuL_zero (p : Int) (f : Nat → Int) (i : Nat) : row 8 zf = row 8 (cuL p f i 0) := app_start p (mtab f i) f
theorem cuL_step (p : Int) (f : Nat → Int) (i j : Nat) : row 8 (addm p 0 8 (f j) (cuL p f i j) (mtab f i j)) = row 8 (cuL p f i (j + 1)) := addm_row fun t _ => app_step p j (mtab f i) f t
theorem cuRs_zero (p : Int) (f : Nat → Int) (i n : Nat) : row 8 zf = row 8 (cuRs p f i n 0) := row_congr fun t _ => by unfold cuRs zf; rw [if_neg (by omega)]
theorem cuRs_step (p : Int) (f : Nat → Int) (i n j : Nat) : row 8 (upd (cuRs p f i n j) j (cuR p f i n j)) = row 8 (cuRs p f i n (j + 1)) := row_congr fun t _ => by
  unfold upd cuRs
  by_cases e : t = j
  · subst e; rw [if_pos rfl, if_pos (by omega)]
  · rw [if_neg e]
    by_cases h : t < j
    · rw [if_pos h, if_pos (by omega)]
    · rw [if_neg h, if_neg (by omega)]
theorem cuL_bytes {p : Int} (hp : 0 < p) (hp' : p ≤ 255) (f : Nat → Int) (i n : Nat) : Bytes 8 (cuL p f i n) := bytes_mod hp hp' _
theorem dotM_range {f : Nat → Int} (h : Bytes 520 f) (i j : Nat) (hi : i < 8) (hj : j < 8) (m : Nat) (hm : m ≤ 8) : 0 ≤ dotF m f (mtab f i j) ∧ dotF m f (mtab f i j) ≤ 65025 * m :=
  dot_range 8 (unit_bytes h) (mtab_bytes h i j hi hj) m hm
theorem cuR_dot (p : Int) (f : Nat → Int) (i n j : Nat) : dotF n f (mtab f i j) % p = cuR p f i n j := rfl
theorem cuS_eq {p : Int} {n : Nat} {f : Nat → Int} (hn : n ≤ 8) (h : shapeB p n f = true) : cuSB p n f = cuB p n f := by
  have hz : ∀ i, n ≤ i → i < 8 → f i = 0 := fun i h1 h2 => by have := (shape_unit h i h2).2; omega
  unfold cuSB cuB
  rw [Bool.eq_iff_iff, List.all_eq_true, List.all_eq_true]
  have e : ∀ i, i < n → cuSAt p n f i = cuAt p f i := fun i hi => by
    unfold cuSAt cuAt
    have e1 : segEq 0 8 (cuL p f i n) (ebas i) = segEq 0 8 (cuL p f i 8) (ebas i) := segEq_congr fun t _ => by
      unfold cuL appF
      rw [sumTo_more (n := n) (fun j h1 h2 => by rw [hz j h1 h2, Int.zero_mul]) hn]
    have e2 : segEq 0 8 (cuRs p f i n n) (ebas i) = segEq 0 8 (cuR p f i 8) (ebas i) := segEq_congr fun t ht => by
      unfold cuRs
      split
      · unfold cuR appF
        rw [sumTo_more (n := n) (fun j h1 h2 => by rw [hz j h1 h2, Int.zero_mul]) hn]
      · rename_i hlt
        unfold cuR appF
        rw [sumTo_zero 8 fun j hj => by
          have := (shape_entry h i t j (by omega) ht hj).2
          show f j * mtab f i t j = 0
          rw [show mtab f i t j = 0 by omega, Int.mul_zero]]
        rfl
    rw [e1, e2]
  constructor <;> intro k x hx <;> have := k x hx <;> have hx' : x < n := by simpa using hx
  · rw [← e x hx']; exact this
  · rw [e x hx']; exact this

set_option maxRecDepth 100000 in
set_option maxHeartbeats 4000000 in
theorem l02Counits_any (p : Int) (n : Nat) (f : Nat → Int) (w : World) (hp : 0 < p) (hp' : p ≤ 255) (hn : n ≤ 8) (hF : Bytes 520 f) :
    Calls Try.prog 108 #[.agg (alg p n f)] w fun e w' => e = .returned (.bool (cuSB p n f)) ∧ Below w.heap.size w w' := by
  have HF := Lib.hid hF; clear hF
  go_enter Try.func108, Try.ntmps108
  go_wp2
  refine atomW fun W1 e1 => ?_
  have hb1 : Below w.heap.size w W1 := by rw [e1]; (repeat (first | exact Below.refl _ _ | refine Below.alloc ?_ (by first | omega | (simp; try omega)) _ | refine below_setRow ?_ (by omega) _ | refine Below.drew ?_))
  have q1 := hb1.size
  have r1_1 : IsRow W1 (w.heap.size) := by rw [e1]; simp [go_sem]
  have c1_1 := congrArg (fun x => blk x (w.heap.size)) e1; simp [go_sem] at c1_1
  have z1_1 := isRow_lt r1_1
  clear e1
  go_loopw [3] (fun s3 wr => ∃ i : Nat, i ≤ n ∧ s3 = .int .i64 i ∧ Below w.heap.size w wr ∧ (IsRow wr (w.heap.size) ∧ blk wr (w.heap.size) = blk W1 (w.heap.size)) ∧ ∀ a, a < i → cuSAt p n f a = true) (fun s3 _ => n - (intOf s3).toNat)
  case atStart => exact ⟨0, by omega, rfl, hb1, ⟨r1_1, rfl⟩, fun a ha => by omega⟩
  case round =>
    obtain ⟨i, hle2, rfl, hb2, ⟨r1_2, c1_2⟩, hx2⟩ := hrel
    obtain ⟨W2, rfl⟩ : ∃ W2 : World, W2 = wr := ⟨_, rfl⟩
    have q2 := hb2.size
    have HX2 := Lib.hid hx2; clear hx2
    have E1_2 := Lib.hid c1_1; replace c1_2 := c1_2.trans c1_1
    have z1_2 := isRow_lt r1_2
    clear r1_1 c1_1 z1_1 hb1
    by_cases hlt2 : i < n
    · skip
      have i0_2 : (0 : Int) ≤ (i : Int) := by omega
      have i8_2 : (i : Int) < 8 := by omega
      have k8_2 : i < 8 := by omega
      have m8_2 : i * 8 + 8 ≤ 64 := by omega
      have m64_2 : i * 64 + 64 ≤ 512 := by omega
      have l1_2 : 10 + i * 64 + 64 ≤ 522 := by omega
      cases hu1 : segEq 0 8 (cuL p f i n) (ebas i)
      · skip
        have H : Hid (cuSB p n f = false) := Lib.hid (all_no (q := cuSAt p n f) i n (by omega) (by unfold cuSAt; rw [hu1]; rfl))
        go_wp2
        have nw1_W2_0 : (w.heap.size) ≠ W2.heap.size := by omega
        have nw1_W2_1 : (w.heap.size) ≠ W2.heap.size + 1 := by omega
        refine atomW fun W3 e3 => ?_
        have hb3 : Below w.heap.size w W3 := by rw [e3]; (repeat (first | exact hb2 | exact Below.refl _ _ | refine Below.alloc ?_ (by first | omega | (simp; try omega)) _ | refine below_setRow ?_ (by omega) _ | refine Below.drew ?_))
        have q3 := hb3.size
        have r1_3 : IsRow W3 (w.heap.size) := by rw [e3]; simp [go_sem, r1_2, c1_2, nw1_W2_0, nw1_W2_1]
        have c1_3 := congrArg (fun x => blk x (w.heap.size)) e3; simp [go_sem, r1_2, c1_2, nw1_W2_0, nw1_W2_1] at c1_3
        have z1_3 := isRow_lt r1_3
        have r4_3 : IsRow W3 (W2.heap.size) := by rw [e3]; simp [go_sem, r1_2, c1_2, nw1_W2_0, nw1_W2_1]
        have c4_3 := congrArg (fun x => blk x (W2.heap.size)) e3; simp [go_sem, r1_2, c1_2, nw1_W2_0, nw1_W2_1] at c4_3
        have z4_3 := isRow_lt r4_3
        have r5_3 : IsRow W3 (W2.heap.size + 1) := by rw [e3]; simp [go_sem, r1_2, c1_2, nw1_W2_0, nw1_W2_1]
        have c5_3 := congrArg (fun x => blk x (W2.heap.size + 1)) e3; simp [go_sem, r1_2, c1_2, nw1_W2_0, nw1_W2_1] at c5_3
        have z5_3 := isRow_lt r5_3
        have n1_4 : (w.heap.size) ≠ (W2.heap.size) := by omega
        have n1_5 : (w.heap.size) ≠ (W2.heap.size + 1) := by omega
        have n4_1 : (W2.heap.size) ≠ (w.heap.size) := by omega
        have n5_1 : (W2.heap.size + 1) ≠ (w.heap.size) := by omega
        clear e3 nw1_W2_0 nw1_W2_1 r1_2 c1_2 z1_2 hb2
        go_loopw [6] (fun s6 wr => ∃ j : Nat, j ≤ n ∧ s6 = .int .i64 j ∧ Below w.heap.size w wr ∧ (IsRow wr (w.heap.size) ∧ blk wr (w.heap.size) = blk W3 (w.heap.size)) ∧ (IsRow wr (W2.heap.size) ∧ blk wr (W2.heap.size) = row 8 (cuL p f i j)) ∧ (IsRow wr (W2.heap.size + 1) ∧ blk wr (W2.heap.size + 1) = row 8 (cuRs p f i n j))) (fun s6 _ => n - (intOf s6).toNat)
        case atStart => exact ⟨0, by omega, rfl, hb3, ⟨r1_3, rfl⟩, ⟨r4_3, c4_3.trans (cuL_zero p f i)⟩, ⟨r5_3, c5_3.trans (cuRs_zero p f i n)⟩⟩
        case round =>
          obtain ⟨j, hle4, rfl, hb4, ⟨r1_4, c1_4⟩, ⟨r4_4, c4_4⟩, ⟨r5_4, c5_4⟩⟩ := hrel
          obtain ⟨W4, rfl⟩ : ∃ W4 : World, W4 = wr := ⟨_, rfl⟩
          have q4 := hb4.size
          have E1_4 := Lib.hid c1_3; replace c1_4 := c1_4.trans c1_3
          have z1_4 := isRow_lt r1_4
          have z4_4 := isRow_lt r4_4
          have z5_4 := isRow_lt r5_4
          clear r1_3 c1_3 z1_3 r4_3 c4_3 z4_3 r5_3 c5_3 z5_3 hb3
          by_cases hlt4 : j < n
          · skip
            have i0_4 : (0 : Int) ≤ (j : Int) := by omega
            have i8_4 : (j : Int) < 8 := by omega
            have k8_4 : j < 8 := by omega
            have m8_4 : j * 8 + 8 ≤ 64 := by omega
            have m64_4 : j * 64 + 64 ≤ 512 := by omega
            have l1_4 : 10 + j * 64 + 64 ≤ 522 := by omega
            have l2_4i : 10 + i * 64 + j * 8 + 8 ≤ 522 := by omega
            have l3_4i : 10 + j * 64 + i * 8 + 8 ≤ 522 := by omega
            have l4_4i : i * 64 + j * 8 + 8 ≤ 512 := by omega
            have l5_4i : j * 64 + i * 8 + 8 ≤ 512 := by omega
            have l6_4i : i * 8 + j < 64 := by omega
            have l7_4i : j * 8 + i < 64 := by omega
            have HU : Hid (Bytes 8 f) := Lib.hid (unit_bytes HF.out)
            have b1 := (HU.out j (by omega)).1; have b2 := (HU.out j (by omega)).2; have e9 := alg_cuq p n f j (by omega); have e8 := alg_at8 p n f i j (by omega) (by omega)
            have HA : Hid (Bytes 8 (cuL p f i j)) := Lib.hid (cuL_bytes hp hp' f i j)
            have HB : Hid (Bytes 8 (mtab f i j)) := Lib.hid (mtab_bytes HF.out i j (by omega) (by omega))
            have q1 : IntKind.i64.wrap (f j) = f j := IntWalk.i64_in _ (by omega)
            go_wp2
            refine wp_quiet_tail 15 (Below W4.heap.size W4) (by kernel_rfl) (by kernel_rfl) (Below.refl _ _).drew ?_
            simp only [List.take_succ_cons, List.take_zero, List.drop_succ_cons, List.drop_zero]
            iterate 14 (refine q_plain rfl ?_; apply Exists.intro; refine ⟨fun W hW => ?_, ?_⟩; (focus (obtain ⟨x1, y1⟩ := keepB hW z1_4 r1_4 c1_4; obtain ⟨x4, y4⟩ := keepB hW z4_4 r4_4 c4_4; obtain ⟨x5, y5⟩ := keepB hW z5_4 r5_4 c5_4; go_simp; first | done | rfl)); simp only [Act.put, List.setIfInBounds_toArray, List.set_cons_zero, List.set_cons_succ])
            (refine q_plain rfl ?_; apply Exists.intro; refine ⟨fun W hW => ?_, ?_⟩; (focus (obtain ⟨x1, y1⟩ := keepB hW z1_4 r1_4 c1_4; obtain ⟨x4, y4⟩ := keepB hW z4_4 r4_4 c4_4; obtain ⟨x5, y5⟩ := keepB hW z5_4 r5_4 c5_4; go_simp; (go_at_call 74; exact (l01Add_any _ _ _ _ _ hp hp' (by omega) (by omega) HA.out HB.out).mono fun e w2 ⟨he, hw2⟩ => ⟨he, hW.trans (hw2.mono hW.size)⟩))); simp only [Act.put, List.setIfInBounds_toArray, List.set_cons_zero, List.set_cons_succ])
            refine wpQuiet_nil ?_
            intro W5 hw5
            obtain ⟨r1_5, c1_5⟩ := keepB hw5 z1_4 r1_4 c1_4
            have z1_5 := isRow_lt r1_5
            obtain ⟨r4_5, c4_5⟩ := keepB hw5 z4_4 r4_4 c4_4
            have z4_5 := isRow_lt r4_5
            obtain ⟨r5_5, c5_5⟩ := keepB hw5 z5_4 r5_4 c5_4
            have z5_5 := isRow_lt r5_5
            have hb5 := hb4.trans (hw5.mono hb4.size)
            have q5 := hb5.size
            clear hw5 r1_4 c1_4 z1_4 r4_4 c4_4 z4_4 r5_4 c5_4 z5_4 hb4
            go_wp2
            refine atomW fun W6 e6 => ?_
            have hb6 : Below w.heap.size w W6 := by rw [e6]; (repeat (first | exact hb5 | exact Below.refl _ _ | refine Below.alloc ?_ (by first | omega | (simp; try omega)) _ | refine below_setRow ?_ (by omega) _ | refine Below.drew ?_))
            have q6 := hb6.size
            have r1_6 : IsRow W6 (w.heap.size) := by rw [e6]; simp [go_sem, r1_5, c1_5, n1_4, n1_5, r4_5, c4_5, n4_1, r5_5, c5_5, n5_1]
            have c1_6 := congrArg (fun x => blk x (w.heap.size)) e6; simp [go_sem, r1_5, c1_5, n1_4, n1_5, r4_5, c4_5, n4_1, r5_5, c5_5, n5_1] at c1_6
            have z1_6 := isRow_lt r1_6
            have r4_6 : IsRow W6 (W2.heap.size) := by rw [e6]; simp [go_sem, r1_5, c1_5, n1_4, n1_5, r4_5, c4_5, n4_1, r5_5, c5_5, n5_1]
            have c4_6 := congrArg (fun x => blk x (W2.heap.size)) e6; simp [go_sem, r1_5, c1_5, n1_4, n1_5, r4_5, c4_5, n4_1, r5_5, c5_5, n5_1] at c4_6
            have z4_6 := isRow_lt r4_6
            have r5_6 : IsRow W6 (W2.heap.size + 1) := by rw [e6]; simp [go_sem, r1_5, c1_5, n1_4, n1_5, r4_5, c4_5, n4_1, r5_5, c5_5, n5_1]
            have c5_6 := congrArg (fun x => blk x (W2.heap.size + 1)) e6; simp [go_sem, r1_5, c1_5, n1_4, n1_5, r4_5, c4_5, n4_1, r5_5, c5_5, n5_1] at c5_6
            have z5_6 := isRow_lt r5_6
            clear e6 r1_5 c1_5 z1_5 r4_5 c4_5 z4_5 r5_5 c5_5 z5_5 hb5
            go_loopw [7, 8] (fun s7 s8 wr => ∃ k : Nat, k ≤ n ∧ s7 = .int .i64 (dotF k f (mtab f i j)) ∧ s8 = .int .i64 k ∧ Below w.heap.size w wr ∧ (IsRow wr (w.heap.size) ∧ blk wr (w.heap.size) = blk W6 (w.heap.size)) ∧ (IsRow wr (W2.heap.size) ∧ blk wr (W2.heap.size) = blk W6 (W2.heap.size)) ∧ (IsRow wr (W2.heap.size + 1) ∧ blk wr (W2.heap.size + 1) = blk W6 (W2.heap.size + 1))) (fun _ s8 _ => n - (intOf s8).toNat)
            case atStart => exact ⟨0, by omega, (by first | rfl | (simp; done) | go_num), rfl, hb6, ⟨r1_6, rfl⟩, ⟨r4_6, rfl⟩, ⟨r5_6, rfl⟩⟩
            case round =>
              obtain ⟨k, hle7, rfl, rfl, hb7, ⟨r1_7, c1_7⟩, ⟨r4_7, c4_7⟩, ⟨r5_7, c5_7⟩⟩ := hrel
              obtain ⟨W7, rfl⟩ : ∃ W7 : World, W7 = wr := ⟨_, rfl⟩
              have q7 := hb7.size
              have E1_7 := Lib.hid c1_6; replace c1_7 := c1_7.trans c1_6
              have z1_7 := isRow_lt r1_7
              have E4_7 := Lib.hid c4_6; replace c4_7 := c4_7.trans c4_6
              have z4_7 := isRow_lt r4_7
              have E5_7 := Lib.hid c5_6; replace c5_7 := c5_7.trans c5_6
              have z5_7 := isRow_lt r5_7
              clear r1_6 c1_6 z1_6 r4_6 c4_6 z4_6 r5_6 c5_6 z5_6 hb6
              have d1 := (dotM_range HF.out i j (by omega) (by omega) k (by omega)).1; have d2 := (dotM_range HF.out i j (by omega) (by omega) k (by omega)).2
              by_cases hlt7 : k < n
              · skip
                have i0_7 : (0 : Int) ≤ (k : Int) := by omega
                have i8_7 : (k : Int) < 8 := by omega
                have k8_7 : k < 8 := by omega
                have m8_7 : k * 8 + 8 ≤ 64 := by omega
                have m64_7 : k * 64 + 64 ≤ 512 := by omega
                have l1_7 : 10 + k * 64 + 64 ≤ 522 := by omega
                have l2_7i : 10 + i * 64 + k * 8 + 8 ≤ 522 := by omega
                have l3_7i : 10 + k * 64 + i * 8 + 8 ≤ 522 := by omega
                have l4_7i : i * 64 + k * 8 + 8 ≤ 512 := by omega
                have l5_7i : k * 64 + i * 8 + 8 ≤ 512 := by omega
                have l6_7i : i * 8 + k < 64 := by omega
                have l7_7i : k * 8 + i < 64 := by omega
                have l2_7j : 10 + j * 64 + k * 8 + 8 ≤ 522 := by omega
                have l3_7j : 10 + k * 64 + j * 8 + 8 ≤ 522 := by omega
                have l4_7j : j * 64 + k * 8 + 8 ≤ 512 := by omega
                have l5_7j : k * 64 + j * 8 + 8 ≤ 512 := by omega
                have l6_7j : j * 8 + k < 64 := by omega
                have l7_7j : k * 8 + j < 64 := by omega
                have b3 := (HU.out k (by omega)).1; have b4 := (HU.out k (by omega)).2; have b5 := mtab_range HF.out i j k (by omega) (by omega) (by omega); have e7 := alg_cu p n f k (by omega); have e6 := alg_el p n f i j k (by omega) (by omega) (by omega); have b6 := prod_range ⟨b3, b4⟩ b5; have e5 := alg_at p n f i j k (by omega) (by omega) (by omega)
                have e4 := alg_cuq p n f k (by omega)
                have q2 : IntKind.i64.wrap (f k) = f k := IntWalk.i64_in _ (by omega)
                have q3 : IntKind.i64.wrap (mtab f i j k) = mtab f i j k := IntWalk.i64_in _ (by omega)
                have q4 : IntKind.i64.wrap (f k * mtab f i j k) = f k * mtab f i j k := IntWalk.i64_in _ (by omega)
                have q5 : IntKind.i64.wrap (dotF k f (mtab f i j) + f k * mtab f i j k) = dotF k f (mtab f i j) + f k * mtab f i j k := IntWalk.i64_in _ (by omega)
                go_wp2
                refine wp_quiet_all (Below W7.heap.size W7) (by kernel_rfl) (by kernel_rfl) (Below.refl _ _).drew ?_
                iterate 18 (refine q_plain rfl ?_; apply Exists.intro; refine ⟨fun W hW => ?_, ?_⟩; (focus (obtain ⟨x1, y1⟩ := keepB hW z1_7 r1_7 c1_7; obtain ⟨x4, y4⟩ := keepB hW z4_7 r4_7 c4_7; obtain ⟨x5, y5⟩ := keepB hW z5_7 r5_7 c5_7; go_simp; first | done | rfl)); simp only [Act.put, List.setIfInBounds_toArray, List.set_cons_zero, List.set_cons_succ])
                refine wpQuiet_nil ?_
                intro W8 hw8
                obtain ⟨r1_8, c1_8⟩ := keepB hw8 z1_7 r1_7 c1_7
                have z1_8 := isRow_lt r1_8
                obtain ⟨r4_8, c4_8⟩ := keepB hw8 z4_7 r4_7 c4_7
                have z4_8 := isRow_lt r4_8
                obtain ⟨r5_8, c5_8⟩ := keepB hw8 z5_7 r5_7 c5_7
                have z5_8 := isRow_lt r5_8
                have hb8 := hb7.trans (hw8.mono hb7.size)
                have q8 := hb8.size
                clear hw8 r1_7 c1_7 z1_7 r4_7 c4_7 z4_7 r5_7 c5_7 z5_7 hb7
                go_wp2
                go_roundw
                case rel => exact ⟨k + 1, by omega, (by first | rfl | go_num | (simp; done)), by go_num, (by (repeat (first | exact hb8 | exact Below.refl _ _ | refine Below.alloc ?_ (by first | omega | (simp; try omega)) _ | refine below_setRow ?_ (by omega) _ | refine Below.drew ?_))), ⟨by simp [go_sem, r1_8, c1_8, n1_4, n1_5, r4_8, c4_8, n4_1, r5_8, c5_8, n5_1], (by rw [E1_7.out]; first | exact c1_8 | (simp [go_sem, r1_8, c1_8, n1_4, n1_5, r4_8, c4_8, n4_1, r5_8, c5_8, n5_1]; done))⟩, ⟨by simp [go_sem, r1_8, c1_8, n1_4, n1_5, r4_8, c4_8, n4_1, r5_8, c5_8, n5_1], (by rw [E4_7.out]; first | exact c4_8 | (simp [go_sem, r1_8, c1_8, n1_4, n1_5, r4_8, c4_8, n4_1, r5_8, c5_8, n5_1]; done))⟩, ⟨by simp [go_sem, r1_8, c1_8, n1_4, n1_5, r4_8, c4_8, n4_1, r5_8, c5_8, n5_1], (by rw [E5_7.out]; first | exact c5_8 | (simp [go_sem, r1_8, c1_8, n1_4, n1_5, r4_8, c4_8, n4_1, r5_8, c5_8, n5_1]; done))⟩⟩
                case measure => simp [intOf]; omega
              · skip
                obtain rfl : n = k := by omega
                have p1 := (mod_range (dotF n f (mtab f i j)) p hp).1; have p2 := (mod_range (dotF n f (mtab f i j)) p hp).2
                go_wp2_with fail
                refine (l01Mod_any _ _ _ hp hp' (by omega) (by omega)).mono ?_; rintro _ _ ⟨rfl, rfl⟩
                go_wp2
                go_roundw
                case rel => exact ⟨j + 1, by omega, by go_num, (by (repeat (first | exact hb7 | exact Below.refl _ _ | refine Below.alloc ?_ (by first | omega | (simp; try omega)) _ | refine below_setRow ?_ (by omega) _ | refine Below.drew ?_))), ⟨by simp [go_sem, r1_7, c1_7, n1_4, n1_5, r4_7, c4_7, n4_1, r5_7, c5_7, n5_1], (by rw [E1_4.out]; first | exact c1_7 | (simp [go_sem, r1_7, c1_7, n1_4, n1_5, r4_7, c4_7, n4_1, r5_7, c5_7, n5_1]; done))⟩, ⟨by simp [go_sem, r1_7, c1_7, n1_4, n1_5, r4_7, c4_7, n4_1, r5_7, c5_7, n5_1], (by first | (rw [blk_setRow _ _ _ _ r4_7, if_pos rfl]; exact cuL_step p f i j) | exact (c4_7).trans (cuL_step p f i j) | (simp [go_sem, r1_7, c1_7, n1_4, n1_5, r4_7, c4_7, n4_1, r5_7, c5_7, n5_1]; exact cuL_step p f i j))⟩, ⟨by simp [go_sem, r1_7, c1_7, n1_4, n1_5, r4_7, c4_7, n4_1, r5_7, c5_7, n5_1], (by first | (rw [blk_setRow _ _ _ _ r5_7, if_pos rfl]; exact cuRs_step p f i n j) | exact (c5_7).trans (cuRs_step p f i n j) | (simp [go_sem, r1_7, c1_7, n1_4, n1_5, r4_7, c4_7, n4_1, r5_7, c5_7, n5_1]; exact cuRs_step p f i n j))⟩⟩
                case measure => simp [intOf]; omega
          · skip
            obtain rfl : n = j := by omega
            go_wp2
            refine wp_quiet_all (Below W4.heap.size W4) (by kernel_rfl) (by kernel_rfl) (Below.refl _ _).drew ?_
            iterate 2 (refine q_plain rfl ?_; apply Exists.intro; refine ⟨fun W hW => ?_, ?_⟩; (focus (obtain ⟨x1, y1⟩ := keepB hW z1_4 r1_4 c1_4; obtain ⟨x4, y4⟩ := keepB hW z4_4 r4_4 c4_4; obtain ⟨x5, y5⟩ := keepB hW z5_4 r5_4 c5_4; go_simp; first | done | rfl)); simp only [Act.put, List.setIfInBounds_toArray, List.set_cons_zero, List.set_cons_succ])
            (refine q_plain rfl ?_; apply Exists.intro; refine ⟨fun W hW => ?_, ?_⟩; (focus (obtain ⟨x1, y1⟩ := keepB hW z1_4 r1_4 c1_4; obtain ⟨x4, y4⟩ := keepB hW z4_4 r4_4 c4_4; obtain ⟨x5, y5⟩ := keepB hW z5_4 r5_4 c5_4; go_simp; (go_at_call 77; exact (l01BasisAt i (by omega) _).mono fun e w2 ⟨he, hw2⟩ => ⟨he, hW.trans (hw2.mono hW.size)⟩))); simp only [Act.put, List.setIfInBounds_toArray, List.set_cons_zero, List.set_cons_succ])
            iterate 2 (refine q_plain rfl ?_; apply Exists.intro; refine ⟨fun W hW => ?_, ?_⟩; (focus (obtain ⟨x1, y1⟩ := keepB hW z1_4 r1_4 c1_4; obtain ⟨x4, y4⟩ := keepB hW z4_4 r4_4 c4_4; obtain ⟨x5, y5⟩ := keepB hW z5_4 r5_4 c5_4; go_simp; first | done | rfl)); simp only [Act.put, List.setIfInBounds_toArray, List.set_cons_zero, List.set_cons_succ])
            iterate 4 (refine q_skip (by kernel_rfl) ?_; simp only [Act.put, List.setIfInBounds_toArray, List.set_cons_zero, List.set_cons_succ])
            iterate 1 (refine q_plain rfl ?_; apply Exists.intro; refine ⟨fun W hW => ?_, ?_⟩; (focus (obtain ⟨x1, y1⟩ := keepB hW z1_4 r1_4 c1_4; obtain ⟨x4, y4⟩ := keepB hW z4_4 r4_4 c4_4; obtain ⟨x5, y5⟩ := keepB hW z5_4 r5_4 c5_4; go_simp; first | done | rfl)); simp only [Act.put, List.setIfInBounds_toArray, List.set_cons_zero, List.set_cons_succ])
            refine wpQuiet_nil ?_
            intro W9 hw9
            obtain ⟨r1_9, c1_9⟩ := keepB hw9 z1_4 r1_4 c1_4
            have z1_9 := isRow_lt r1_9
            obtain ⟨r4_9, c4_9⟩ := keepB hw9 z4_4 r4_4 c4_4
            have z4_9 := isRow_lt r4_9
            obtain ⟨r5_9, c5_9⟩ := keepB hw9 z5_4 r5_4 c5_4
            have z5_9 := isRow_lt r5_9
            have hb9 := hb4.trans (hw9.mono hb4.size)
            have q9 := hb9.size
            clear hw9 r1_4 c1_4 z1_4 r4_4 c4_4 z4_4 r5_4 c5_4 z5_4 hb4
            go_wp2_with fail
            go_ret
            exact ⟨ret_bool (by rw [H.out] <;> rfl), (by (repeat (first | exact hb9 | exact Below.refl _ _ | refine Below.alloc ?_ (by first | omega | (simp; try omega)) _ | refine below_setRow ?_ (by omega) _ | refine Below.drew ?_)))⟩
      · skip
        cases hu2 : segEq 0 8 (cuRs p f i n n) (ebas i)
        · skip
          have H : Hid (cuSB p n f = false) := Lib.hid (all_no (q := cuSAt p n f) i n (by omega) (by unfold cuSAt; rw [hu1, hu2]; rfl))
          go_wp2
          have nw1_W2_0 : (w.heap.size) ≠ W2.heap.size := by omega
          have nw1_W2_1 : (w.heap.size) ≠ W2.heap.size + 1 := by omega
          refine atomW fun W10 e10 => ?_
          have hb10 : Below w.heap.size w W10 := by rw [e10]; (repeat (first | exact hb2 | exact Below.refl _ _ | refine Below.alloc ?_ (by first | omega | (simp; try omega)) _ | refine below_setRow ?_ (by omega) _ | refine Below.drew ?_))
          have q10 := hb10.size
          have r1_10 : IsRow W10 (w.heap.size) := by rw [e10]; simp [go_sem, r1_2, c1_2, nw1_W2_0, nw1_W2_1]
          have c1_10 := congrArg (fun x => blk x (w.heap.size)) e10; simp [go_sem, r1_2, c1_2, nw1_W2_0, nw1_W2_1] at c1_10
          have z1_10 := isRow_lt r1_10
          have r4_10 : IsRow W10 (W2.heap.size) := by rw [e10]; simp [go_sem, r1_2, c1_2, nw1_W2_0, nw1_W2_1]
          have c4_10 := congrArg (fun x => blk x (W2.heap.size)) e10; simp [go_sem, r1_2, c1_2, nw1_W2_0, nw1_W2_1] at c4_10
          have z4_10 := isRow_lt r4_10
          have r5_10 : IsRow W10 (W2.heap.size + 1) := by rw [e10]; simp [go_sem, r1_2, c1_2, nw1_W2_0, nw1_W2_1]
          have c5_10 := congrArg (fun x => blk x (W2.heap.size + 1)) e10; simp [go_sem, r1_2, c1_2, nw1_W2_0, nw1_W2_1] at c5_10
          have z5_10 := isRow_lt r5_10
          have n1_4 : (w.heap.size) ≠ (W2.heap.size) := by omega
          have n1_5 : (w.heap.size) ≠ (W2.heap.size + 1) := by omega
          have n4_1 : (W2.heap.size) ≠ (w.heap.size) := by omega
          have n5_1 : (W2.heap.size + 1) ≠ (w.heap.size) := by omega
          clear e10 nw1_W2_0 nw1_W2_1 r1_2 c1_2 z1_2 hb2
          go_loopw [6] (fun s6 wr => ∃ j : Nat, j ≤ n ∧ s6 = .int .i64 j ∧ Below w.heap.size w wr ∧ (IsRow wr (w.heap.size) ∧ blk wr (w.heap.size) = blk W10 (w.heap.size)) ∧ (IsRow wr (W2.heap.size) ∧ blk wr (W2.heap.size) = row 8 (cuL p f i j)) ∧ (IsRow wr (W2.heap.size + 1) ∧ blk wr (W2.heap.size + 1) = row 8 (cuRs p f i n j))) (fun s6 _ => n - (intOf s6).toNat)
          case atStart => exact ⟨0, by omega, rfl, hb10, ⟨r1_10, rfl⟩, ⟨r4_10, c4_10.trans (cuL_zero p f i)⟩, ⟨r5_10, c5_10.trans (cuRs_zero p f i n)⟩⟩
          case round =>
            obtain ⟨j, hle11, rfl, hb11, ⟨r1_11, c1_11⟩, ⟨r4_11, c4_11⟩, ⟨r5_11, c5_11⟩⟩ := hrel
            obtain ⟨W11, rfl⟩ : ∃ W11 : World, W11 = wr := ⟨_, rfl⟩
            have q11 := hb11.size
            have E1_11 := Lib.hid c1_10; replace c1_11 := c1_11.trans c1_10
            have z1_11 := isRow_lt r1_11
            have z4_11 := isRow_lt r4_11
            have z5_11 := isRow_lt r5_11
            clear r1_10 c1_10 z1_10 r4_10 c4_10 z4_10 r5_10 c5_10 z5_10 hb10
            by_cases hlt11 : j < n
            · skip
              have i0_11 : (0 : Int) ≤ (j : Int) := by omega
              have i8_11 : (j : Int) < 8 := by omega
              have k8_11 : j < 8 := by omega
              have m8_11 : j * 8 + 8 ≤ 64 := by omega
              have m64_11 : j * 64 + 64 ≤ 512 := by omega
              have l1_11 : 10 + j * 64 + 64 ≤ 522 := by omega
              have l2_11i : 10 + i * 64 + j * 8 + 8 ≤ 522 := by omega
              have l3_11i : 10 + j * 64 + i * 8 + 8 ≤ 522 := by omega
              have l4_11i : i * 64 + j * 8 + 8 ≤ 512 := by omega
              have l5_11i : j * 64 + i * 8 + 8 ≤ 512 := by omega
              have l6_11i : i * 8 + j < 64 := by omega
              have l7_11i : j * 8 + i < 64 := by omega
              have HU : Hid (Bytes 8 f) := Lib.hid (unit_bytes HF.out)
              have b1 := (HU.out j (by omega)).1; have b2 := (HU.out j (by omega)).2; have e9 := alg_cuq p n f j (by omega); have e8 := alg_at8 p n f i j (by omega) (by omega)
              have HA : Hid (Bytes 8 (cuL p f i j)) := Lib.hid (cuL_bytes hp hp' f i j)
              have HB : Hid (Bytes 8 (mtab f i j)) := Lib.hid (mtab_bytes HF.out i j (by omega) (by omega))
              have q1 : IntKind.i64.wrap (f j) = f j := IntWalk.i64_in _ (by omega)
              go_wp2
              refine wp_quiet_tail 15 (Below W11.heap.size W11) (by kernel_rfl) (by kernel_rfl) (Below.refl _ _).drew ?_
              simp only [List.take_succ_cons, List.take_zero, List.drop_succ_cons, List.drop_zero]
              iterate 14 (refine q_plain rfl ?_; apply Exists.intro; refine ⟨fun W hW => ?_, ?_⟩; (focus (obtain ⟨x1, y1⟩ := keepB hW z1_11 r1_11 c1_11; obtain ⟨x4, y4⟩ := keepB hW z4_11 r4_11 c4_11; obtain ⟨x5, y5⟩ := keepB hW z5_11 r5_11 c5_11; go_simp; first | done | rfl)); simp only [Act.put, List.setIfInBounds_toArray, List.set_cons_zero, List.set_cons_succ])
              (refine q_plain rfl ?_; apply Exists.intro; refine ⟨fun W hW => ?_, ?_⟩; (focus (obtain ⟨x1, y1⟩ := keepB hW z1_11 r1_11 c1_11; obtain ⟨x4, y4⟩ := keepB hW z4_11 r4_11 c4_11; obtain ⟨x5, y5⟩ := keepB hW z5_11 r5_11 c5_11; go_simp; (go_at_call 74; exact (l01Add_any _ _ _ _ _ hp hp' (by omega) (by omega) HA.out HB.out).mono fun e w2 ⟨he, hw2⟩ => ⟨he, hW.trans (hw2.mono hW.size)⟩))); simp only [Act.put, List.setIfInBounds_toArray, List.set_cons_zero, List.set_cons_succ])
              refine wpQuiet_nil ?_
              intro W12 hw12
              obtain ⟨r1_12, c1_12⟩ := keepB hw12 z1_11 r1_11 c1_11
              have z1_12 := isRow_lt r1_12
              obtain ⟨r4_12, c4_12⟩ := keepB hw12 z4_11 r4_11 c4_11
              have z4_12 := isRow_lt r4_12
              obtain ⟨r5_12, c5_12⟩ := keepB hw12 z5_11 r5_11 c5_11
              have z5_12 := isRow_lt r5_12
              have hb12 := hb11.trans (hw12.mono hb11.size)
              have q12 := hb12.size
              clear hw12 r1_11 c1_11 z1_11 r4_11 c4_11 z4_11 r5_11 c5_11 z5_11 hb11
              go_wp2
              refine atomW fun W13 e13 => ?_
              have hb13 : Below w.heap.size w W13 := by rw [e13]; (repeat (first | exact hb12 | exact Below.refl _ _ | refine Below.alloc ?_ (by first | omega | (simp; try omega)) _ | refine below_setRow ?_ (by omega) _ | refine Below.drew ?_))
              have q13 := hb13.size
              have r1_13 : IsRow W13 (w.heap.size) := by rw [e13]; simp [go_sem, r1_12, c1_12, n1_4, n1_5, r4_12, c4_12, n4_1, r5_12, c5_12, n5_1]
              have c1_13 := congrArg (fun x => blk x (w.heap.size)) e13; simp [go_sem, r1_12, c1_12, n1_4, n1_5, r4_12, c4_12, n4_1, r5_12, c5_12, n5_1] at c1_13
              have z1_13 := isRow_lt r1_13
              have r4_13 : IsRow W13 (W2.heap.size) := by rw [e13]; simp [go_sem, r1_12, c1_12, n1_4, n1_5, r4_12, c4_12, n4_1, r5_12, c5_12, n5_1]
              have c4_13 := congrArg (fun x => blk x (W2.heap.size)) e13; simp [go_sem, r1_12, c1_12, n1_4, n1_5, r4_12, c4_12, n4_1, r5_12, c5_12, n5_1] at c4_13
              have z4_13 := isRow_lt r4_13
              have r5_13 : IsRow W13 (W2.heap.size + 1) := by rw [e13]; simp [go_sem, r1_12, c1_12, n1_4, n1_5, r4_12, c4_12, n4_1, r5_12, c5_12, n5_1]
              have c5_13 := congrArg (fun x => blk x (W2.heap.size + 1)) e13; simp [go_sem, r1_12, c1_12, n1_4, n1_5, r4_12, c4_12, n4_1, r5_12, c5_12, n5_1] at c5_13
              have z5_13 := isRow_lt r5_13
              clear e13 r1_12 c1_12 z1_12 r4_12 c4_12 z4_12 r5_12 c5_12 z5_12 hb12
              go_loopw [7, 8] (fun s7 s8 wr => ∃ k : Nat, k ≤ n ∧ s7 = .int .i64 (dotF k f (mtab f i j)) ∧ s8 = .int .i64 k ∧ Below w.heap.size w wr ∧ (IsRow wr (w.heap.size) ∧ blk wr (w.heap.size) = blk W13 (w.heap.size)) ∧ (IsRow wr (W2.heap.size) ∧ blk wr (W2.heap.size) = blk W13 (W2.heap.size)) ∧ (IsRow wr (W2.heap.size + 1) ∧ blk wr (W2.heap.size + 1) = blk W13 (W2.heap.size + 1))) (fun _ s8 _ => n - (intOf s8).toNat)
              case atStart => exact ⟨0, by omega, (by first | rfl | (simp; done) | go_num), rfl, hb13, ⟨r1_13, rfl⟩, ⟨r4_13, rfl⟩, ⟨r5_13, rfl⟩⟩
              case round =>
                obtain ⟨k, hle14, rfl, rfl, hb14, ⟨r1_14, c1_14⟩, ⟨r4_14, c4_14⟩, ⟨r5_14, c5_14⟩⟩ := hrel
                obtain ⟨W14, rfl⟩ : ∃ W14 : World, W14 = wr := ⟨_, rfl⟩
                have q14 := hb14.size
                have E1_14 := Lib.hid c1_13; replace c1_14 := c1_14.trans c1_13
                have z1_14 := isRow_lt r1_14
                have E4_14 := Lib.hid c4_13; replace c4_14 := c4_14.trans c4_13
                have z4_14 := isRow_lt r4_14
                have E5_14 := Lib.hid c5_13; replace c5_14 := c5_14.trans c5_13
                have z5_14 := isRow_lt r5_14
                clear r1_13 c1_13 z1_13 r4_13 c4_13 z4_13 r5_13 c5_13 z5_13 hb13
                have d1 := (dotM_range HF.out i j (by omega) (by omega) k (by omega)).1; have d2 := (dotM_range HF.out i j (by omega) (by omega) k (by omega)).2
                by_cases hlt14 : k < n
                · skip
                  have i0_14 : (0 : Int) ≤ (k : Int) := by omega
                  have i8_14 : (k : Int) < 8 := by omega
                  have k8_14 : k < 8 := by omega
                  have m8_14 : k * 8 + 8 ≤ 64 := by omega
                  have m64_14 : k * 64 + 64 ≤ 512 := by omega
                  have l1_14 : 10 + k * 64 + 64 ≤ 522 := by omega
                  have l2_14i : 10 + i * 64 + k * 8 + 8 ≤ 522 := by omega
                  have l3_14i : 10 + k * 64 + i * 8 + 8 ≤ 522 := by omega
                  have l4_14i : i * 64 + k * 8 + 8 ≤ 512 := by omega
                  have l5_14i : k * 64 + i * 8 + 8 ≤ 512 := by omega
                  have l6_14i : i * 8 + k < 64 := by omega
                  have l7_14i : k * 8 + i < 64 := by omega
                  have l2_14j : 10 + j * 64 + k * 8 + 8 ≤ 522 := by omega
                  have l3_14j : 10 + k * 64 + j * 8 + 8 ≤ 522 := by omega
                  have l4_14j : j * 64 + k * 8 + 8 ≤ 512 := by omega
                  have l5_14j : k * 64 + j * 8 + 8 ≤ 512 := by omega
                  have l6_14j : j * 8 + k < 64 := by omega
                  have l7_14j : k * 8 + j < 64 := by omega
                  have b3 := (HU.out k (by omega)).1; have b4 := (HU.out k (by omega)).2; have b5 := mtab_range HF.out i j k (by omega) (by omega) (by omega); have e7 := alg_cu p n f k (by omega); have e6 := alg_el p n f i j k (by omega) (by omega) (by omega); have b6 := prod_range ⟨b3, b4⟩ b5; have e5 := alg_at p n f i j k (by omega) (by omega) (by omega)
                  have e4 := alg_cuq p n f k (by omega)
                  have q2 : IntKind.i64.wrap (f k) = f k := IntWalk.i64_in _ (by omega)
                  have q3 : IntKind.i64.wrap (mtab f i j k) = mtab f i j k := IntWalk.i64_in _ (by omega)
                  have q4 : IntKind.i64.wrap (f k * mtab f i j k) = f k * mtab f i j k := IntWalk.i64_in _ (by omega)
                  have q5 : IntKind.i64.wrap (dotF k f (mtab f i j) + f k * mtab f i j k) = dotF k f (mtab f i j) + f k * mtab f i j k := IntWalk.i64_in _ (by omega)
                  go_wp2
                  refine wp_quiet_all (Below W14.heap.size W14) (by kernel_rfl) (by kernel_rfl) (Below.refl _ _).drew ?_
                  iterate 18 (refine q_plain rfl ?_; apply Exists.intro; refine ⟨fun W hW => ?_, ?_⟩; (focus (obtain ⟨x1, y1⟩ := keepB hW z1_14 r1_14 c1_14; obtain ⟨x4, y4⟩ := keepB hW z4_14 r4_14 c4_14; obtain ⟨x5, y5⟩ := keepB hW z5_14 r5_14 c5_14; go_simp; first | done | rfl)); simp only [Act.put, List.setIfInBounds_toArray, List.set_cons_zero, List.set_cons_succ])
                  refine wpQuiet_nil ?_
                  intro W15 hw15
                  obtain ⟨r1_15, c1_15⟩ := keepB hw15 z1_14 r1_14 c1_14
                  have z1_15 := isRow_lt r1_15
                  obtain ⟨r4_15, c4_15⟩ := keepB hw15 z4_14 r4_14 c4_14
                  have z4_15 := isRow_lt r4_15
                  obtain ⟨r5_15, c5_15⟩ := keepB hw15 z5_14 r5_14 c5_14
                  have z5_15 := isRow_lt r5_15
                  have hb15 := hb14.trans (hw15.mono hb14.size)
                  have q15 := hb15.size
                  clear hw15 r1_14 c1_14 z1_14 r4_14 c4_14 z4_14 r5_14 c5_14 z5_14 hb14
                  go_wp2
                  go_roundw
                  case rel => exact ⟨k + 1, by omega, (by first | rfl | go_num | (simp; done)), by go_num, (by (repeat (first | exact hb15 | exact Below.refl _ _ | refine Below.alloc ?_ (by first | omega | (simp; try omega)) _ | refine below_setRow ?_ (by omega) _ | refine Below.drew ?_))), ⟨by simp [go_sem, r1_15, c1_15, n1_4, n1_5, r4_15, c4_15, n4_1, r5_15, c5_15, n5_1], (by rw [E1_14.out]; first | exact c1_15 | (simp [go_sem, r1_15, c1_15, n1_4, n1_5, r4_15, c4_15, n4_1, r5_15, c5_15, n5_1]; done))⟩, ⟨by simp [go_sem, r1_15, c1_15, n1_4, n1_5, r4_15, c4_15, n4_1, r5_15, c5_15, n5_1], (by rw [E4_14.out]; first | exact c4_15 | (simp [go_sem, r1_15, c1_15, n1_4, n1_5, r4_15, c4_15, n4_1, r5_15, c5_15, n5_1]; done))⟩, ⟨by simp [go_sem, r1_15, c1_15, n1_4, n1_5, r4_15, c4_15, n4_1, r5_15, c5_15, n5_1], (by rw [E5_14.out]; first | exact c5_15 | (simp [go_sem, r1_15, c1_15, n1_4, n1_5, r4_15, c4_15, n4_1, r5_15, c5_15, n5_1]; done))⟩⟩
                  case measure => simp [intOf]; omega
                · skip
                  obtain rfl : n = k := by omega
                  have p1 := (mod_range (dotF n f (mtab f i j)) p hp).1; have p2 := (mod_range (dotF n f (mtab f i j)) p hp).2
                  go_wp2_with fail
                  refine (l01Mod_any _ _ _ hp hp' (by omega) (by omega)).mono ?_; rintro _ _ ⟨rfl, rfl⟩
                  go_wp2
                  go_roundw
                  case rel => exact ⟨j + 1, by omega, by go_num, (by (repeat (first | exact hb14 | exact Below.refl _ _ | refine Below.alloc ?_ (by first | omega | (simp; try omega)) _ | refine below_setRow ?_ (by omega) _ | refine Below.drew ?_))), ⟨by simp [go_sem, r1_14, c1_14, n1_4, n1_5, r4_14, c4_14, n4_1, r5_14, c5_14, n5_1], (by rw [E1_11.out]; first | exact c1_14 | (simp [go_sem, r1_14, c1_14, n1_4, n1_5, r4_14, c4_14, n4_1, r5_14, c5_14, n5_1]; done))⟩, ⟨by simp [go_sem, r1_14, c1_14, n1_4, n1_5, r4_14, c4_14, n4_1, r5_14, c5_14, n5_1], (by first | (rw [blk_setRow _ _ _ _ r4_14, if_pos rfl]; exact cuL_step p f i j) | exact (c4_14).trans (cuL_step p f i j) | (simp [go_sem, r1_14, c1_14, n1_4, n1_5, r4_14, c4_14, n4_1, r5_14, c5_14, n5_1]; exact cuL_step p f i j))⟩, ⟨by simp [go_sem, r1_14, c1_14, n1_4, n1_5, r4_14, c4_14, n4_1, r5_14, c5_14, n5_1], (by first | (rw [blk_setRow _ _ _ _ r5_14, if_pos rfl]; exact cuRs_step p f i n j) | exact (c5_14).trans (cuRs_step p f i n j) | (simp [go_sem, r1_14, c1_14, n1_4, n1_5, r4_14, c4_14, n4_1, r5_14, c5_14, n5_1]; exact cuRs_step p f i n j))⟩⟩
                  case measure => simp [intOf]; omega
            · skip
              obtain rfl : n = j := by omega
              go_wp2
              refine wp_quiet_all (Below W11.heap.size W11) (by kernel_rfl) (by kernel_rfl) (Below.refl _ _).drew ?_
              iterate 2 (refine q_plain rfl ?_; apply Exists.intro; refine ⟨fun W hW => ?_, ?_⟩; (focus (obtain ⟨x1, y1⟩ := keepB hW z1_11 r1_11 c1_11; obtain ⟨x4, y4⟩ := keepB hW z4_11 r4_11 c4_11; obtain ⟨x5, y5⟩ := keepB hW z5_11 r5_11 c5_11; go_simp; first | done | rfl)); simp only [Act.put, List.setIfInBounds_toArray, List.set_cons_zero, List.set_cons_succ])
              (refine q_plain rfl ?_; apply Exists.intro; refine ⟨fun W hW => ?_, ?_⟩; (focus (obtain ⟨x1, y1⟩ := keepB hW z1_11 r1_11 c1_11; obtain ⟨x4, y4⟩ := keepB hW z4_11 r4_11 c4_11; obtain ⟨x5, y5⟩ := keepB hW z5_11 r5_11 c5_11; go_simp; (go_at_call 77; exact (l01BasisAt i (by omega) _).mono fun e w2 ⟨he, hw2⟩ => ⟨he, hW.trans (hw2.mono hW.size)⟩))); simp only [Act.put, List.setIfInBounds_toArray, List.set_cons_zero, List.set_cons_succ])
              iterate 2 (refine q_plain rfl ?_; apply Exists.intro; refine ⟨fun W hW => ?_, ?_⟩; (focus (obtain ⟨x1, y1⟩ := keepB hW z1_11 r1_11 c1_11; obtain ⟨x4, y4⟩ := keepB hW z4_11 r4_11 c4_11; obtain ⟨x5, y5⟩ := keepB hW z5_11 r5_11 c5_11; go_simp; first | done | rfl)); simp only [Act.put, List.setIfInBounds_toArray, List.set_cons_zero, List.set_cons_succ])
              iterate 2 (refine q_want (by kernel_rfl) ?_; apply Exists.intro; refine ⟨fun W hW => ?_, ?_⟩; (focus (obtain ⟨x1, y1⟩ := keepB hW z1_11 r1_11 c1_11; obtain ⟨x4, y4⟩ := keepB hW z4_11 r4_11 c4_11; obtain ⟨x5, y5⟩ := keepB hW z5_11 r5_11 c5_11; go_simp; first | done | rfl)); simp only [Act.put, List.setIfInBounds_toArray, List.set_cons_zero, List.set_cons_succ])
              (refine q_want (by kernel_rfl) ?_; apply Exists.intro; refine ⟨fun W hW => ?_, ?_⟩; (focus (obtain ⟨x1, y1⟩ := keepB hW z1_11 r1_11 c1_11; obtain ⟨x4, y4⟩ := keepB hW z4_11 r4_11 c4_11; obtain ⟨x5, y5⟩ := keepB hW z5_11 r5_11 c5_11; go_simp; (go_at_call 77; exact (l01BasisAt i (by omega) _).mono fun e w2 ⟨he, hw2⟩ => ⟨he, hW.trans (hw2.mono hW.size)⟩))); simp only [Act.put, List.setIfInBounds_toArray, List.set_cons_zero, List.set_cons_succ])
              iterate 1 (refine q_want (by kernel_rfl) ?_; apply Exists.intro; refine ⟨fun W hW => ?_, ?_⟩; (focus (obtain ⟨x1, y1⟩ := keepB hW z1_11 r1_11 c1_11; obtain ⟨x4, y4⟩ := keepB hW z4_11 r4_11 c4_11; obtain ⟨x5, y5⟩ := keepB hW z5_11 r5_11 c5_11; go_simp; first | done | rfl)); simp only [Act.put, List.setIfInBounds_toArray, List.set_cons_zero, List.set_cons_succ])
              iterate 1 (refine q_plain rfl ?_; apply Exists.intro; refine ⟨fun W hW => ?_, ?_⟩; (focus (obtain ⟨x1, y1⟩ := keepB hW z1_11 r1_11 c1_11; obtain ⟨x4, y4⟩ := keepB hW z4_11 r4_11 c4_11; obtain ⟨x5, y5⟩ := keepB hW z5_11 r5_11 c5_11; go_simp; first | done | rfl)); simp only [Act.put, List.setIfInBounds_toArray, List.set_cons_zero, List.set_cons_succ])
              refine wpQuiet_nil ?_
              intro W16 hw16
              obtain ⟨r1_16, c1_16⟩ := keepB hw16 z1_11 r1_11 c1_11
              have z1_16 := isRow_lt r1_16
              obtain ⟨r4_16, c4_16⟩ := keepB hw16 z4_11 r4_11 c4_11
              have z4_16 := isRow_lt r4_16
              obtain ⟨r5_16, c5_16⟩ := keepB hw16 z5_11 r5_11 c5_11
              have z5_16 := isRow_lt r5_16
              have hb16 := hb11.trans (hw16.mono hb11.size)
              have q16 := hb16.size
              clear hw16 r1_11 c1_11 z1_11 r4_11 c4_11 z4_11 r5_11 c5_11 z5_11 hb11
              go_wp2_with fail
              go_ret
              exact ⟨ret_bool (by rw [H.out] <;> rfl), (by (repeat (first | exact hb16 | exact Below.refl _ _ | refine Below.alloc ?_ (by first | omega | (simp; try omega)) _ | refine below_setRow ?_ (by omega) _ | refine Below.drew ?_)))⟩
        · skip
          have H := Lib.hid (upto_more (q := cuSAt p n f) HX2.out (by unfold cuSAt; rw [hu1, hu2]; rfl))
          go_wp2
          have nw1_W2_0 : (w.heap.size) ≠ W2.heap.size := by omega
          have nw1_W2_1 : (w.heap.size) ≠ W2.heap.size + 1 := by omega
          refine atomW fun W17 e17 => ?_
          have hb17 : Below w.heap.size w W17 := by rw [e17]; (repeat (first | exact hb2 | exact Below.refl _ _ | refine Below.alloc ?_ (by first | omega | (simp; try omega)) _ | refine below_setRow ?_ (by omega) _ | refine Below.drew ?_))
          have q17 := hb17.size
          have r1_17 : IsRow W17 (w.heap.size) := by rw [e17]; simp [go_sem, r1_2, c1_2, nw1_W2_0, nw1_W2_1]
          have c1_17 := congrArg (fun x => blk x (w.heap.size)) e17; simp [go_sem, r1_2, c1_2, nw1_W2_0, nw1_W2_1] at c1_17
          have z1_17 := isRow_lt r1_17
          have r4_17 : IsRow W17 (W2.heap.size) := by rw [e17]; simp [go_sem, r1_2, c1_2, nw1_W2_0, nw1_W2_1]
          have c4_17 := congrArg (fun x => blk x (W2.heap.size)) e17; simp [go_sem, r1_2, c1_2, nw1_W2_0, nw1_W2_1] at c4_17
          have z4_17 := isRow_lt r4_17
          have r5_17 : IsRow W17 (W2.heap.size + 1) := by rw [e17]; simp [go_sem, r1_2, c1_2, nw1_W2_0, nw1_W2_1]
          have c5_17 := congrArg (fun x => blk x (W2.heap.size + 1)) e17; simp [go_sem, r1_2, c1_2, nw1_W2_0, nw1_W2_1] at c5_17
          have z5_17 := isRow_lt r5_17
          have n1_4 : (w.heap.size) ≠ (W2.heap.size) := by omega
          have n1_5 : (w.heap.size) ≠ (W2.heap.size + 1) := by omega
          have n4_1 : (W2.heap.size) ≠ (w.heap.size) := by omega
          have n5_1 : (W2.heap.size + 1) ≠ (w.heap.size) := by omega
          clear e17 nw1_W2_0 nw1_W2_1 r1_2 c1_2 z1_2 hb2
          go_loopw [6] (fun s6 wr => ∃ j : Nat, j ≤ n ∧ s6 = .int .i64 j ∧ Below w.heap.size w wr ∧ (IsRow wr (w.heap.size) ∧ blk wr (w.heap.size) = blk W17 (w.heap.size)) ∧ (IsRow wr (W2.heap.size) ∧ blk wr (W2.heap.size) = row 8 (cuL p f i j)) ∧ (IsRow wr (W2.heap.size + 1) ∧ blk wr (W2.heap.size + 1) = row 8 (cuRs p f i n j))) (fun s6 _ => n - (intOf s6).toNat)
          case atStart => exact ⟨0, by omega, rfl, hb17, ⟨r1_17, rfl⟩, ⟨r4_17, c4_17.trans (cuL_zero p f i)⟩, ⟨r5_17, c5_17.trans (cuRs_zero p f i n)⟩⟩
          case round =>
            obtain ⟨j, hle18, rfl, hb18, ⟨r1_18, c1_18⟩, ⟨r4_18, c4_18⟩, ⟨r5_18, c5_18⟩⟩ := hrel
            obtain ⟨W18, rfl⟩ : ∃ W18 : World, W18 = wr := ⟨_, rfl⟩
            have q18 := hb18.size
            have E1_18 := Lib.hid c1_17; replace c1_18 := c1_18.trans c1_17
            have z1_18 := isRow_lt r1_18
            have z4_18 := isRow_lt r4_18
            have z5_18 := isRow_lt r5_18
            clear r1_17 c1_17 z1_17 r4_17 c4_17 z4_17 r5_17 c5_17 z5_17 hb17
            by_cases hlt18 : j < n
            · skip
              have i0_18 : (0 : Int) ≤ (j : Int) := by omega
              have i8_18 : (j : Int) < 8 := by omega
              have k8_18 : j < 8 := by omega
              have m8_18 : j * 8 + 8 ≤ 64 := by omega
              have m64_18 : j * 64 + 64 ≤ 512 := by omega
              have l1_18 : 10 + j * 64 + 64 ≤ 522 := by omega
              have l2_18i : 10 + i * 64 + j * 8 + 8 ≤ 522 := by omega
              have l3_18i : 10 + j * 64 + i * 8 + 8 ≤ 522 := by omega
              have l4_18i : i * 64 + j * 8 + 8 ≤ 512 := by omega
              have l5_18i : j * 64 + i * 8 + 8 ≤ 512 := by omega
              have l6_18i : i * 8 + j < 64 := by omega
              have l7_18i : j * 8 + i < 64 := by omega
              have HU : Hid (Bytes 8 f) := Lib.hid (unit_bytes HF.out)
              have b1 := (HU.out j (by omega)).1; have b2 := (HU.out j (by omega)).2; have e9 := alg_cuq p n f j (by omega); have e8 := alg_at8 p n f i j (by omega) (by omega)
              have HA : Hid (Bytes 8 (cuL p f i j)) := Lib.hid (cuL_bytes hp hp' f i j)
              have HB : Hid (Bytes 8 (mtab f i j)) := Lib.hid (mtab_bytes HF.out i j (by omega) (by omega))
              have q1 : IntKind.i64.wrap (f j) = f j := IntWalk.i64_in _ (by omega)
              go_wp2
              refine wp_quiet_tail 15 (Below W18.heap.size W18) (by kernel_rfl) (by kernel_rfl) (Below.refl _ _).drew ?_
              simp only [List.take_succ_cons, List.take_zero, List.drop_succ_cons, List.drop_zero]
              iterate 14 (refine q_plain rfl ?_; apply Exists.intro; refine ⟨fun W hW => ?_, ?_⟩; (focus (obtain ⟨x1, y1⟩ := keepB hW z1_18 r1_18 c1_18; obtain ⟨x4, y4⟩ := keepB hW z4_18 r4_18 c4_18; obtain ⟨x5, y5⟩ := keepB hW z5_18 r5_18 c5_18; go_simp; first | done | rfl)); simp only [Act.put, List.setIfInBounds_toArray, List.set_cons_zero, List.set_cons_succ])
              (refine q_plain rfl ?_; apply Exists.intro; refine ⟨fun W hW => ?_, ?_⟩; (focus (obtain ⟨x1, y1⟩ := keepB hW z1_18 r1_18 c1_18; obtain ⟨x4, y4⟩ := keepB hW z4_18 r4_18 c4_18; obtain ⟨x5, y5⟩ := keepB hW z5_18 r5_18 c5_18; go_simp; (go_at_call 74; exact (l01Add_any _ _ _ _ _ hp hp' (by omega) (by omega) HA.out HB.out).mono fun e w2 ⟨he, hw2⟩ => ⟨he, hW.trans (hw2.mono hW.size)⟩))); simp only [Act.put, List.setIfInBounds_toArray, List.set_cons_zero, List.set_cons_succ])
              refine wpQuiet_nil ?_
              intro W19 hw19
              obtain ⟨r1_19, c1_19⟩ := keepB hw19 z1_18 r1_18 c1_18
              have z1_19 := isRow_lt r1_19
              obtain ⟨r4_19, c4_19⟩ := keepB hw19 z4_18 r4_18 c4_18
              have z4_19 := isRow_lt r4_19
              obtain ⟨r5_19, c5_19⟩ := keepB hw19 z5_18 r5_18 c5_18
              have z5_19 := isRow_lt r5_19
              have hb19 := hb18.trans (hw19.mono hb18.size)
              have q19 := hb19.size
              clear hw19 r1_18 c1_18 z1_18 r4_18 c4_18 z4_18 r5_18 c5_18 z5_18 hb18
              go_wp2
              refine atomW fun W20 e20 => ?_
              have hb20 : Below w.heap.size w W20 := by rw [e20]; (repeat (first | exact hb19 | exact Below.refl _ _ | refine Below.alloc ?_ (by first | omega | (simp; try omega)) _ | refine below_setRow ?_ (by omega) _ | refine Below.drew ?_))
              have q20 := hb20.size
              have r1_20 : IsRow W20 (w.heap.size) := by rw [e20]; simp [go_sem, r1_19, c1_19, n1_4, n1_5, r4_19, c4_19, n4_1, r5_19, c5_19, n5_1]
              have c1_20 := congrArg (fun x => blk x (w.heap.size)) e20; simp [go_sem, r1_19, c1_19, n1_4, n1_5, r4_19, c4_19, n4_1, r5_19, c5_19, n5_1] at c1_20
              have z1_20 := isRow_lt r1_20
              have r4_20 : IsRow W20 (W2.heap.size) := by rw [e20]; simp [go_sem, r1_19, c1_19, n1_4, n1_5, r4_19, c4_19, n4_1, r5_19, c5_19, n5_1]
              have c4_20 := congrArg (fun x => blk x (W2.heap.size)) e20; simp [go_sem, r1_19, c1_19, n1_4, n1_5, r4_19, c4_19, n4_1, r5_19, c5_19, n5_1] at c4_20
              have z4_20 := isRow_lt r4_20
              have r5_20 : IsRow W20 (W2.heap.size + 1) := by rw [e20]; simp [go_sem, r1_19, c1_19, n1_4, n1_5, r4_19, c4_19, n4_1, r5_19, c5_19, n5_1]
              have c5_20 := congrArg (fun x => blk x (W2.heap.size + 1)) e20; simp [go_sem, r1_19, c1_19, n1_4, n1_5, r4_19, c4_19, n4_1, r5_19, c5_19, n5_1] at c5_20
              have z5_20 := isRow_lt r5_20
              clear e20 r1_19 c1_19 z1_19 r4_19 c4_19 z4_19 r5_19 c5_19 z5_19 hb19
              go_loopw [7, 8] (fun s7 s8 wr => ∃ k : Nat, k ≤ n ∧ s7 = .int .i64 (dotF k f (mtab f i j)) ∧ s8 = .int .i64 k ∧ Below w.heap.size w wr ∧ (IsRow wr (w.heap.size) ∧ blk wr (w.heap.size) = blk W20 (w.heap.size)) ∧ (IsRow wr (W2.heap.size) ∧ blk wr (W2.heap.size) = blk W20 (W2.heap.size)) ∧ (IsRow wr (W2.heap.size + 1) ∧ blk wr (W2.heap.size + 1) = blk W20 (W2.heap.size + 1))) (fun _ s8 _ => n - (intOf s8).toNat)
              case atStart => exact ⟨0, by omega, (by first | rfl | (simp; done) | go_num), rfl, hb20, ⟨r1_20, rfl⟩, ⟨r4_20, rfl⟩, ⟨r5_20, rfl⟩⟩
              case round =>
                obtain ⟨k, hle21, rfl, rfl, hb21, ⟨r1_21, c1_21⟩, ⟨r4_21, c4_21⟩, ⟨r5_21, c5_21⟩⟩ := hrel
                obtain ⟨W21, rfl⟩ : ∃ W21 : World, W21 = wr := ⟨_, rfl⟩
                have q21 := hb21.size
                have E1_21 := Lib.hid c1_20; replace c1_21 := c1_21.trans c1_20
                have z1_21 := isRow_lt r1_21
                have E4_21 := Lib.hid c4_20; replace c4_21 := c4_21.trans c4_20
                have z4_21 := isRow_lt r4_21
                have E5_21 := Lib.hid c5_20; replace c5_21 := c5_21.trans c5_20
                have z5_21 := isRow_lt r5_21
                clear r1_20 c1_20 z1_20 r4_20 c4_20 z4_20 r5_20 c5_20 z5_20 hb20
                have d1 := (dotM_range HF.out i j (by omega) (by omega) k (by omega)).1; have d2 := (dotM_range HF.out i j (by omega) (by omega) k (by omega)).2
                by_cases hlt21 : k < n
                · skip
                  have i0_21 : (0 : Int) ≤ (k : Int) := by omega
                  have i8_21 : (k : Int) < 8 := by omega
                  have k8_21 : k < 8 := by omega
                  have m8_21 : k * 8 + 8 ≤ 64 := by omega
                  have m64_21 : k * 64 + 64 ≤ 512 := by omega
                  have l1_21 : 10 + k * 64 + 64 ≤ 522 := by omega
                  have l2_21i : 10 + i * 64 + k * 8 + 8 ≤ 522 := by omega
                  have l3_21i : 10 + k * 64 + i * 8 + 8 ≤ 522 := by omega
                  have l4_21i : i * 64 + k * 8 + 8 ≤ 512 := by omega
                  have l5_21i : k * 64 + i * 8 + 8 ≤ 512 := by omega
                  have l6_21i : i * 8 + k < 64 := by omega
                  have l7_21i : k * 8 + i < 64 := by omega
                  have l2_21j : 10 + j * 64 + k * 8 + 8 ≤ 522 := by omega
                  have l3_21j : 10 + k * 64 + j * 8 + 8 ≤ 522 := by omega
                  have l4_21j : j * 64 + k * 8 + 8 ≤ 512 := by omega
                  have l5_21j : k * 64 + j * 8 + 8 ≤ 512 := by omega
                  have l6_21j : j * 8 + k < 64 := by omega
                  have l7_21j : k * 8 + j < 64 := by omega
                  have b3 := (HU.out k (by omega)).1; have b4 := (HU.out k (by omega)).2; have b5 := mtab_range HF.out i j k (by omega) (by omega) (by omega); have e7 := alg_cu p n f k (by omega); have e6 := alg_el p n f i j k (by omega) (by omega) (by omega); have b6 := prod_range ⟨b3, b4⟩ b5; have e5 := alg_at p n f i j k (by omega) (by omega) (by omega)
                  have e4 := alg_cuq p n f k (by omega)
                  have q2 : IntKind.i64.wrap (f k) = f k := IntWalk.i64_in _ (by omega)
                  have q3 : IntKind.i64.wrap (mtab f i j k) = mtab f i j k := IntWalk.i64_in _ (by omega)
                  have q4 : IntKind.i64.wrap (f k * mtab f i j k) = f k * mtab f i j k := IntWalk.i64_in _ (by omega)
                  have q5 : IntKind.i64.wrap (dotF k f (mtab f i j) + f k * mtab f i j k) = dotF k f (mtab f i j) + f k * mtab f i j k := IntWalk.i64_in _ (by omega)
                  go_wp2
                  refine wp_quiet_all (Below W21.heap.size W21) (by kernel_rfl) (by kernel_rfl) (Below.refl _ _).drew ?_
                  iterate 18 (refine q_plain rfl ?_; apply Exists.intro; refine ⟨fun W hW => ?_, ?_⟩; (focus (obtain ⟨x1, y1⟩ := keepB hW z1_21 r1_21 c1_21; obtain ⟨x4, y4⟩ := keepB hW z4_21 r4_21 c4_21; obtain ⟨x5, y5⟩ := keepB hW z5_21 r5_21 c5_21; go_simp; first | done | rfl)); simp only [Act.put, List.setIfInBounds_toArray, List.set_cons_zero, List.set_cons_succ])
                  refine wpQuiet_nil ?_
                  intro W22 hw22
                  obtain ⟨r1_22, c1_22⟩ := keepB hw22 z1_21 r1_21 c1_21
                  have z1_22 := isRow_lt r1_22
                  obtain ⟨r4_22, c4_22⟩ := keepB hw22 z4_21 r4_21 c4_21
                  have z4_22 := isRow_lt r4_22
                  obtain ⟨r5_22, c5_22⟩ := keepB hw22 z5_21 r5_21 c5_21
                  have z5_22 := isRow_lt r5_22
                  have hb22 := hb21.trans (hw22.mono hb21.size)
                  have q22 := hb22.size
                  clear hw22 r1_21 c1_21 z1_21 r4_21 c4_21 z4_21 r5_21 c5_21 z5_21 hb21
                  go_wp2
                  go_roundw
                  case rel => exact ⟨k + 1, by omega, (by first | rfl | go_num | (simp; done)), by go_num, (by (repeat (first | exact hb22 | exact Below.refl _ _ | refine Below.alloc ?_ (by first | omega | (simp; try omega)) _ | refine below_setRow ?_ (by omega) _ | refine Below.drew ?_))), ⟨by simp [go_sem, r1_22, c1_22, n1_4, n1_5, r4_22, c4_22, n4_1, r5_22, c5_22, n5_1], (by rw [E1_21.out]; first | exact c1_22 | (simp [go_sem, r1_22, c1_22, n1_4, n1_5, r4_22, c4_22, n4_1, r5_22, c5_22, n5_1]; done))⟩, ⟨by simp [go_sem, r1_22, c1_22, n1_4, n1_5, r4_22, c4_22, n4_1, r5_22, c5_22, n5_1], (by rw [E4_21.out]; first | exact c4_22 | (simp [go_sem, r1_22, c1_22, n1_4, n1_5, r4_22, c4_22, n4_1, r5_22, c5_22, n5_1]; done))⟩, ⟨by simp [go_sem, r1_22, c1_22, n1_4, n1_5, r4_22, c4_22, n4_1, r5_22, c5_22, n5_1], (by rw [E5_21.out]; first | exact c5_22 | (simp [go_sem, r1_22, c1_22, n1_4, n1_5, r4_22, c4_22, n4_1, r5_22, c5_22, n5_1]; done))⟩⟩
                  case measure => simp [intOf]; omega
                · skip
                  obtain rfl : n = k := by omega
                  have p1 := (mod_range (dotF n f (mtab f i j)) p hp).1; have p2 := (mod_range (dotF n f (mtab f i j)) p hp).2
                  go_wp2_with fail
                  refine (l01Mod_any _ _ _ hp hp' (by omega) (by omega)).mono ?_; rintro _ _ ⟨rfl, rfl⟩
                  go_wp2
                  go_roundw
                  case rel => exact ⟨j + 1, by omega, by go_num, (by (repeat (first | exact hb21 | exact Below.refl _ _ | refine Below.alloc ?_ (by first | omega | (simp; try omega)) _ | refine below_setRow ?_ (by omega) _ | refine Below.drew ?_))), ⟨by simp [go_sem, r1_21, c1_21, n1_4, n1_5, r4_21, c4_21, n4_1, r5_21, c5_21, n5_1], (by rw [E1_18.out]; first | exact c1_21 | (simp [go_sem, r1_21, c1_21, n1_4, n1_5, r4_21, c4_21, n4_1, r5_21, c5_21, n5_1]; done))⟩, ⟨by simp [go_sem, r1_21, c1_21, n1_4, n1_5, r4_21, c4_21, n4_1, r5_21, c5_21, n5_1], (by first | (rw [blk_setRow _ _ _ _ r4_21, if_pos rfl]; exact cuL_step p f i j) | exact (c4_21).trans (cuL_step p f i j) | (simp [go_sem, r1_21, c1_21, n1_4, n1_5, r4_21, c4_21, n4_1, r5_21, c5_21, n5_1]; exact cuL_step p f i j))⟩, ⟨by simp [go_sem, r1_21, c1_21, n1_4, n1_5, r4_21, c4_21, n4_1, r5_21, c5_21, n5_1], (by first | (rw [blk_setRow _ _ _ _ r5_21, if_pos rfl]; exact cuRs_step p f i n j) | exact (c5_21).trans (cuRs_step p f i n j) | (simp [go_sem, r1_21, c1_21, n1_4, n1_5, r4_21, c4_21, n4_1, r5_21, c5_21, n5_1]; exact cuRs_step p f i n j))⟩⟩
                  case measure => simp [intOf]; omega
            · skip
              obtain rfl : n = j := by omega
              go_wp2
              refine wp_quiet_all (Below W18.heap.size W18) (by kernel_rfl) (by kernel_rfl) (Below.refl _ _).drew ?_
              iterate 2 (refine q_plain rfl ?_; apply Exists.intro; refine ⟨fun W hW => ?_, ?_⟩; (focus (obtain ⟨x1, y1⟩ := keepB hW z1_18 r1_18 c1_18; obtain ⟨x4, y4⟩ := keepB hW z4_18 r4_18 c4_18; obtain ⟨x5, y5⟩ := keepB hW z5_18 r5_18 c5_18; go_simp; first | done | rfl)); simp only [Act.put, List.setIfInBounds_toArray, List.set_cons_zero, List.set_cons_succ])
              (refine q_plain rfl ?_; apply Exists.intro; refine ⟨fun W hW => ?_, ?_⟩; (focus (obtain ⟨x1, y1⟩ := keepB hW z1_18 r1_18 c1_18; obtain ⟨x4, y4⟩ := keepB hW z4_18 r4_18 c4_18; obtain ⟨x5, y5⟩ := keepB hW z5_18 r5_18 c5_18; go_simp; (go_at_call 77; exact (l01BasisAt i (by omega) _).mono fun e w2 ⟨he, hw2⟩ => ⟨he, hW.trans (hw2.mono hW.size)⟩))); simp only [Act.put, List.setIfInBounds_toArray, List.set_cons_zero, List.set_cons_succ])
              iterate 2 (refine q_plain rfl ?_; apply Exists.intro; refine ⟨fun W hW => ?_, ?_⟩; (focus (obtain ⟨x1, y1⟩ := keepB hW z1_18 r1_18 c1_18; obtain ⟨x4, y4⟩ := keepB hW z4_18 r4_18 c4_18; obtain ⟨x5, y5⟩ := keepB hW z5_18 r5_18 c5_18; go_simp; first | done | rfl)); simp only [Act.put, List.setIfInBounds_toArray, List.set_cons_zero, List.set_cons_succ])
              iterate 2 (refine q_want (by kernel_rfl) ?_; apply Exists.intro; refine ⟨fun W hW => ?_, ?_⟩; (focus (obtain ⟨x1, y1⟩ := keepB hW z1_18 r1_18 c1_18; obtain ⟨x4, y4⟩ := keepB hW z4_18 r4_18 c4_18; obtain ⟨x5, y5⟩ := keepB hW z5_18 r5_18 c5_18; go_simp; first | done | rfl)); simp only [Act.put, List.setIfInBounds_toArray, List.set_cons_zero, List.set_cons_succ])
              (refine q_want (by kernel_rfl) ?_; apply Exists.intro; refine ⟨fun W hW => ?_, ?_⟩; (focus (obtain ⟨x1, y1⟩ := keepB hW z1_18 r1_18 c1_18; obtain ⟨x4, y4⟩ := keepB hW z4_18 r4_18 c4_18; obtain ⟨x5, y5⟩ := keepB hW z5_18 r5_18 c5_18; go_simp; (go_at_call 77; exact (l01BasisAt i (by omega) _).mono fun e w2 ⟨he, hw2⟩ => ⟨he, hW.trans (hw2.mono hW.size)⟩))); simp only [Act.put, List.setIfInBounds_toArray, List.set_cons_zero, List.set_cons_succ])
              iterate 1 (refine q_want (by kernel_rfl) ?_; apply Exists.intro; refine ⟨fun W hW => ?_, ?_⟩; (focus (obtain ⟨x1, y1⟩ := keepB hW z1_18 r1_18 c1_18; obtain ⟨x4, y4⟩ := keepB hW z4_18 r4_18 c4_18; obtain ⟨x5, y5⟩ := keepB hW z5_18 r5_18 c5_18; go_simp; first | done | rfl)); simp only [Act.put, List.setIfInBounds_toArray, List.set_cons_zero, List.set_cons_succ])
              iterate 1 (refine q_plain rfl ?_; apply Exists.intro; refine ⟨fun W hW => ?_, ?_⟩; (focus (obtain ⟨x1, y1⟩ := keepB hW z1_18 r1_18 c1_18; obtain ⟨x4, y4⟩ := keepB hW z4_18 r4_18 c4_18; obtain ⟨x5, y5⟩ := keepB hW z5_18 r5_18 c5_18; go_simp; first | done | rfl)); simp only [Act.put, List.setIfInBounds_toArray, List.set_cons_zero, List.set_cons_succ])
              refine wpQuiet_nil ?_
              intro W23 hw23
              obtain ⟨r1_23, c1_23⟩ := keepB hw23 z1_18 r1_18 c1_18
              have z1_23 := isRow_lt r1_23
              obtain ⟨r4_23, c4_23⟩ := keepB hw23 z4_18 r4_18 c4_18
              have z4_23 := isRow_lt r4_23
              obtain ⟨r5_23, c5_23⟩ := keepB hw23 z5_18 r5_18 c5_18
              have z5_23 := isRow_lt r5_23
              have hb23 := hb18.trans (hw23.mono hb18.size)
              have q23 := hb23.size
              clear hw23 r1_18 c1_18 z1_18 r4_18 c4_18 z4_18 r5_18 c5_18 z5_18 hb18
              go_wp2
              go_roundw
              case rel => exact ⟨i + 1, by omega, by go_num, (by (repeat (first | exact hb23 | exact Below.refl _ _ | refine Below.alloc ?_ (by first | omega | (simp; try omega)) _ | refine below_setRow ?_ (by omega) _ | refine Below.drew ?_))), ⟨by simp [go_sem, r1_23, c1_23, n1_4, n1_5, r4_23, c4_23, n4_1, r5_23, c5_23, n5_1], (by rw [E1_2.out]; first | exact c1_23 | (simp [go_sem, r1_23, c1_23, n1_4, n1_5, r4_23, c4_23, n4_1, r5_23, c5_23, n5_1]; done))⟩, H.out⟩
              case measure => simp [intOf]; omega
    · skip
      obtain rfl : n = i := by omega
      have H : Hid (cuSB p n f = true) := Lib.hid (all_yes (q := cuSAt p n f) n fun a ha => HX2.out a ha)
      go_wp2_with fail
      go_ret
      exact ⟨ret_bool (by rw [H.out] <;> rfl), (by (repeat (first | exact hb2 | exact Below.refl _ _ | refine Below.alloc ?_ (by first | omega | (simp; try omega)) _ | refine below_setRow ?_ (by omega) _ | refine Below.drew ?_)))⟩

end Go.Proofs.Ytnjjcimpcnennaa
