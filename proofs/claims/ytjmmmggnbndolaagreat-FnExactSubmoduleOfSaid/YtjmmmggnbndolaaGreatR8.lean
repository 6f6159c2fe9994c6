/- The laws' copies of Hopf algebras; a Hopf algebra and vectors for it. -/
import Derived.Test.YtjmmmggnbndolaaGreatRB
import Derived.Test.YtjmmmggnbndolaaGreatEqs
namespace Go.Proofs.YtjmmmggnbndolaaGreat
open Go.RowKit
set_option linter.unusedSimpArgs false
set_option linter.unusedVariables false
attribute [local irreducible] wpQuiet wpQE

set_option maxRecDepth 100000 in
theorem open_hop {w : World} {r : Reach} {base : Nat} {v : Value} (h : Value.okWide Tryz.prog w r base 26 v) :
    ∃ (p n : Int) (f : Nat → Int), v = .agg (hop p n f) ∧ (Lit.int .i64 p).wf = true ∧ (Lit.int .i64 n).wf = true ∧ Bytes 1104 f := by
  have ht : Tryz.prog.cellTypes Tryz.prog.depth 26 = some ([2, 2] ++ List.replicate 1104 5) := by kernel_rfl
  have hc : Tryz.prog.cellsOf 26 = 1106 := by kernel_rfl
  unfold Value.okWide at h
  rw [Tryz.underlying26] at h
  obtain ⟨cs, rfl, hs, ts, hts, _, hall⟩ := h
  rw [ht] at hts
  simp only [Option.some.injEq] at hts
  rw [hc] at hs
  have hlen : ts.length = 1106 := by rw [← hts, List.length_append, List.length_replicate]; rfl
  have get : ∀ i, i < 1106 → ∃ v u, cs[i]? = some v ∧ ts[i]? = some u ∧ Cell.okWide Tryz.prog w r base u v := by
    intro i hi
    obtain ⟨v, hv⟩ : ∃ v, cs[i]? = some v := ⟨cs[i], by simp [hs, hi]⟩
    obtain ⟨u, h1, h2⟩ := hall i v hv
    rw [hlen, Nat.mod_eq_of_lt hi] at h1
    exact ⟨v, u, hv, h1, h2⟩
  obtain ⟨v0, u0, h0, t0, k0⟩ := get 0 (by omega)
  obtain ⟨v1, u1, h1, t1, k1⟩ := get 1 (by omega)
  rw [← hts] at t0 t1
  obtain rfl : u0 = 2 := by simpa using t0.symm
  obtain rfl : u1 = 2 := by simpa using t1.symm
  obtain ⟨p, rfl, wp⟩ := cell_i64 Tryz.underlying2 k0
  obtain ⟨n, rfl, wn⟩ := cell_i64 Tryz.underlying2 k1
  have key : ∀ i, i < 1104 → ∃ k : Int, cs[2 + i]? = some (.int .u8 k) ∧ 0 ≤ k ∧ k ≤ 255 := by
    intro i hi
    obtain ⟨v, u, h2, t2, k2⟩ := get (2 + i) (by omega)
    have e : u = 5 := by
      rw [← hts, List.getElem?_append] at t2
      simp only [List.length_cons, List.length_nil] at t2
      rw [if_neg (by omega), List.getElem?_replicate] at t2
      split at t2
      · simpa using t2.symm
      · cases t2
    subst e
    obtain ⟨k, rfl, h3, h4⟩ := cell_u8 Tryz.underlying5 k2
    exact ⟨k, h2, h3, h4⟩
  refine ⟨p, n, fun i => cellInt cs (2 + i), ?_, wp, wn, ?_⟩
  · refine congrArg Value.agg ?_
    refine hop_ext h0 h1 (fun i hi => ?_) (fun i hi => by simp [hs]; omega)
    obtain ⟨k, h2, _⟩ := key i hi
    simp only [h2, cellInt]
  · clear hall ht hc hts hlen get k0 k1 t0 t1 h0 h1
    intro i hi
    have hk := key i hi
    show 0 ≤ cellInt cs (2 + i) ∧ cellInt cs (2 + i) ≤ 255
    unfold cellInt
    obtain ⟨k, h2, h3, h4⟩ := hk
    rw [h2]
    exact ⟨h3, h4⟩

/-- the first k bytes of f -/
def toK (k : Nat) (f : Nat → Int) : Nat → Int := fun i => if i < k then f i else 0
theorem lay_to (p n : Int) (f g : Nat → Int) (a m : Nat) (h : a + m ≤ 1104) (hg : ∀ t, t < m → g t = f (a + t)) : lay (hop p n (toK a f)) (2 + a) (row m g) = hop p n (toK (a + m) f) := by
  rw [lay_hop _ _ _ _ _ _ h]
  refine hop_congr fun i hi => ?_
  unfold toK
  by_cases h1 : a ≤ i ∧ i < a + m
  · rw [if_pos h1, if_pos h1.2, hg _ (by omega), show a + (i - a) = i by omega]
  · rw [if_neg h1]
    by_cases h2 : i < a
    · rw [if_pos h2, if_pos (by omega)]
    · rw [if_neg h2, if_neg (by omega)]
theorem to_zero (p n : Int) (f : Nat → Int) : hop p n zf = hop p n (toK 0 f) := hop_congr fun i _ => by unfold toK zf; rw [if_neg (by omega)]
theorem to_all (p n : Int) (f : Nat → Int) : hop p n (toK 1104 f) = hop p n f := hop_congr fun i hi => by unfold toK; rw [if_pos hi]
@[go_sem] theorem lay_h1 (p n : Int) (f : Nat → Int) : lay (hop p n zf) 2 (row 8 f) = hop p n (toK 8 f) := by rw [to_zero p n f]; exact lay_to p n f f 0 8 (by omega) fun t _ => by rw [Nat.zero_add]
@[go_sem] theorem lay_h2 (p n : Int) (f : Nat → Int) : lay (hop p n (toK 8 f)) 10 (row 512 (tab f)) = hop p n (toK 520 f) := lay_to p n f (tab f) 8 512 (by omega) fun t _ => rfl
@[go_sem] theorem lay_h3 (p n : Int) (f : Nat → Int) : lay (hop p n (toK 520 f)) 522 (row 8 (coF f)) = hop p n (toK 528 f) := lay_to p n f (coF f) 520 8 (by omega) fun t _ => rfl
@[go_sem] theorem lay_h4 (p n : Int) (f : Nat → Int) : lay (hop p n (toK 528 f)) 530 (row 512 (tab (coF f))) = hop p n (toK 1040 f) := lay_to p n f (tab (coF f)) 528 512 (by omega) fun t _ => by unfold tab coF; congr 1; omega
@[go_sem] theorem lay_h5 (p n : Int) (f : Nat → Int) : lay (hop p n (toK 1040 f)) 1042 (row 64 (anF f)) = hop p n f := by
  rw [← to_all p n f]; exact lay_to p n f (anF f) 1040 64 (by omega) fun t _ => rfl

set_option maxRecDepth 100000 in
set_option maxHeartbeats 4000000 in
theorem toHopf_any (p n : Int) (f : Nat → Int) (w : World)  :
    Calls Tryz.prog 10 #[.agg (hop p n f)] w fun e w' => e = .returned (.agg (hop p n f)) ∧ Below w.heap.size w w' := by
 go_enter Tryz.func10, Tryz.ntmps10
 go_wp2_with fail
 refine atomC fun W1 e1 => ?_
 have hb1 : Below w.heap.size w W1 := by rw [e1]; exact bt
 have q1 := hb1.size
 have R1 : IsRow W1 (w.heap.size) ∧ IsRow W1 (w.heap.size + 1) ∧ IsRow W1 (w.heap.size + 2) := by rw [e1]; simp [go_sem]
 obtain ⟨r1_1, r2_1, r3_1⟩ := R1
 have C1 := (⟨congrArg (blk · (w.heap.size)) e1, congrArg (blk · (w.heap.size + 1)) e1, congrArg (blk · (w.heap.size + 2)) e1⟩ : _ ∧ _ ∧ _); simp [go_sem] at C1
 obtain ⟨c1_1, c2_1, c3_1⟩ := C1
 have z1_1 := isRow_lt r1_1; have z2_1 := isRow_lt r2_1; have z3_1 := isRow_lt r3_1
 clear e1
 refine (toVector_any _ _).mono ?_; rintro _ W2 ⟨rfl, hw2⟩
 obtain ⟨r1_2, c1_2, z1_2⟩ := keepZ hw2 z1_1 r1_1 c1_1
 obtain ⟨r2_2, c2_2, z2_2⟩ := keepZ hw2 z2_1 r2_1 c2_1
 obtain ⟨r3_2, c3_2, z3_2⟩ := keepZ hw2 z3_1 r3_1 c3_1
 obtain ⟨hb2, q2⟩ := bN hb1 hw2
 clear hw2 r1_1 c1_1 z1_1 r2_1 c2_1 z2_1 r3_1 c3_1 z3_1 hb1
 go_wp2_with fail
 refine atomC fun W3 e3 => ?_
 have hb3 : Below w.heap.size w W3 := by rw [e3]; exact bt
 have q3 := hb3.size
 have R3 : IsRow W3 (w.heap.size) ∧ IsRow W3 (w.heap.size + 1) ∧ IsRow W3 (w.heap.size + 2) := by rw [e3]; simp [go_sem, r1_2, c1_2, r2_2, c2_2, r3_2, c3_2]
 obtain ⟨r1_3, r2_3, r3_3⟩ := R3
 have C3 := (⟨congrArg (blk · (w.heap.size)) e3, congrArg (blk · (w.heap.size + 1)) e3, congrArg (blk · (w.heap.size + 2)) e3⟩ : _ ∧ _ ∧ _); simp [go_sem, r1_2, c1_2, r2_2, c2_2, r3_2, c3_2] at C3
 obtain ⟨c1_3, c2_3, c3_3⟩ := C3
 have z1_3 := isRow_lt r1_3; have z2_3 := isRow_lt r2_3; have z3_3 := isRow_lt r3_3
 clear e3 r1_2 c1_2 z1_2 r2_2 c2_2 z2_2 r3_2 c3_2 z3_2 hb2
 refine (toTable_any _ _).mono ?_; rintro _ W4 ⟨rfl, hw4⟩
 obtain ⟨r1_4, c1_4, z1_4⟩ := keepZ hw4 z1_3 r1_3 c1_3
 obtain ⟨r2_4, c2_4, z2_4⟩ := keepZ hw4 z2_3 r2_3 c2_3
 obtain ⟨r3_4, c3_4, z3_4⟩ := keepZ hw4 z3_3 r3_3 c3_3
 obtain ⟨hb4, q4⟩ := bN hb3 hw4
 clear hw4 r1_3 c1_3 z1_3 r2_3 c2_3 z2_3 r3_3 c3_3 z3_3 hb3
 go_wp2_with fail
 refine atomC fun W5 e5 => ?_
 have hb5 : Below w.heap.size w W5 := by rw [e5]; exact bt
 have q5 := hb5.size
 have R5 : IsRow W5 (w.heap.size) ∧ IsRow W5 (w.heap.size + 1) ∧ IsRow W5 (w.heap.size + 2) := by rw [e5]; simp [go_sem, r1_4, c1_4, r2_4, c2_4, r3_4, c3_4]
 obtain ⟨r1_5, r2_5, r3_5⟩ := R5
 have C5 := (⟨congrArg (blk · (w.heap.size)) e5, congrArg (blk · (w.heap.size + 1)) e5, congrArg (blk · (w.heap.size + 2)) e5⟩ : _ ∧ _ ∧ _); simp [go_sem, r1_4, c1_4, r2_4, c2_4, r3_4, c3_4] at C5
 obtain ⟨c1_5, c2_5, c3_5⟩ := C5
 have z1_5 := isRow_lt r1_5; have z2_5 := isRow_lt r2_5; have z3_5 := isRow_lt r3_5
 clear e5 r1_4 c1_4 z1_4 r2_4 c2_4 z2_4 r3_4 c3_4 z3_4 hb4
 refine (toVector_any _ _).mono ?_; rintro _ W6 ⟨rfl, hw6⟩
 obtain ⟨r1_6, c1_6, z1_6⟩ := keepZ hw6 z1_5 r1_5 c1_5
 obtain ⟨r2_6, c2_6, z2_6⟩ := keepZ hw6 z2_5 r2_5 c2_5
 obtain ⟨r3_6, c3_6, z3_6⟩ := keepZ hw6 z3_5 r3_5 c3_5
 obtain ⟨hb6, q6⟩ := bN hb5 hw6
 clear hw6 r1_5 c1_5 z1_5 r2_5 c2_5 z2_5 r3_5 c3_5 z3_5 hb5
 go_wp2_with fail
 refine atomC fun W7 e7 => ?_
 have hb7 : Below w.heap.size w W7 := by rw [e7]; exact bt
 have q7 := hb7.size
 have R7 : IsRow W7 (w.heap.size) ∧ IsRow W7 (w.heap.size + 1) ∧ IsRow W7 (w.heap.size + 2) := by rw [e7]; simp [go_sem, r1_6, c1_6, r2_6, c2_6, r3_6, c3_6]
 obtain ⟨r1_7, r2_7, r3_7⟩ := R7
 have C7 := (⟨congrArg (blk · (w.heap.size)) e7, congrArg (blk · (w.heap.size + 1)) e7, congrArg (blk · (w.heap.size + 2)) e7⟩ : _ ∧ _ ∧ _); simp [go_sem, r1_6, c1_6, r2_6, c2_6, r3_6, c3_6] at C7
 obtain ⟨c1_7, c2_7, c3_7⟩ := C7
 have z1_7 := isRow_lt r1_7; have z2_7 := isRow_lt r2_7; have z3_7 := isRow_lt r3_7
 clear e7 r1_6 c1_6 z1_6 r2_6 c2_6 z2_6 r3_6 c3_6 z3_6 hb6
 refine (toTable_any _ _).mono ?_; rintro _ W8 ⟨rfl, hw8⟩
 obtain ⟨r1_8, c1_8, z1_8⟩ := keepZ hw8 z1_7 r1_7 c1_7
 obtain ⟨r2_8, c2_8, z2_8⟩ := keepZ hw8 z2_7 r2_7 c2_7
 obtain ⟨r3_8, c3_8, z3_8⟩ := keepZ hw8 z3_7 r3_7 c3_7
 obtain ⟨hb8, q8⟩ := bN hb7 hw8
 clear hw8 r1_7 c1_7 z1_7 r2_7 c2_7 z2_7 r3_7 c3_7 z3_7 hb7
 go_wp2_with fail
 refine atomC fun W9 e9 => ?_
 have hb9 : Below w.heap.size w W9 := by rw [e9]; exact bt
 have q9 := hb9.size
 have R9 : IsRow W9 (w.heap.size + 1) ∧ IsRow W9 (w.heap.size + 2) := by rw [e9]; simp [go_sem, r2_8, c2_8, r3_8, c3_8, r1_8]
 obtain ⟨r2_9, r3_9⟩ := R9
 have C9 := (⟨congrArg (blk · (w.heap.size + 1)) e9, congrArg (blk · (w.heap.size + 2)) e9⟩ : _ ∧ _); simp [go_sem, r2_8, c2_8, r3_8, c3_8, r1_8] at C9
 obtain ⟨c2_9, c3_9⟩ := C9
 have z2_9 := isRow_lt r2_9; have z3_9 := isRow_lt r3_9
 clear e9 r2_8 c2_8 z2_8 r3_8 c3_8 z3_8 hb8
 refine (toLinear_any _ _).mono ?_; rintro _ W10 ⟨rfl, hw10⟩
 obtain ⟨r2_10, c2_10, z2_10⟩ := keepZ hw10 z2_9 r2_9 c2_9
 obtain ⟨r3_10, c3_10, z3_10⟩ := keepZ hw10 z3_9 r3_9 c3_9
 obtain ⟨hb10, q10⟩ := bN hb9 hw10
 clear hw10 r2_9 c2_9 z2_9 r3_9 c3_9 z3_9 hb9
 go_wp2_with fail
 refine bodyPost_ret (result_cell rfl aggHop _ _ (hop p n f) _ rfl ?_ ?_) rfl ⟨rfl, ?_⟩
 · simp [go_sem, r2_10, c2_10, r3_10, c3_10]
 · simp [go_sem, r2_10, c2_10, r3_10, c3_10]
 · exact bt

theorem ret_ii {c d a b : Int} (h : c = d) (h' : a = b) : Ending.returned (.tuple #[.int .i64 c, .int .i64 a]) = .returned (.tuple #[.int .i64 d, .int .i64 b]) := by rw [h, h']
def onlyI (ok : Bool) (x : Int) : Int := match ok with | true => x | false => 0
def onlyF (ok : Bool) (f : Nat → Int) : Nat → Int := match ok with | true => f | false => zf
/-- a Hopf algebra and m vectors for it -/
def okH (p n : Int) (f : Nat → Int) (m : Nat) (g : Nat → Nat → Int) : Bool := hopfB p n f && allV p n m g
theorem hopf_sizes {p n : Int} {f : Nat → Int} (h : hopfB p n f = true) : sizesB p n = true := shapeH_sizes (hopf_shape h)
theorem okH_no {p n : Int} {f : Nat → Int} {m : Nat} {g : Nat → Nat → Int} (hv : (sizesB p n && allV p n m g) = false) : okH p n f m g = false := by
  unfold okH
  cases ha : hopfB p n f
  · rfl
  · rw [hopf_sizes ha, Bool.true_and] at hv; rw [hv]; rfl
theorem okH_yes {p n : Int} {f : Nat → Int} {m : Nat} {g : Nat → Nat → Int} (hv : (sizesB p n && allV p n m g) = true) : okH p n f m g = hopfB p n f := by
  unfold okH
  simp only [Bool.and_eq_true] at hv
  rw [hv.2, Bool.and_true]
theorem okH_hopf {p n : Int} {f : Nat → Int} {m : Nat} {g : Nat → Nat → Int} (h : okH p n f m g = true) : hopfB p n f = true := by
  unfold okH at h
  simp only [Bool.and_eq_true] at h
  exact h.1
theorem okH_vec {p n : Int} {f v : Nat → Int} (h : okH p n f 1 (nth v) = true) (i : Nat) (hi : i < 8) : v i < p ∧ ((i : Int) < n ∨ v i = 0) := by
  unfold okH at h
  simp only [Bool.and_eq_true] at h
  have := all_get h.2 0 (by omega)
  rw [nth_zero] at this
  exact (vecB_iff p n v).1 this i hi
theorem vecs1 {W : World} {b : Nat} {v : Nat → Int} (hc : blk W b = row 8 v) (hv : Bytes 8 v) : VecsAt W b 0 1 (nth v) := fun i hi => by
  obtain rfl : i = 0 := by omega
  rw [hc, row_size]
  exact ⟨by omega, nth_row v 8 0 (by omega), by rw [nth_zero]; exact hv⟩

set_option maxRecDepth 100000 in
set_option maxHeartbeats 1000000 in
theorem isHopfWith_any (p n : Int) (f : Nat → Int) (b off m cap : Nat) (g : Nat → Nat → Int) (w : World) (hF : Bytes 1104 f) (hm : m ≤ 1000000) (hr : IsRow w b) (hg : VecsAt w b off m g) :
    Calls Tryz.prog 53 #[.agg (hop p n f), .slice (some ⟨b, off, none⟩) m cap] w fun e w' => e = .returned (.bool (okH p n f m g)) ∧ Below w.heap.size w w' := by
 have HF := Lib.hid hF; clear hF
 have Hg := Lib.hid hg; clear hg
 have hbw := isRow_lt hr
 cases hv : (sizesB p n && allV p n m g)
 ·
  have H := Lib.hid (okH_no (f := f) hv)
  go_enter Tryz.func53, Tryz.ntmps53
  go_wp2_with fail
  have nwl_w_0 : (b) ≠ w.heap.size := by omega
  refine atomC fun W1 e1 => ?_
  have hb1 : Below w.heap.size w W1 := by rw [e1]; exact bt
  have q1 := hb1.size
  have R1 : IsRow W1 (b) ∧ IsRow W1 (w.heap.size) := by rw [e1]; simp [go_sem, hr, (rfl : blk w b = blk w b), nwl_w_0]
  obtain ⟨rl_1, r2_1⟩ := R1
  have C1 := (⟨congrArg (blk · (b)) e1, congrArg (blk · (w.heap.size)) e1⟩ : _ ∧ _); simp [go_sem, hr, (rfl : blk w b = blk w b), nwl_w_0] at C1
  obtain ⟨cl_1, c2_1⟩ := C1
  have zl_1 := isRow_lt rl_1; have z2_1 := isRow_lt r2_1
  have nl_2 : (b) ≠ (w.heap.size) := by omega
  have n2_l : (w.heap.size) ≠ (b) := by omega
  clear e1 nwl_w_0 hr
  refine (areVectors_any p n b off m cap g _ (by omega) rl_1 (vecs_keep Hg.out cl_1)).mono ?_; rintro _ W2 ⟨rfl, hw2⟩
  obtain ⟨rl_2, cl_2, zl_2⟩ := keepZ hw2 zl_1 rl_1 cl_1
  obtain ⟨r2_2, c2_2, z2_2⟩ := keepZ hw2 z2_1 r2_1 c2_1
  obtain ⟨hb2, q2⟩ := bN hb1 hw2
  clear hw2 rl_1 cl_1 zl_1 r2_1 c2_1 z2_1 hb1
  go_wp2_with fail
  go_ret
  exact ⟨ret_bool (by rw [H.out]), bt⟩
 ·
  have H := Lib.hid (okH_yes (f := f) hv)
  go_enter Tryz.func53, Tryz.ntmps53
  go_wp2_with fail
  have nwl_w_0 : (b) ≠ w.heap.size := by omega
  refine atomC fun W3 e3 => ?_
  have hb3 : Below w.heap.size w W3 := by rw [e3]; exact bt
  have q3 := hb3.size
  have R3 : IsRow W3 (b) ∧ IsRow W3 (w.heap.size) := by rw [e3]; simp [go_sem, hr, (rfl : blk w b = blk w b), nwl_w_0]
  obtain ⟨rl_3, r2_3⟩ := R3
  have C3 := (⟨congrArg (blk · (b)) e3, congrArg (blk · (w.heap.size)) e3⟩ : _ ∧ _); simp [go_sem, hr, (rfl : blk w b = blk w b), nwl_w_0] at C3
  obtain ⟨cl_3, c2_3⟩ := C3
  have zl_3 := isRow_lt rl_3; have z2_3 := isRow_lt r2_3
  have nl_2 : (b) ≠ (w.heap.size) := by omega
  have n2_l : (w.heap.size) ≠ (b) := by omega
  clear e3 nwl_w_0 hr
  refine (areVectors_any p n b off m cap g _ (by omega) rl_3 (vecs_keep Hg.out cl_3)).mono ?_; rintro _ W4 ⟨rfl, hw4⟩
  obtain ⟨rl_4, cl_4, zl_4⟩ := keepZ hw4 zl_3 rl_3 cl_3
  obtain ⟨r2_4, c2_4, z2_4⟩ := keepZ hw4 z2_3 r2_3 c2_3
  obtain ⟨hb4, q4⟩ := bN hb3 hw4
  clear hw4 rl_3 cl_3 zl_3 r2_3 c2_3 z2_3 hb3
  go_wp2_with fail
  refine (isHopf_any _ _ _ _ HF.out).mono ?_; rintro _ W5 ⟨rfl, hw5⟩
  obtain ⟨rl_5, cl_5, zl_5⟩ := keepZ hw5 zl_4 rl_4 cl_4
  obtain ⟨hb5, q5⟩ := bN hb4 hw5
  clear hw5 rl_4 cl_4 zl_4 hb4
  go_wp2_with fail
  go_ret
  exact ⟨ret_bool (by rw [H.out] <;> rfl), bt⟩

set_option maxRecDepth 100000 in
set_option maxHeartbeats 1000000 in
theorem l03Code_no (p n : Int) (f : Nat → Int) (b off m cap : Nat) (g : Nat → Nat → Int) (w : World) (hF : Bytes 1104 f) (hm : m ≤ 1000000) (hr : IsRow w b) (hg : VecsAt w b off m g) (ha : hopfB p n f = false) :
    Calls Tryz.prog 51 #[.agg (hop p n f), .slice (some ⟨b, off, none⟩) m cap] w fun e w' => e = .returned (.int .i64 (codeB (okH p n f m g))) ∧ Below w.heap.size w w' := by
 have HF := Lib.hid hF; clear hF
 have Hg := Lib.hid hg; clear hg
 have hbw := isRow_lt hr
 have H : Hid (okH p n f m g = false) := Lib.hid (by unfold okH; rw [ha]; rfl)
 go_enter Tryz.func51, Tryz.ntmps51
 go_wp2_with fail
 have nwl_w_0 : (b) ≠ w.heap.size := by omega
 refine atomC fun W1 e1 => ?_
 have hb1 : Below w.heap.size w W1 := by rw [e1]; exact bt
 have q1 := hb1.size
 have R1 : IsRow W1 (b) ∧ IsRow W1 (w.heap.size) := by rw [e1]; simp [go_sem, hr, (rfl : blk w b = blk w b), nwl_w_0]
 obtain ⟨rl_1, r2_1⟩ := R1
 have C1 := (⟨congrArg (blk · (b)) e1, congrArg (blk · (w.heap.size)) e1⟩ : _ ∧ _); simp [go_sem, hr, (rfl : blk w b = blk w b), nwl_w_0] at C1
 obtain ⟨cl_1, c2_1⟩ := C1
 have zl_1 := isRow_lt rl_1; have z2_1 := isRow_lt r2_1
 have nl_2 : (b) ≠ (w.heap.size) := by omega
 have n2_l : (w.heap.size) ≠ (b) := by omega
 clear e1 nwl_w_0 hr
 refine (l03Is_any _ _ _ _ HF.out).mono ?_; rintro _ W2 ⟨rfl, hw2⟩
 obtain ⟨rl_2, cl_2, zl_2⟩ := keepZ hw2 zl_1 rl_1 cl_1
 obtain ⟨r2_2, c2_2, z2_2⟩ := keepZ hw2 z2_1 r2_1 c2_1
 obtain ⟨hb2, q2⟩ := bN hb1 hw2
 clear hw2 rl_1 cl_1 zl_1 r2_1 c2_1 z2_1 hb1
 go_wp2_with fail
 go_ret
 exact ⟨ret_int (by rw [H.out]; rfl), bt⟩

set_option maxRecDepth 100000 in
set_option maxHeartbeats 1000000 in
theorem l03Code_yes (p n : Int) (f : Nat → Int) (b off m cap : Nat) (g : Nat → Nat → Int) (w : World) (hF : Bytes 1104 f) (hm : m ≤ 1000000) (hr : IsRow w b) (hg : VecsAt w b off m g) (ha : hopfB p n f = true) :
    Calls Tryz.prog 51 #[.agg (hop p n f), .slice (some ⟨b, off, none⟩) m cap] w fun e w' => e = .returned (.int .i64 (codeB (okH p n f m g))) ∧ Below w.heap.size w w' := by
 have HF := Lib.hid hF; clear hF
 have Hg := Lib.hid hg; clear hg
 have hbw := isRow_lt hr
 have HA : Hid (okH p n f m g = allV p n m g) := Lib.hid (by unfold okH; rw [ha]; rfl)
 go_enter Tryz.func51, Tryz.ntmps51
 go_wp2_with fail
 have nwl_w_0 : (b) ≠ w.heap.size := by omega
 refine atomC fun W1 e1 => ?_
 have hb1 : Below w.heap.size w W1 := by rw [e1]; exact bt
 have q1 := hb1.size
 have R1 : IsRow W1 (b) ∧ IsRow W1 (w.heap.size) := by rw [e1]; simp [go_sem, hr, (rfl : blk w b = blk w b), nwl_w_0]
 obtain ⟨rl_1, r2_1⟩ := R1
 have C1 := (⟨congrArg (blk · (b)) e1, congrArg (blk · (w.heap.size)) e1⟩ : _ ∧ _); simp [go_sem, hr, (rfl : blk w b = blk w b), nwl_w_0] at C1
 obtain ⟨cl_1, c2_1⟩ := C1
 have zl_1 := isRow_lt rl_1; have z2_1 := isRow_lt r2_1
 have nl_2 : (b) ≠ (w.heap.size) := by omega
 have n2_l : (w.heap.size) ≠ (b) := by omega
 clear e1 nwl_w_0 hr
 refine (l03Is_any _ _ _ _ HF.out).mono ?_; rintro _ W2 ⟨rfl, hw2⟩
 obtain ⟨rl_2, cl_2, zl_2⟩ := keepZ hw2 zl_1 rl_1 cl_1
 obtain ⟨r2_2, c2_2, z2_2⟩ := keepZ hw2 z2_1 r2_1 c2_1
 obtain ⟨hb2, q2⟩ := bN hb1 hw2
 clear hw2 rl_1 cl_1 zl_1 r2_1 c2_1 z2_1 hb1
 go_wp2
 go_loopw [5] (fun s5 wr => ∃ k : Nat, k ≤ m ∧ s5 = .int .i64 k ∧ Below w.heap.size w wr ∧ (IsRow wr (b) ∧ blk wr (b) = blk W2 (b)) ∧ (IsRow wr (w.heap.size) ∧ blk wr (w.heap.size) = blk W2 (w.heap.size)) ∧ ∀ i, i < k → vecB p n (g i) = true) (fun s5 _ => m - (intOf s5).toNat)
 case atStart => exact ⟨0, by omega, rfl, hb2, ⟨rl_2, rfl⟩, ⟨r2_2, rfl⟩, fun i hi => by omega⟩
 case round =>
  obtain ⟨k, hle3, rfl, hb3, ⟨rl_3, cl_3⟩, ⟨r2_3, c2_3⟩, hx3⟩ := hrel
  obtain ⟨W3, rfl⟩ : ∃ W3 : World, W3 = wr := ⟨_, rfl⟩
  have q3 := hb3.size
  have HX3 := Lib.hid hx3; clear hx3
  have El_3 := Lib.hid cl_2; replace cl_3 := cl_3.trans cl_2
  have zl_3 := isRow_lt rl_3
  have E2_3 := Lib.hid c2_2; replace c2_3 := c2_3.trans c2_2
  have z2_3 := isRow_lt r2_3
  clear rl_2 cl_2 zl_2 r2_2 c2_2 z2_2 hb2
  by_cases hlt3 : k < m
  ·
   cases hv : vecB p n (g k)
   ·
    have g0 := vecs_keep Hg.out cl_3 k hlt3; have g1 := g0.1; have g2 := g0.2.1; have HG : Hid (Bytes 8 (g k)) := Lib.hid g0.2.2; clear g0
    have g3 : (blk w b).size ≥ off + k * 8 + 8 := (Hg.out k hlt3).1; have g4 := (Hg.out k hlt3).2.1
    have H := Lib.hid (all_no (q := fun i => vecB p n (g i)) k m hlt3 hv)
    go_wp2
    refine wp_quiet_all (Below W3.heap.size W3) (by kernel_rfl) (by kernel_rfl) (Below.refl _ _).drew ?_
    iterate 8 (refine q_plain rfl ?_; apply Exists.intro; refine ⟨fun W hW => ?_, ?_⟩; (focus (obtain ⟨xl, yl⟩ := keepB hW zl_3 rl_3 cl_3; obtain ⟨x2, y2⟩ := keepB hW z2_3 r2_3 c2_3; go_simp; first | done | rfl)); simp only [Act.put, List.setIfInBounds_toArray, List.set_cons_zero, List.set_cons_succ])
    (refine q_plain rfl ?_; apply Exists.intro; refine ⟨fun W hW => ?_, ?_⟩; (focus (obtain ⟨xl, yl⟩ := keepB hW zl_3 rl_3 cl_3; obtain ⟨x2, y2⟩ := keepB hW z2_3 r2_3 c2_3; go_simp; (go_at_call 64; exact (l01Vector_any _ _ _ _ HG.out).mono fun e w2 ⟨he, hw2⟩ => ⟨he, hW.trans (hw2.mono hW.size)⟩))); simp only [Act.put, List.setIfInBounds_toArray, List.set_cons_zero, List.set_cons_succ])
    iterate 1 (refine q_plain rfl ?_; apply Exists.intro; refine ⟨fun W hW => ?_, ?_⟩; (focus (obtain ⟨xl, yl⟩ := keepB hW zl_3 rl_3 cl_3; obtain ⟨x2, y2⟩ := keepB hW z2_3 r2_3 c2_3; go_simp; first | done | rfl)); simp only [Act.put, List.setIfInBounds_toArray, List.set_cons_zero, List.set_cons_succ])
    refine wpQuiet_nil ?_
    intro W4 hw4
    obtain ⟨rl_4, cl_4, zl_4⟩ := keepZ hw4 zl_3 rl_3 cl_3
    obtain ⟨r2_4, c2_4, z2_4⟩ := keepZ hw4 z2_3 r2_3 c2_3
    obtain ⟨hb4, q4⟩ := bN hb3 hw4
    clear hw4 rl_3 cl_3 zl_3 r2_3 c2_3 z2_3 hb3
    go_wp2_with fail
    go_ret
    exact ⟨ret_int (by rw [HA.out]; unfold allV; rw [H.out]; rfl), bt⟩
   ·
    have g0 := vecs_keep Hg.out cl_3 k hlt3; have g1 := g0.1; have g2 := g0.2.1; have HG : Hid (Bytes 8 (g k)) := Lib.hid g0.2.2; clear g0
    have g3 : (blk w b).size ≥ off + k * 8 + 8 := (Hg.out k hlt3).1; have g4 := (Hg.out k hlt3).2.1
    have H := Lib.hid (upto_more (q := fun i => vecB p n (g i)) HX3.out hv)
    go_wp2
    refine wp_quiet_all (Below W3.heap.size W3) (by kernel_rfl) (by kernel_rfl) (Below.refl _ _).drew ?_
    iterate 8 (refine q_plain rfl ?_; apply Exists.intro; refine ⟨fun W hW => ?_, ?_⟩; (focus (obtain ⟨xl, yl⟩ := keepB hW zl_3 rl_3 cl_3; obtain ⟨x2, y2⟩ := keepB hW z2_3 r2_3 c2_3; go_simp; first | done | rfl)); simp only [Act.put, List.setIfInBounds_toArray, List.set_cons_zero, List.set_cons_succ])
    (refine q_plain rfl ?_; apply Exists.intro; refine ⟨fun W hW => ?_, ?_⟩; (focus (obtain ⟨xl, yl⟩ := keepB hW zl_3 rl_3 cl_3; obtain ⟨x2, y2⟩ := keepB hW z2_3 r2_3 c2_3; go_simp; (go_at_call 64; exact (l01Vector_any _ _ _ _ HG.out).mono fun e w2 ⟨he, hw2⟩ => ⟨he, hW.trans (hw2.mono hW.size)⟩))); simp only [Act.put, List.setIfInBounds_toArray, List.set_cons_zero, List.set_cons_succ])
    iterate 1 (refine q_plain rfl ?_; apply Exists.intro; refine ⟨fun W hW => ?_, ?_⟩; (focus (obtain ⟨xl, yl⟩ := keepB hW zl_3 rl_3 cl_3; obtain ⟨x2, y2⟩ := keepB hW z2_3 r2_3 c2_3; go_simp; first | done | rfl)); simp only [Act.put, List.setIfInBounds_toArray, List.set_cons_zero, List.set_cons_succ])
    refine wpQuiet_nil ?_
    intro W5 hw5
    obtain ⟨rl_5, cl_5, zl_5⟩ := keepZ hw5 zl_3 rl_3 cl_3
    obtain ⟨r2_5, c2_5, z2_5⟩ := keepZ hw5 z2_3 r2_3 c2_3
    obtain ⟨hb5, q5⟩ := bN hb3 hw5
    clear hw5 rl_3 cl_3 zl_3 r2_3 c2_3 z2_3 hb3
    go_wp2
    go_roundw
    case rel => exact ⟨k + 1, by omega, by go_num, bt, ⟨by simp [go_sem, rl_5, cl_5, nl_2, r2_5, c2_5, n2_l], (by rw [El_3.out]; first | exact cl_5 | (simp [go_sem, rl_5, cl_5, nl_2, r2_5, c2_5, n2_l]; done))⟩, ⟨by simp [go_sem, rl_5, cl_5, nl_2, r2_5, c2_5, n2_l], (by rw [E2_3.out]; first | exact c2_5 | (simp [go_sem, rl_5, cl_5, nl_2, r2_5, c2_5, n2_l]; done))⟩, H.out⟩
    case measure => simp [intOf]; try omega
  ·
   obtain rfl : m = k := by omega
   have H := Lib.hid (all_yes (q := fun i => vecB p n (g i)) m fun i hi => HX3.out i (by omega))
   go_wp2_with fail
   go_ret
   exact ⟨ret_int (by rw [HA.out]; unfold allV; rw [H.out]; rfl), bt⟩

theorem l03Code_any (p n : Int) (f : Nat → Int) (b off m cap : Nat) (g : Nat → Nat → Int) (w : World) (hF : Bytes 1104 f) (hm : m ≤ 1000000) (hr : IsRow w b) (hg : VecsAt w b off m g) :
    Calls Tryz.prog 51 #[.agg (hop p n f), .slice (some ⟨b, off, none⟩) m cap] w fun e w' => e = .returned (.int .i64 (codeB (okH p n f m g))) ∧ Below w.heap.size w w' := by
  cases ha : hopfB p n f
  · exact l03Code_no p n f b off m cap g w hF hm hr hg ha
  · exact l03Code_yes p n f b off m cap g w hF hm hr hg ha

end Go.Proofs.YtjmmmggnbndolaaGreat
