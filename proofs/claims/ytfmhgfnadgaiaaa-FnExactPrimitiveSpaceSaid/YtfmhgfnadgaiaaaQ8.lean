/- l02Code; the laws' copies of coalgebras; the laws on coalgebras that ask one Boolean or one number. -/
import Derived.Test.YtfmhgfnadgaiaaaQA
import Derived.Test.YtfmhgfnadgaiaaaEqs
namespace Go.Proofs.Ytfmhgfnadgaiaaa
open Go.RowKit
set_option linter.unusedSimpArgs false
set_option linter.unusedVariables false
attribute [local irreducible] wpQuiet wpQE

set_option maxRecDepth 100000 in
theorem open_coa {w : World} {r : Reach} {base : Nat} {v : Value} (h : Value.okWide Try.prog w r base 35 v) :
    ∃ (p n : Int) (f : Nat → Int), v = .agg (alg p n f) ∧ (Lit.int .i64 p).wf = true ∧ (Lit.int .i64 n).wf = true ∧ Bytes 520 f := by
  have ht : Try.prog.cellTypes Try.prog.depth 35 = some ([2, 2] ++ List.replicate 520 5) := by kernel_rfl
  have hc : Try.prog.cellsOf 35 = 522 := by kernel_rfl
  unfold Value.okWide at h
  rw [Try.underlying35] at h
  obtain ⟨cs, rfl, hs, ts, hts, _, hall⟩ := h
  rw [ht] at hts
  simp only [Option.some.injEq] at hts
  rw [hc] at hs
  have hlen : ts.length = 522 := by rw [← hts]; rfl
  have get : ∀ i, i < 522 → ∃ v u, cs[i]? = some v ∧ ts[i]? = some u ∧ Cell.okWide Try.prog w r base u v := by
    intro i hi
    obtain ⟨v, hv⟩ : ∃ v, cs[i]? = some v := ⟨cs[i], by simp [hs, hi]⟩
    obtain ⟨u, h1, h2⟩ := hall i v hv
    rw [hlen, Nat.mod_eq_of_lt hi] at h1
    exact ⟨v, u, hv, h1, h2⟩
  obtain ⟨v0, u0, h0, t0, k0⟩ := get 0 (by omega)
  obtain ⟨v1, u1, h1, t1, k1⟩ := get 1 (by omega)
  rw [← hts] at t0 t1
  obtain rfl : u0 = 2 := by simpa using t0.symm
  obtain rfl : u1 = 2 := by simpa using t1.symm
  obtain ⟨p, rfl, wp⟩ := cell_i64 Try.underlying2 k0
  obtain ⟨n, rfl, wn⟩ := cell_i64 Try.underlying2 k1
  have key : ∀ i, i < 520 → ∃ k : Int, cs[2 + i]? = some (.int .u8 k) ∧ 0 ≤ k ∧ k ≤ 255 := by
    intro i hi
    obtain ⟨v, u, h2, t2, k2⟩ := get (2 + i) (by omega)
    have e : u = 5 := by
      rw [← hts, List.getElem?_append] at t2
      simp only [List.length_cons, List.length_nil] at t2
      rw [if_neg (by omega), List.getElem?_replicate] at t2
      split at t2
      · simpa using t2.symm
      · cases t2
    subst e
    obtain ⟨k, rfl, h3, h4⟩ := cell_u8 Try.underlying5 k2
    exact ⟨k, h2, h3, h4⟩
  refine ⟨p, n, fun i => cellInt cs (2 + i), ?_, wp, wn, ?_⟩
  · refine congrArg Value.agg ?_
    refine alg_ext h0 h1 (fun i hi => ?_) (fun i hi => by simp [hs]; omega)
    obtain ⟨k, h2, _⟩ := key i hi
    simp only [h2, cellInt]
  · clear hall ht hc hts hlen get k0 k1 t0 t1 h0 h1
    intro i hi
    have hk := key i hi
    show 0 ≤ cellInt cs (2 + i) ∧ cellInt cs (2 + i) ≤ 255
    unfold cellInt
    obtain ⟨k, h2, h3, h4⟩ := hk
    rw [h2]
    exact ⟨h3, h4⟩

set_option maxRecDepth 100000 in
theorem toCoalgebra_any (p n : Int) (f : Nat → Int) (w : World) :
    Calls Try.prog 19 #[.agg (alg p n f)] w fun e w' => e = .returned (.agg (alg p n f)) ∧ Below w.heap.size w w' := by
  go_enter Try.func19, Try.ntmps19
  have HT : Hid (∀ g : Nat → Int, lay (alg p n g) 10 (row 512 (tab f)) = alg p n fun i => if 8 ≤ i then f i else g i) := Lib.hid fun g => by
    rw [show (10 : Nat) = 2 + 8 from rfl, lay_alg p n g (tab f) 8 512 (by omega)]
    refine alg_congr fun i hi => ?_
    by_cases h : 8 ≤ i
    · rw [if_pos ⟨h, by omega⟩, if_pos h]; unfold tab; congr 1; omega
    · rw [if_neg (by omega), if_neg h]
  have HU : Hid (lay (alg p n zf) 2 (row 8 f) = alg p n (upto 8 f)) := Lib.hid (by
    rw [show (2 : Nat) = 2 + 0 from rfl, lay_alg p n zf f 0 8 (by omega)]
    refine alg_congr fun i hi => ?_
    unfold upto zf
    by_cases h : i < 8
    · rw [if_pos ⟨by omega, by omega⟩, if_pos h, Nat.sub_zero]
    · rw [if_neg (by omega), if_neg h])
  have HV : Hid ((alg p n fun i => if 8 ≤ i then f i else upto 8 f i) = alg p n f) := Lib.hid (alg_congr fun i hi => by
    unfold upto
    by_cases h : 8 ≤ i
    · rw [if_pos h]
    · rw [if_neg h, if_pos (by omega)])
  go_wp2_with fail
  refine (toVector_any _ _).mono ?_; rintro e w1 ⟨rfl, hw1⟩
  obtain ⟨x0, y0⟩ := keepB (b := w.heap.size) (c := alg p n f) hw1 (by simp; omega) (by simp [go_sem]) (by simp [go_sem])
  obtain ⟨x1, y1⟩ := keepB (b := w.heap.size + 1) (c := alg 0 0 zf) hw1 (by simp) (by simp [go_sem]) (by simp [go_sem])
  obtain ⟨x2, y2⟩ := keepB (b := w.heap.size + 2) (c := alg p n zf) hw1 (by simp) (by simp [go_sem]) (by simp [go_sem])
  have z2 := isRow_lt x2
  have hb1 := ((((Below.refl w.heap.size w).alloc (Nat.le_refl _) (.cells (alg p n f) 35)).alloc (by simp) (.cells (alg 0 0 zf) 43)).alloc (by simp; omega) (.cells (alg p n zf) 43)).trans (hw1.mono (by simp; omega))
  clear hw1
  go_wp2_with fail
  refine (toTable_any _ _).mono ?_; rintro e w2 ⟨rfl, hw2⟩
  rw [HU.out] at hw2
  obtain ⟨s0, d0⟩ := keepB (b := w.heap.size) (c := alg p n f) hw2 (by simp; omega) (by simp [go_sem, x0, x2]) (by simp [go_sem, y0, x2])
  obtain ⟨s1, d1⟩ := keepB (b := w.heap.size + 1) (c := alg 0 0 zf) hw2 (by simp; omega) (by simp [go_sem, x1, x2]) (by simp [go_sem, y1, x2])
  obtain ⟨s2, d2⟩ := keepB (b := w.heap.size + 2) (c := alg p n (upto 8 f)) hw2 (by simp; omega) (by simp [go_sem, x2]) (by simp [go_sem, x2])
  have HW : lay (alg p n (upto 8 f)) 10 (row 512 (tab f)) = alg p n f := (HT.out (upto 8 f)).trans HV.out
  have z3 := hw2.size
  simp at z3
  have hb2 : Below w.heap.size w w2 := (below_setRow hb1 (Nat.le_add_right _ _) _).trans (hw2.mono (by simp; omega))
  clear hw2
  have z4 := isRow_lt s2
  go_wp2_with fail
  refine bodyPost_ret (result_cell rfl aggCoa _ _ (alg p n f) _ rfl ?_ ?_) rfl ⟨rfl, ?_⟩
  · simp [go_sem, s1, d1, s2, d2]
  · simp [go_sem, s1, d1, s2, d2, HW]
  · exact below_setRow (below_setRow hb2 (by omega) _) (by omega) _

theorem all_upto {q : Nat → Bool} {m : Nat} (h : ∀ i, i < m → q i = true) : (List.range m).all q = true := all_yes m h

set_option maxRecDepth 100000 in
set_option maxHeartbeats 1000000 in
theorem l02Code_no (p n : Int) (f : Nat → Int) (b off m cap : Nat) (g : Nat → Nat → Int) (w : World) (hF : Bytes 520 f) (hm : m ≤ 1000000) (hr : IsRow w b) (hg : VecsAt w b off m g) (ha : coB p n f = false) :
    Calls Try.prog 41 #[.agg (alg p n f), .slice (some ⟨b, off, none⟩) m cap] w fun e w' => e = .returned (.int .i64 (codeB (okC p n f m g))) ∧ Below w.heap.size w w' := by
 have HF := Lib.hid hF; clear hF
 have Hg := Lib.hid hg; clear hg
 have hbw := isRow_lt hr
 have H : Hid (okC p n f m g = false) := Lib.hid (by unfold okC; rw [ha]; rfl)
 go_enter Try.func41, Try.ntmps41
 go_wp2_with fail
 have nwl_w_0 : (b) ≠ w.heap.size := by omega
 refine atomC fun W1 e1 => ?_
 have hb1 : Below w.heap.size w W1 := by rw [e1]; exact bt
 have q1 := hb1.size
 have R1 : IsRow W1 (b) ∧ IsRow W1 (w.heap.size) := by rw [e1]; simp [go_sem, hr, (rfl : blk w b = blk w b), nwl_w_0]
 obtain ⟨rl_1, r2_1⟩ := R1
 have C1 := (⟨congrArg (blk · (b)) e1, congrArg (blk · (w.heap.size)) e1⟩ : _ ∧ _); simp [go_sem, hr, (rfl : blk w b = blk w b), nwl_w_0] at C1
 obtain ⟨cl_1, c2_1⟩ := C1
 have zl_1 := isRow_lt rl_1; have z2_1 := isRow_lt r2_1
 have nl_2 : (b) ≠ (w.heap.size) := by omega
 have n2_l : (w.heap.size) ≠ (b) := by omega
 clear e1 nwl_w_0 hr
 refine (l02Is_any _ _ _ _ HF.out).mono ?_; rintro _ W2 ⟨rfl, hw2⟩
 obtain ⟨rl_2, cl_2, zl_2⟩ := keepZ hw2 zl_1 rl_1 cl_1
 obtain ⟨r2_2, c2_2, z2_2⟩ := keepZ hw2 z2_1 r2_1 c2_1
 obtain ⟨hb2, q2⟩ := bN hb1 hw2
 clear hw2 rl_1 cl_1 zl_1 r2_1 c2_1 z2_1 hb1
 go_wp2_with fail
 go_ret
 exact ⟨ret_int (by rw [H.out]; rfl), bt⟩

set_option maxRecDepth 100000 in
set_option maxHeartbeats 1000000 in
theorem l02Code_yes (p n : Int) (f : Nat → Int) (b off m cap : Nat) (g : Nat → Nat → Int) (w : World) (hF : Bytes 520 f) (hm : m ≤ 1000000) (hr : IsRow w b) (hg : VecsAt w b off m g) (ha : coB p n f = true) :
    Calls Try.prog 41 #[.agg (alg p n f), .slice (some ⟨b, off, none⟩) m cap] w fun e w' => e = .returned (.int .i64 (codeB (okC p n f m g))) ∧ Below w.heap.size w w' := by
 have HF := Lib.hid hF; clear hF
 have Hg := Lib.hid hg; clear hg
 have hbw := isRow_lt hr
 have HA : Hid (okC p n f m g = allV p n m g) := Lib.hid (by unfold okC; rw [ha]; rfl)
 go_enter Try.func41, Try.ntmps41
 go_wp2_with fail
 have nwl_w_0 : (b) ≠ w.heap.size := by omega
 refine atomC fun W1 e1 => ?_
 have hb1 : Below w.heap.size w W1 := by rw [e1]; exact bt
 have q1 := hb1.size
 have R1 : IsRow W1 (b) ∧ IsRow W1 (w.heap.size) := by rw [e1]; simp [go_sem, hr, (rfl : blk w b = blk w b), nwl_w_0]
 obtain ⟨rl_1, r2_1⟩ := R1
 have C1 := (⟨congrArg (blk · (b)) e1, congrArg (blk · (w.heap.size)) e1⟩ : _ ∧ _); simp [go_sem, hr, (rfl : blk w b = blk w b), nwl_w_0] at C1
 obtain ⟨cl_1, c2_1⟩ := C1
 have zl_1 := isRow_lt rl_1; have z2_1 := isRow_lt r2_1
 have nl_2 : (b) ≠ (w.heap.size) := by omega
 have n2_l : (w.heap.size) ≠ (b) := by omega
 clear e1 nwl_w_0 hr
 refine (l02Is_any _ _ _ _ HF.out).mono ?_; rintro _ W2 ⟨rfl, hw2⟩
 obtain ⟨rl_2, cl_2, zl_2⟩ := keepZ hw2 zl_1 rl_1 cl_1
 obtain ⟨r2_2, c2_2, z2_2⟩ := keepZ hw2 z2_1 r2_1 c2_1
 obtain ⟨hb2, q2⟩ := bN hb1 hw2
 clear hw2 rl_1 cl_1 zl_1 r2_1 c2_1 z2_1 hb1
 go_wp2
 go_loopw [5] (fun s5 wr => ∃ k : Nat, k ≤ m ∧ s5 = .int .i64 k ∧ Below w.heap.size w wr ∧ (IsRow wr (b) ∧ blk wr (b) = blk W2 (b)) ∧ (IsRow wr (w.heap.size) ∧ blk wr (w.heap.size) = blk W2 (w.heap.size)) ∧ ∀ i, i < k → vecB p n (g i) = true) (fun s5 _ => m - (intOf s5).toNat)
 case atStart => exact ⟨0, by omega, rfl, hb2, ⟨rl_2, rfl⟩, ⟨r2_2, rfl⟩, fun i hi => by omega⟩
 case round =>
  obtain ⟨k, hle3, rfl, hb3, ⟨rl_3, cl_3⟩, ⟨r2_3, c2_3⟩, hx3⟩ := hrel
  obtain ⟨W3, rfl⟩ : ∃ W3 : World, W3 = wr := ⟨_, rfl⟩
  have q3 := hb3.size
  have HX3 := Lib.hid hx3; clear hx3
  have El_3 := Lib.hid cl_2; replace cl_3 := cl_3.trans cl_2
  have zl_3 := isRow_lt rl_3
  have E2_3 := Lib.hid c2_2; replace c2_3 := c2_3.trans c2_2
  have z2_3 := isRow_lt r2_3
  clear rl_2 cl_2 zl_2 r2_2 c2_2 z2_2 hb2
  by_cases hlt3 : k < m
  ·
   cases hv : vecB p n (g k)
   ·
    have g0 := vecs_keep Hg.out cl_3 k hlt3; have g1 := g0.1; have g2 := g0.2.1; have HG : Hid (Bytes 8 (g k)) := Lib.hid g0.2.2; clear g0
    have g3 : (blk w b).size ≥ off + k * 8 + 8 := (Hg.out k hlt3).1; have g4 := (Hg.out k hlt3).2.1
    have H := Lib.hid (all_no (q := fun i => vecB p n (g i)) k m hlt3 hv)
    go_wp2
    refine wp_quiet_all (Below W3.heap.size W3) (by kernel_rfl) (by kernel_rfl) (Below.refl _ _).drew ?_
    iterate 8 (refine q_plain rfl ?_; apply Exists.intro; refine ⟨fun W hW => ?_, ?_⟩; (focus (obtain ⟨xl, yl⟩ := keepB hW zl_3 rl_3 cl_3; obtain ⟨x2, y2⟩ := keepB hW z2_3 r2_3 c2_3; go_simp; first | done | rfl)); simp only [Act.put, List.setIfInBounds_toArray, List.set_cons_zero, List.set_cons_succ])
    (refine q_plain rfl ?_; apply Exists.intro; refine ⟨fun W hW => ?_, ?_⟩; (focus (obtain ⟨xl, yl⟩ := keepB hW zl_3 rl_3 cl_3; obtain ⟨x2, y2⟩ := keepB hW z2_3 r2_3 c2_3; go_simp; (go_at_call 61; exact (l01Vector_any _ _ _ _ HG.out).mono fun e w2 ⟨he, hw2⟩ => ⟨he, hW.trans (hw2.mono hW.size)⟩))); simp only [Act.put, List.setIfInBounds_toArray, List.set_cons_zero, List.set_cons_succ])
    iterate 1 (refine q_plain rfl ?_; apply Exists.intro; refine ⟨fun W hW => ?_, ?_⟩; (focus (obtain ⟨xl, yl⟩ := keepB hW zl_3 rl_3 cl_3; obtain ⟨x2, y2⟩ := keepB hW z2_3 r2_3 c2_3; go_simp; first | done | rfl)); simp only [Act.put, List.setIfInBounds_toArray, List.set_cons_zero, List.set_cons_succ])
    refine wpQuiet_nil ?_
    intro W4 hw4
    obtain ⟨rl_4, cl_4, zl_4⟩ := keepZ hw4 zl_3 rl_3 cl_3
    obtain ⟨r2_4, c2_4, z2_4⟩ := keepZ hw4 z2_3 r2_3 c2_3
    obtain ⟨hb4, q4⟩ := bN hb3 hw4
    clear hw4 rl_3 cl_3 zl_3 r2_3 c2_3 z2_3 hb3
    go_wp2_with fail
    go_ret
    exact ⟨ret_int (by rw [HA.out]; unfold allV; rw [H.out]; rfl), bt⟩
   ·
    have g0 := vecs_keep Hg.out cl_3 k hlt3; have g1 := g0.1; have g2 := g0.2.1; have HG : Hid (Bytes 8 (g k)) := Lib.hid g0.2.2; clear g0
    have g3 : (blk w b).size ≥ off + k * 8 + 8 := (Hg.out k hlt3).1; have g4 := (Hg.out k hlt3).2.1
    have H := Lib.hid (upto_more (q := fun i => vecB p n (g i)) HX3.out hv)
    go_wp2
    refine wp_quiet_all (Below W3.heap.size W3) (by kernel_rfl) (by kernel_rfl) (Below.refl _ _).drew ?_
    iterate 8 (refine q_plain rfl ?_; apply Exists.intro; refine ⟨fun W hW => ?_, ?_⟩; (focus (obtain ⟨xl, yl⟩ := keepB hW zl_3 rl_3 cl_3; obtain ⟨x2, y2⟩ := keepB hW z2_3 r2_3 c2_3; go_simp; first | done | rfl)); simp only [Act.put, List.setIfInBounds_toArray, List.set_cons_zero, List.set_cons_succ])
    (refine q_plain rfl ?_; apply Exists.intro; refine ⟨fun W hW => ?_, ?_⟩; (focus (obtain ⟨xl, yl⟩ := keepB hW zl_3 rl_3 cl_3; obtain ⟨x2, y2⟩ := keepB hW z2_3 r2_3 c2_3; go_simp; (go_at_call 61; exact (l01Vector_any _ _ _ _ HG.out).mono fun e w2 ⟨he, hw2⟩ => ⟨he, hW.trans (hw2.mono hW.size)⟩))); simp only [Act.put, List.setIfInBounds_toArray, List.set_cons_zero, List.set_cons_succ])
    iterate 1 (refine q_plain rfl ?_; apply Exists.intro; refine ⟨fun W hW => ?_, ?_⟩; (focus (obtain ⟨xl, yl⟩ := keepB hW zl_3 rl_3 cl_3; obtain ⟨x2, y2⟩ := keepB hW z2_3 r2_3 c2_3; go_simp; first | done | rfl)); simp only [Act.put, List.setIfInBounds_toArray, List.set_cons_zero, List.set_cons_succ])
    refine wpQuiet_nil ?_
    intro W5 hw5
    obtain ⟨rl_5, cl_5, zl_5⟩ := keepZ hw5 zl_3 rl_3 cl_3
    obtain ⟨r2_5, c2_5, z2_5⟩ := keepZ hw5 z2_3 r2_3 c2_3
    obtain ⟨hb5, q5⟩ := bN hb3 hw5
    clear hw5 rl_3 cl_3 zl_3 r2_3 c2_3 z2_3 hb3
    go_wp2
    go_roundw
    case rel => exact ⟨k + 1, by omega, by go_num, bt, ⟨by simp [go_sem, rl_5, cl_5, nl_2, r2_5, c2_5, n2_l], (by rw [El_3.out]; first | exact cl_5 | (simp [go_sem, rl_5, cl_5, nl_2, r2_5, c2_5, n2_l]; done))⟩, ⟨by simp [go_sem, rl_5, cl_5, nl_2, r2_5, c2_5, n2_l], (by rw [E2_3.out]; first | exact c2_5 | (simp [go_sem, rl_5, cl_5, nl_2, r2_5, c2_5, n2_l]; done))⟩, H.out⟩
    case measure => simp [intOf]; try omega
  ·
   obtain rfl : m = k := by omega
   have H := Lib.hid (all_yes (q := fun i => vecB p n (g i)) m fun i hi => HX3.out i (by omega))
   go_wp2_with fail
   go_ret
   exact ⟨ret_int (by rw [HA.out]; unfold allV; rw [H.out]; rfl), bt⟩

theorem l02Code_any (p n : Int) (f : Nat → Int) (b off m cap : Nat) (g : Nat → Nat → Int) (w : World) (hF : Bytes 520 f) (hm : m ≤ 1000000) (hr : IsRow w b) (hg : VecsAt w b off m g) :
    Calls Try.prog 41 #[.agg (alg p n f), .slice (some ⟨b, off, none⟩) m cap] w fun e w' => e = .returned (.int .i64 (codeB (okC p n f m g))) ∧ Below w.heap.size w w' := by
  cases ha : coB p n f
  · exact l02Code_no p n f b off m cap g w hF hm hr hg ha
  · exact l02Code_yes p n f b off m cap g w hF hm hr hg ha

end Go.Proofs.Ytfmhgfnadgaiaaa
