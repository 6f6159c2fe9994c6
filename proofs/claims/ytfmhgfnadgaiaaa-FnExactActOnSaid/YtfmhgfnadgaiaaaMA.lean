/- Laws IsModule and ActOn. -/
import Derived.Test.YtfmhgfnadgaiaaaMW
namespace Go.Proofs.Ytfmhgfnadgaiaaa
open Go.RowKit
set_option linter.unusedSimpArgs false
set_option linter.unusedVariables false
attribute [local irreducible] wpQuiet wpQE

set_option maxRecDepth 100000 in
set_option maxHeartbeats 1000000 in
theorem implIsModule_any (p n : Int) (f : Nat → Int) (d : Int) (F : Nat → Int) (w : World) (hf : Bytes 1104 f) (hF : Bytes 512 F) :
    Calls Try.prog 27 #[.agg (hop p n f), .agg (mdl d F)] w fun e w' => e = .returned (.bool (hm1 p n f d F)) ∧ Below w.heap.size w w' := by
 have Hf := Lib.hid hf; clear hf
 have HF := Lib.hid hF; clear hF
 go_enter Try.func27, Try.ntmps27
 go_wp2_with fail
 refine atomC fun W1 e1 => ?_
 have hb1 : Below w.heap.size w W1 := by rw [e1]; exact bt
 have q1 := hb1.size
 have r7_1 : IsRow W1 (w.heap.size + 2) := by rw [e1]; simp [go_sem]
 have c7_1 := congrArg (fun x => blk x (w.heap.size + 2)) e1; simp [go_sem] at c7_1
 have z7_1 := isRow_lt r7_1
 clear e1
 refine (areMod1 p n f d F _ _ Hf.out HF.out r7_1 c7_1).mono ?_; rintro _ W2 ⟨rfl, hw2⟩
 obtain ⟨r7_2, c7_2, z7_2⟩ := keepZ hw2 z7_1 r7_1 c7_1
 obtain ⟨hb2, q2⟩ := bN hb1 hw2
 clear hw2 r7_1 c7_1 z7_1 hb1
 go_wp2_with fail
 go_ret
 exact ⟨rfl, bt⟩

set_option maxRecDepth 100000 in
set_option maxHeartbeats 1000000 in
theorem specIsModule_any (p n : Int) (f : Nat → Int) (d : Int) (F : Nat → Int) (w : World) (hf : Bytes 1104 f) (hF : Bytes 512 F) :
    Calls Try.prog 24 #[.agg (hop p n f), .agg (mdl d F)] w fun e w' => e = .returned (.bool (hm1 p n f d F)) ∧ Below w.heap.size w w' := by
 have Hf := Lib.hid hf; clear hf
 have HF := Lib.hid hF; clear hF
 cases hh : hopfB p n f
 ·
  have H : Hid ((hm1 p n f d F) = false) := Lib.hid (by unfold hm1; rw [hh]; rfl)
  go_enter Try.func24, Try.ntmps24
  go_wp2_with fail
  refine atomC fun W1 e1 => ?_
  have hb1 : Below w.heap.size w W1 := by rw [e1]; exact bt
  have q1 := hb1.size
  have R1 : IsRow W1 (w.heap.size) ∧ IsRow W1 (w.heap.size + 1) := by rw [e1]; simp [go_sem]
  obtain ⟨r2_1, r3_1⟩ := R1
  have C1 := (⟨congrArg (blk · (w.heap.size)) e1, congrArg (blk · (w.heap.size + 1)) e1⟩ : _ ∧ _); simp [go_sem] at C1
  obtain ⟨c2_1, c3_1⟩ := C1
  have z2_1 := isRow_lt r2_1; have z3_1 := isRow_lt r3_1
  clear e1
  refine (l03Is_any _ _ _ _ Hf.out).mono ?_; rintro _ W2 ⟨rfl, hw2⟩
  obtain ⟨r2_2, c2_2, z2_2⟩ := keepZ hw2 z2_1 r2_1 c2_1
  obtain ⟨r3_2, c3_2, z3_2⟩ := keepZ hw2 z3_1 r3_1 c3_1
  obtain ⟨hb2, q2⟩ := bN hb1 hw2
  clear hw2 r2_1 c2_1 z2_1 r3_1 c3_1 z3_1 hb1
  go_wp2_with fail
  go_ret
  exact ⟨ret_bool (by rw [H.out]), bt⟩
 ·
  obtain ⟨hp2, hp31, hn1, hn8⟩ := sizes_range (hopf_sizes hh)
  obtain ⟨n, rfl⟩ := Int.eq_ofNat_of_zero_le (show 0 ≤ n by omega)
  have hp : 0 < p := by omega
  have hp' : p ≤ 255 := by omega
  have hn : n ≤ 8 := by omega
  have HH := Lib.hid hh
  have H : Hid ((hm1 p n f d F) = modB p n f d F) := Lib.hid (by unfold hm1; rw [hh, Int.toNat_natCast]; rfl)
  go_enter Try.func24, Try.ntmps24
  go_wp2_with fail
  refine atomC fun W3 e3 => ?_
  have hb3 : Below w.heap.size w W3 := by rw [e3]; exact bt
  have q3 := hb3.size
  have R3 : IsRow W3 (w.heap.size) ∧ IsRow W3 (w.heap.size + 1) := by rw [e3]; simp [go_sem]
  obtain ⟨r2_3, r3_3⟩ := R3
  have C3 := (⟨congrArg (blk · (w.heap.size)) e3, congrArg (blk · (w.heap.size + 1)) e3⟩ : _ ∧ _); simp [go_sem] at C3
  obtain ⟨c2_3, c3_3⟩ := C3
  have z2_3 := isRow_lt r2_3; have z3_3 := isRow_lt r3_3
  clear e3
  refine (l03Is_any _ _ _ _ Hf.out).mono ?_; rintro _ W4 ⟨rfl, hw4⟩
  obtain ⟨r2_4, c2_4, z2_4⟩ := keepZ hw4 z2_3 r2_3 c2_3
  obtain ⟨r3_4, c3_4, z3_4⟩ := keepZ hw4 z3_3 r3_3 c3_3
  obtain ⟨hb4, q4⟩ := bN hb3 hw4
  clear hw4 r2_3 c2_3 z2_3 r3_3 c3_3 z3_3 hb3
  go_wp2_with fail
  refine (l06Holds_any p n f d F _ hp hp' hn Hf.out HF.out).mono ?_; rintro _ W5 ⟨rfl, hw5⟩
  obtain ⟨hb5, q5⟩ := bN hb4 hw5
  clear hw5 hb4
  go_wp2_with fail
  go_ret
  exact ⟨ret_bool (by rw [H.out]), bt⟩

set_option maxRecDepth 100000 in
set_option maxHeartbeats 2000000 in
theorem lawIsModule (fp fn : Int) (f : Nat → Int) (md : Int) (m : Nat → Int) (w : World) (_wfp : (Lit.int .i64 fp).wf = true) (_wfn : (Lit.int .i64 fn).wf = true) (hf : Bytes 1104 f) (_wmd : (Lit.int .i64 md).wf = true) (hm : Bytes 512 m) :
    Calls Try.prog 6 #[.agg (hop fp fn f), .agg (mdl md m)] w fun e w' => e = .returned (.bool true) ∧ Below w.heap.size w w' := by
 have Hf := Lib.hid hf; clear hf
 have Hm := Lib.hid hm; clear hm
 go_enter Try.func6, Try.ntmps6
 go_wp2
 refine atomW fun W1 e1 => ?_
 have hb1 : Below w.heap.size w W1 := by rw [e1]; exact bt
 have q1 := hb1.size
 have R1 : IsRow W1 (w.heap.size) ∧ IsRow W1 (w.heap.size + 1) := by rw [e1]; simp [go_sem]
 obtain ⟨r2_1, r3_1⟩ := R1
 have C1 := (⟨congrArg (blk · (w.heap.size)) e1, congrArg (blk · (w.heap.size + 1)) e1⟩ : _ ∧ _); simp [go_sem] at C1
 obtain ⟨c2_1, c3_1⟩ := C1
 have z2_1 := isRow_lt r2_1; have z3_1 := isRow_lt r3_1
 clear e1
 refine wp_quiet_all (Below W1.heap.size W1) (by kernel_rfl) (by kernel_rfl) (Below.refl _ _).drew ?_
 iterate 1 (refine q_plain rfl ?_; apply Exists.intro; refine ⟨fun W hW => ?_, ?_⟩; (focus (obtain ⟨x2, y2⟩ := keepB hW z2_1 r2_1 c2_1; obtain ⟨x3, y3⟩ := keepB hW z3_1 r3_1 c3_1; go_simp; first | done | rfl)); simp only [Act.put, List.setIfInBounds_toArray, List.set_cons_zero, List.set_cons_succ])
 (refine q_plain rfl ?_; apply Exists.intro; refine ⟨fun W hW => ?_, ?_⟩; (focus (obtain ⟨x2, y2⟩ := keepB hW z2_1 r2_1 c2_1; obtain ⟨x3, y3⟩ := keepB hW z3_1 r3_1 c3_1; go_simp; (go_at_call 25; exact (toHopf_any _ _ _ _).mono fun e w2 ⟨he, hw2⟩ => ⟨he, hW.trans (hw2.mono hW.size)⟩))); simp only [Act.put, List.setIfInBounds_toArray, List.set_cons_zero, List.set_cons_succ])
 iterate 1 (refine q_plain rfl ?_; apply Exists.intro; refine ⟨fun W hW => ?_, ?_⟩; (focus (obtain ⟨x2, y2⟩ := keepB hW z2_1 r2_1 c2_1; obtain ⟨x3, y3⟩ := keepB hW z3_1 r3_1 c3_1; go_simp; first | done | rfl)); simp only [Act.put, List.setIfInBounds_toArray, List.set_cons_zero, List.set_cons_succ])
 (refine q_plain rfl ?_; apply Exists.intro; refine ⟨fun W hW => ?_, ?_⟩; (focus (obtain ⟨x2, y2⟩ := keepB hW z2_1 r2_1 c2_1; obtain ⟨x3, y3⟩ := keepB hW z3_1 r3_1 c3_1; go_simp; (go_at_call 26; exact (toModule_any _ _ _).mono fun e w2 ⟨he, hw2⟩ => ⟨he, hW.trans (hw2.mono hW.size)⟩))); simp only [Act.put, List.setIfInBounds_toArray, List.set_cons_zero, List.set_cons_succ])
 (refine q_plain rfl ?_; apply Exists.intro; refine ⟨fun W hW => ?_, ?_⟩; (focus (obtain ⟨x2, y2⟩ := keepB hW z2_1 r2_1 c2_1; obtain ⟨x3, y3⟩ := keepB hW z3_1 r3_1 c3_1; go_simp; (go_at_call 24; exact (specIsModule_any _ _ _ _ _ _ Hf.out Hm.out).mono fun e w2 ⟨he, hw2⟩ => ⟨he, hW.trans (hw2.mono hW.size)⟩))); simp only [Act.put, List.setIfInBounds_toArray, List.set_cons_zero, List.set_cons_succ])
 iterate 1 (refine q_plain rfl ?_; apply Exists.intro; refine ⟨fun W hW => ?_, ?_⟩; (focus (obtain ⟨x2, y2⟩ := keepB hW z2_1 r2_1 c2_1; obtain ⟨x3, y3⟩ := keepB hW z3_1 r3_1 c3_1; go_simp; first | done | rfl)); simp only [Act.put, List.setIfInBounds_toArray, List.set_cons_zero, List.set_cons_succ])
 refine wpQuiet_nil ?_
 intro W2 hw2
 obtain ⟨r2_2, c2_2, z2_2⟩ := keepZ hw2 z2_1 r2_1 c2_1
 obtain ⟨r3_2, c3_2, z3_2⟩ := keepZ hw2 z3_1 r3_1 c3_1
 obtain ⟨hb2, q2⟩ := bN hb1 hw2
 clear hw2 r2_1 c2_1 z2_1 r3_1 c3_1 z3_1 hb1
 go_wp2
 refine wp_quiet_all (Below W2.heap.size W2) (by kernel_rfl) (by kernel_rfl) (Below.refl _ _).drew ?_
 iterate 1 (refine q_plain rfl ?_; apply Exists.intro; refine ⟨fun W hW => ?_, ?_⟩; (focus (obtain ⟨x2, y2⟩ := keepB hW z2_2 r2_2 c2_2; obtain ⟨x3, y3⟩ := keepB hW z3_2 r3_2 c3_2; go_simp; first | done | rfl)); simp only [Act.put, List.setIfInBounds_toArray, List.set_cons_zero, List.set_cons_succ])
 (refine q_plain rfl ?_; apply Exists.intro; refine ⟨fun W hW => ?_, ?_⟩; (focus (obtain ⟨x2, y2⟩ := keepB hW z2_2 r2_2 c2_2; obtain ⟨x3, y3⟩ := keepB hW z3_2 r3_2 c3_2; go_simp; (go_at_call 25; exact (toHopf_any _ _ _ _).mono fun e w2 ⟨he, hw2⟩ => ⟨he, hW.trans (hw2.mono hW.size)⟩))); simp only [Act.put, List.setIfInBounds_toArray, List.set_cons_zero, List.set_cons_succ])
 iterate 1 (refine q_plain rfl ?_; apply Exists.intro; refine ⟨fun W hW => ?_, ?_⟩; (focus (obtain ⟨x2, y2⟩ := keepB hW z2_2 r2_2 c2_2; obtain ⟨x3, y3⟩ := keepB hW z3_2 r3_2 c3_2; go_simp; first | done | rfl)); simp only [Act.put, List.setIfInBounds_toArray, List.set_cons_zero, List.set_cons_succ])
 (refine q_plain rfl ?_; apply Exists.intro; refine ⟨fun W hW => ?_, ?_⟩; (focus (obtain ⟨x2, y2⟩ := keepB hW z2_2 r2_2 c2_2; obtain ⟨x3, y3⟩ := keepB hW z3_2 r3_2 c3_2; go_simp; (go_at_call 26; exact (toModule_any _ _ _).mono fun e w2 ⟨he, hw2⟩ => ⟨he, hW.trans (hw2.mono hW.size)⟩))); simp only [Act.put, List.setIfInBounds_toArray, List.set_cons_zero, List.set_cons_succ])
 (refine q_plain rfl ?_; apply Exists.intro; refine ⟨fun W hW => ?_, ?_⟩; (focus (obtain ⟨x2, y2⟩ := keepB hW z2_2 r2_2 c2_2; obtain ⟨x3, y3⟩ := keepB hW z3_2 r3_2 c3_2; go_simp; (go_at_call 27; exact (implIsModule_any _ _ _ _ _ _ Hf.out Hm.out).mono fun e w2 ⟨he, hw2⟩ => ⟨he, hW.trans (hw2.mono hW.size)⟩))); simp only [Act.put, List.setIfInBounds_toArray, List.set_cons_zero, List.set_cons_succ])
 iterate 1 (refine q_plain rfl ?_; apply Exists.intro; refine ⟨fun W hW => ?_, ?_⟩; (focus (obtain ⟨x2, y2⟩ := keepB hW z2_2 r2_2 c2_2; obtain ⟨x3, y3⟩ := keepB hW z3_2 r3_2 c3_2; go_simp; first | done | rfl)); simp only [Act.put, List.setIfInBounds_toArray, List.set_cons_zero, List.set_cons_succ])
 refine wpQuiet_nil ?_
 intro W3 hw3
 obtain ⟨r2_3, c2_3, z2_3⟩ := keepZ hw3 z2_2 r2_2 c2_2
 obtain ⟨r3_3, c3_3, z3_3⟩ := keepZ hw3 z3_2 r3_2 c3_2
 obtain ⟨hb3, q3⟩ := bN hb2 hw3
 clear hw3 r2_2 c2_2 z2_2 r3_2 c3_2 z3_2 hb2
 go_wp2_with fail
 go_ret
 exact ⟨rfl, bt⟩

theorem act_apply {p : Int} {n d : Nat} {F a v : Nat → Int} (hS : ModS p n d F) (hn : n ≤ 8) (hd : d ≤ 8) : row 8 (appF p 8 (fun j k => actT p d F a (j * 8 + k)) v) = row 8 (timesF p d (act F) a v n) := row_congr fun t ht => by
  unfold appF timesF
  rw [sumTo_more (n := d) (fun j h1 h2 => by show v j * actT p d F a (j * 8 + t) = 0; rw [actT_low h1 ht, Int.mul_zero]) hd]
  have e1 : ∀ j, j < d → (v j * actT p d F a (j * 8 + t)) % p = (sumTo (fun i => a i * (v j * act F i j t)) n) % p := fun j hj => by
    unfold actT
    rw [show (j * 8 + t) / 8 = j by omega, show (j * 8 + t) % 8 = t by omega, if_pos hj, sumTo_more (n := n) (fun i h1 h2 => by rw [hS.far i j t h1 h2 (by omega) ht, Int.mul_zero]) hn, emod_mul_congr (b := v j) rfl (Int.emod_emod _ _), ← sumTo_mul]
    exact congrArg (· % p) (sumTo_congr n fun i _ => by rw [← Int.mul_assoc, ← Int.mul_assoc, Int.mul_comm (v j) (a i)])
  have e2 : ∀ i, i < n → (a i * appF p d (act F i) v t) % p = (sumTo (fun j => a i * (v j * act F i j t)) d) % p := fun i _ => by
    unfold appF
    rw [emod_mul_congr (b := a i) rfl (Int.emod_emod _ _), ← sumTo_mul]
  rw [sum_mod p _ _ d e1, sumTo_swap]
  exact (sum_mod p _ _ n e2).symm
theorem modB_sizes2 {p n : Int} {f : Nat → Int} {d : Int} {F : Nat → Int} (hc : hm1 p n f d F = true) : sizesB p d = true := by
  have hh := (hm1_parts hc).1
  have hm := (hm1_parts hc).2
  have hs := hopf_sizes hh
  obtain ⟨_, _, hn1, _⟩ := sizes_range hs
  obtain ⟨n, rfl⟩ := Int.eq_ofNat_of_zero_le (show 0 ≤ n by omega)
  rw [Int.toNat_natCast] at hm
  exact modB_sizes hs hm
theorem one_vecs (p d : Int) (v : Nat → Int) : allV p d 1 (nth v) = vecB p d v := by
  show (vecB p d (nth v 0) && true) = _
  rw [Bool.and_true, nth_zero]

set_option maxRecDepth 100000 in
set_option maxHeartbeats 1000000 in
theorem specActOn_any (p n : Int) (f : Nat → Int) (d : Int) (F a v : Nat → Int) (w : World) (hf : Bytes 1104 f) (hF : Bytes 512 F) (ha : Bytes 8 a) (hv : Bytes 8 v) :
    Calls Try.prog 28 #[.agg (hop p n f), .agg (mdl d F), .agg (row 8 a), .agg (row 8 v)] w fun e w' => e = .returned (.tuple #[.agg (row 8 (onlyF (hm1 p n f d F && (vecB p n a && vecB p d v)) (timesF p d.toNat (act F) a v n.toNat))), .int .i64 (codeB (hm1 p n f d F && (vecB p n a && vecB p d v)))]) ∧ Below w.heap.size w w' := by
 have Hf := Lib.hid hf; clear hf
 have HF := Lib.hid hF; clear hF
 have Ha := Lib.hid ha; clear ha
 have Hv := Lib.hid hv; clear hv
 cases hc : hm1 p n f d F
 ·
  have hc1 : codeB false = 1 := rfl
  go_enter Try.func28, Try.ntmps28
  go_wp2_with fail
  refine atomC fun W1 e1 => ?_
  have hb1 : Below w.heap.size w W1 := by rw [e1]; exact bt
  have q1 := hb1.size
  have R1 : IsRow W1 (w.heap.size) ∧ IsRow W1 (w.heap.size + 1) ∧ IsRow W1 (w.heap.size + 2) ∧ IsRow W1 (w.heap.size + 3) ∧ IsRow W1 (w.heap.size + 4) ∧ IsRow W1 (w.heap.size + 5) := by rw [e1]; simp [go_sem]
  obtain ⟨r4_1, r5_1, r6_1, r7_1, r8_1, r13_1⟩ := R1
  have C1 := (⟨congrArg (blk · (w.heap.size)) e1, congrArg (blk · (w.heap.size + 1)) e1, congrArg (blk · (w.heap.size + 2)) e1, congrArg (blk · (w.heap.size + 3)) e1, congrArg (blk · (w.heap.size + 4)) e1, congrArg (blk · (w.heap.size + 5)) e1⟩ : _ ∧ _ ∧ _ ∧ _ ∧ _ ∧ _); simp [go_sem] at C1
  obtain ⟨c4_1, c5_1, c6_1, c7_1, c8_1, c13_1⟩ := C1
  have z4_1 := isRow_lt r4_1; have z5_1 := isRow_lt r5_1; have z6_1 := isRow_lt r6_1; have z7_1 := isRow_lt r7_1; have z8_1 := isRow_lt r8_1; have z13_1 := isRow_lt r13_1
  clear e1
  refine (code1 p n f d F _ _ Hf.out HF.out r13_1 c13_1).mono ?_; rintro _ W2 ⟨rfl, hw2⟩
  obtain ⟨r4_2, c4_2, z4_2⟩ := keepZ hw2 z4_1 r4_1 c4_1
  obtain ⟨r5_2, c5_2, z5_2⟩ := keepZ hw2 z5_1 r5_1 c5_1
  obtain ⟨r6_2, c6_2, z6_2⟩ := keepZ hw2 z6_1 r6_1 c6_1
  obtain ⟨r7_2, c7_2, z7_2⟩ := keepZ hw2 z7_1 r7_1 c7_1
  obtain ⟨r8_2, c8_2, z8_2⟩ := keepZ hw2 z8_1 r8_1 c8_1
  obtain ⟨r13_2, c13_2, z13_2⟩ := keepZ hw2 z13_1 r13_1 c13_1
  obtain ⟨hb2, q2⟩ := bN hb1 hw2
  clear hw2 r4_1 c4_1 z4_1 r5_1 c5_1 z5_1 r6_1 c6_1 z6_1 r7_1 c7_1 z7_1 r8_1 c8_1 z8_1 r13_1 c13_1 z13_1 hb1
  go_wp2_with fail
  refine bodyPost_ret (result_cell_tmp rfl aggVec _ _ (row 8 zf) _ _ rfl rfl ?_ ?_) rfl ⟨by rfl, ?_⟩
  · simp [go_sem, r4_2, c4_2, r5_2, c5_2, r6_2, c6_2, r7_2, c7_2, r8_2, c8_2, r13_2, c13_2]
  · simp [go_sem, r4_2, c4_2, r5_2, c5_2, r6_2, c6_2, r7_2, c7_2, r8_2, c8_2, r13_2, c13_2]
  · exact bt
 ·
  cases hva : vecB p n a
  ·
   have hc1 : codeB true = 0 := rfl
   go_enter Try.func28, Try.ntmps28
   go_wp2_with fail
   refine atomC fun W3 e3 => ?_
   have hb3 : Below w.heap.size w W3 := by rw [e3]; exact bt
   have q3 := hb3.size
   have R3 : IsRow W3 (w.heap.size) ∧ IsRow W3 (w.heap.size + 1) ∧ IsRow W3 (w.heap.size + 2) ∧ IsRow W3 (w.heap.size + 3) ∧ IsRow W3 (w.heap.size + 4) ∧ IsRow W3 (w.heap.size + 5) := by rw [e3]; simp [go_sem]
   obtain ⟨r4_3, r5_3, r6_3, r7_3, r8_3, r13_3⟩ := R3
   have C3 := (⟨congrArg (blk · (w.heap.size)) e3, congrArg (blk · (w.heap.size + 1)) e3, congrArg (blk · (w.heap.size + 2)) e3, congrArg (blk · (w.heap.size + 3)) e3, congrArg (blk · (w.heap.size + 4)) e3, congrArg (blk · (w.heap.size + 5)) e3⟩ : _ ∧ _ ∧ _ ∧ _ ∧ _ ∧ _); simp [go_sem] at C3
   obtain ⟨c4_3, c5_3, c6_3, c7_3, c8_3, c13_3⟩ := C3
   have z4_3 := isRow_lt r4_3; have z5_3 := isRow_lt r5_3; have z6_3 := isRow_lt r6_3; have z7_3 := isRow_lt r7_3; have z8_3 := isRow_lt r8_3; have z13_3 := isRow_lt r13_3
   clear e3
   refine (code1 p n f d F _ _ Hf.out HF.out r13_3 c13_3).mono ?_; rintro _ W4 ⟨rfl, hw4⟩
   obtain ⟨r4_4, c4_4, z4_4⟩ := keepZ hw4 z4_3 r4_3 c4_3
   obtain ⟨r5_4, c5_4, z5_4⟩ := keepZ hw4 z5_3 r5_3 c5_3
   obtain ⟨r6_4, c6_4, z6_4⟩ := keepZ hw4 z6_3 r6_3 c6_3
   obtain ⟨r7_4, c7_4, z7_4⟩ := keepZ hw4 z7_3 r7_3 c7_3
   obtain ⟨r8_4, c8_4, z8_4⟩ := keepZ hw4 z8_3 r8_3 c8_3
   obtain ⟨r13_4, c13_4, z13_4⟩ := keepZ hw4 z13_3 r13_3 c13_3
   obtain ⟨hb4, q4⟩ := bN hb3 hw4
   clear hw4 r4_3 c4_3 z4_3 r5_3 c5_3 z5_3 r6_3 c6_3 z6_3 r7_3 c7_3 z7_3 r8_3 c8_3 z8_3 r13_3 c13_3 z13_3 hb3
   go_wp2_with fail
   refine (l01Vector_any p n a _ Ha.out).mono ?_; rintro _ W5 ⟨rfl, hw5⟩
   obtain ⟨r4_5, c4_5, z4_5⟩ := keepZ hw5 z4_4 r4_4 c4_4
   obtain ⟨r5_5, c5_5, z5_5⟩ := keepZ hw5 z5_4 r5_4 c5_4
   obtain ⟨r6_5, c6_5, z6_5⟩ := keepZ hw5 z6_4 r6_4 c6_4
   obtain ⟨r7_5, c7_5, z7_5⟩ := keepZ hw5 z7_4 r7_4 c7_4
   obtain ⟨r8_5, c8_5, z8_5⟩ := keepZ hw5 z8_4 r8_4 c8_4
   obtain ⟨hb5, q5⟩ := bN hb4 hw5
   clear hw5 r4_4 c4_4 z4_4 r5_4 c5_4 z5_4 r6_4 c6_4 z6_4 r7_4 c7_4 z7_4 r8_4 c8_4 z8_4 hb4
   go_wp2_with fail
   refine bodyPost_ret (result_cell_tmp rfl aggVec _ _ (row 8 zf) _ _ rfl rfl ?_ ?_) rfl ⟨by rfl, ?_⟩
   · simp [go_sem, r4_5, c4_5, r5_5, c5_5, r6_5, c6_5, r7_5, c7_5, r8_5, c8_5]
   · simp [go_sem, r4_5, c4_5, r5_5, c5_5, r6_5, c6_5, r7_5, c7_5, r8_5, c8_5]
   · exact bt
  ·
   cases hvv : vecB p d v
   ·
    have hc1 : codeB true = 0 := rfl
    go_enter Try.func28, Try.ntmps28
    go_wp2_with fail
    refine atomC fun W6 e6 => ?_
    have hb6 : Below w.heap.size w W6 := by rw [e6]; exact bt
    have q6 := hb6.size
    have R6 : IsRow W6 (w.heap.size) ∧ IsRow W6 (w.heap.size + 1) ∧ IsRow W6 (w.heap.size + 2) ∧ IsRow W6 (w.heap.size + 3) ∧ IsRow W6 (w.heap.size + 4) ∧ IsRow W6 (w.heap.size + 5) := by rw [e6]; simp [go_sem]
    obtain ⟨r4_6, r5_6, r6_6, r7_6, r8_6, r13_6⟩ := R6
    have C6 := (⟨congrArg (blk · (w.heap.size)) e6, congrArg (blk · (w.heap.size + 1)) e6, congrArg (blk · (w.heap.size + 2)) e6, congrArg (blk · (w.heap.size + 3)) e6, congrArg (blk · (w.heap.size + 4)) e6, congrArg (blk · (w.heap.size + 5)) e6⟩ : _ ∧ _ ∧ _ ∧ _ ∧ _ ∧ _); simp [go_sem] at C6
    obtain ⟨c4_6, c5_6, c6_6, c7_6, c8_6, c13_6⟩ := C6
    have z4_6 := isRow_lt r4_6; have z5_6 := isRow_lt r5_6; have z6_6 := isRow_lt r6_6; have z7_6 := isRow_lt r7_6; have z8_6 := isRow_lt r8_6; have z13_6 := isRow_lt r13_6
    clear e6
    refine (code1 p n f d F _ _ Hf.out HF.out r13_6 c13_6).mono ?_; rintro _ W7 ⟨rfl, hw7⟩
    obtain ⟨r4_7, c4_7, z4_7⟩ := keepZ hw7 z4_6 r4_6 c4_6
    obtain ⟨r5_7, c5_7, z5_7⟩ := keepZ hw7 z5_6 r5_6 c5_6
    obtain ⟨r6_7, c6_7, z6_7⟩ := keepZ hw7 z6_6 r6_6 c6_6
    obtain ⟨r7_7, c7_7, z7_7⟩ := keepZ hw7 z7_6 r7_6 c7_6
    obtain ⟨r8_7, c8_7, z8_7⟩ := keepZ hw7 z8_6 r8_6 c8_6
    obtain ⟨r13_7, c13_7, z13_7⟩ := keepZ hw7 z13_6 r13_6 c13_6
    obtain ⟨hb7, q7⟩ := bN hb6 hw7
    clear hw7 r4_6 c4_6 z4_6 r5_6 c5_6 z5_6 r6_6 c6_6 z6_6 r7_6 c7_6 z7_6 r8_6 c8_6 z8_6 r13_6 c13_6 z13_6 hb6
    go_wp2_with fail
    refine (l01Vector_any p n a _ Ha.out).mono ?_; rintro _ W8 ⟨rfl, hw8⟩
    obtain ⟨r4_8, c4_8, z4_8⟩ := keepZ hw8 z4_7 r4_7 c4_7
    obtain ⟨r5_8, c5_8, z5_8⟩ := keepZ hw8 z5_7 r5_7 c5_7
    obtain ⟨r6_8, c6_8, z6_8⟩ := keepZ hw8 z6_7 r6_7 c6_7
    obtain ⟨r7_8, c7_8, z7_8⟩ := keepZ hw8 z7_7 r7_7 c7_7
    obtain ⟨r8_8, c8_8, z8_8⟩ := keepZ hw8 z8_7 r8_7 c8_7
    obtain ⟨hb8, q8⟩ := bN hb7 hw8
    clear hw8 r4_7 c4_7 z4_7 r5_7 c5_7 z5_7 r6_7 c6_7 z6_7 r7_7 c7_7 z7_7 r8_7 c8_7 z8_7 hb7
    go_wp2_with fail
    refine (l01Vector_any p d v _ Hv.out).mono ?_; rintro _ W9 ⟨rfl, hw9⟩
    obtain ⟨r4_9, c4_9, z4_9⟩ := keepZ hw9 z4_8 r4_8 c4_8
    obtain ⟨r5_9, c5_9, z5_9⟩ := keepZ hw9 z5_8 r5_8 c5_8
    obtain ⟨r6_9, c6_9, z6_9⟩ := keepZ hw9 z6_8 r6_8 c6_8
    obtain ⟨r7_9, c7_9, z7_9⟩ := keepZ hw9 z7_8 r7_8 c7_8
    obtain ⟨r8_9, c8_9, z8_9⟩ := keepZ hw9 z8_8 r8_8 c8_8
    obtain ⟨hb9, q9⟩ := bN hb8 hw9
    clear hw9 r4_8 c4_8 z4_8 r5_8 c5_8 z5_8 r6_8 c6_8 z6_8 r7_8 c7_8 z7_8 r8_8 c8_8 z8_8 hb8
    go_wp2_with fail
    refine bodyPost_ret (result_cell_tmp rfl aggVec _ _ (row 8 zf) _ _ rfl rfl ?_ ?_) rfl ⟨by rfl, ?_⟩
    · simp [go_sem, r4_9, c4_9, r5_9, c5_9, r6_9, c6_9, r7_9, c7_9, r8_9, c8_9]
    · simp [go_sem, r4_9, c4_9, r5_9, c5_9, r6_9, c6_9, r7_9, c7_9, r8_9, c8_9]
    · exact bt
   ·
    have hh := (hm1_parts hc).1
    have hmm := (hm1_parts hc).2
    obtain ⟨hp2, hp31, hn1, hn8⟩ := sizes_range (hopf_sizes hh)
    obtain ⟨n, rfl⟩ := Int.eq_ofNat_of_zero_le (show 0 ≤ n by omega)
    have hp : 0 < p := by omega
    have hp' : p ≤ 255 := by omega
    have hn : n ≤ 8 := by omega
    have HH := Lib.hid hh
    rw [Int.toNat_natCast] at hmm
    obtain ⟨_, _, hd1, hd8⟩ := sizes_range (modB_sizes (hopf_sizes hh) hmm)
    obtain ⟨d, rfl⟩ := Int.eq_ofNat_of_zero_le (show 0 ≤ d by omega)
    have hd : d ≤ 8 := by omega
    have HS := Lib.hid (modB_shape HF.out hmm)
    clear hmm hh
    have hc1 : codeB true = 0 := rfl
    go_enter Try.func28, Try.ntmps28
    go_wp2_with fail
    refine atomC fun W10 e10 => ?_
    have hb10 : Below w.heap.size w W10 := by rw [e10]; exact bt
    have q10 := hb10.size
    have R10 : IsRow W10 (w.heap.size) ∧ IsRow W10 (w.heap.size + 1) ∧ IsRow W10 (w.heap.size + 2) ∧ IsRow W10 (w.heap.size + 3) ∧ IsRow W10 (w.heap.size + 4) ∧ IsRow W10 (w.heap.size + 5) := by rw [e10]; simp [go_sem]
    obtain ⟨r4_10, r5_10, r6_10, r7_10, r8_10, r13_10⟩ := R10
    have C10 := (⟨congrArg (blk · (w.heap.size)) e10, congrArg (blk · (w.heap.size + 1)) e10, congrArg (blk · (w.heap.size + 2)) e10, congrArg (blk · (w.heap.size + 3)) e10, congrArg (blk · (w.heap.size + 4)) e10, congrArg (blk · (w.heap.size + 5)) e10⟩ : _ ∧ _ ∧ _ ∧ _ ∧ _ ∧ _); simp [go_sem] at C10
    obtain ⟨c4_10, c5_10, c6_10, c7_10, c8_10, c13_10⟩ := C10
    have z4_10 := isRow_lt r4_10; have z5_10 := isRow_lt r5_10; have z6_10 := isRow_lt r6_10; have z7_10 := isRow_lt r7_10; have z8_10 := isRow_lt r8_10; have z13_10 := isRow_lt r13_10
    clear e10
    refine (code1 p n f d F _ _ Hf.out HF.out r13_10 c13_10).mono ?_; rintro _ W11 ⟨rfl, hw11⟩
    obtain ⟨r4_11, c4_11, z4_11⟩ := keepZ hw11 z4_10 r4_10 c4_10
    obtain ⟨r5_11, c5_11, z5_11⟩ := keepZ hw11 z5_10 r5_10 c5_10
    obtain ⟨r6_11, c6_11, z6_11⟩ := keepZ hw11 z6_10 r6_10 c6_10
    obtain ⟨r7_11, c7_11, z7_11⟩ := keepZ hw11 z7_10 r7_10 c7_10
    obtain ⟨r8_11, c8_11, z8_11⟩ := keepZ hw11 z8_10 r8_10 c8_10
    obtain ⟨r13_11, c13_11, z13_11⟩ := keepZ hw11 z13_10 r13_10 c13_10
    obtain ⟨hb11, q11⟩ := bN hb10 hw11
    clear hw11 r4_10 c4_10 z4_10 r5_10 c5_10 z5_10 r6_10 c6_10 z6_10 r7_10 c7_10 z7_10 r8_10 c8_10 z8_10 r13_10 c13_10 z13_10 hb10
    go_wp2_with fail
    refine (l01Vector_any p n a _ Ha.out).mono ?_; rintro _ W12 ⟨rfl, hw12⟩
    obtain ⟨r4_12, c4_12, z4_12⟩ := keepZ hw12 z4_11 r4_11 c4_11
    obtain ⟨r5_12, c5_12, z5_12⟩ := keepZ hw12 z5_11 r5_11 c5_11
    obtain ⟨r6_12, c6_12, z6_12⟩ := keepZ hw12 z6_11 r6_11 c6_11
    obtain ⟨r7_12, c7_12, z7_12⟩ := keepZ hw12 z7_11 r7_11 c7_11
    obtain ⟨r8_12, c8_12, z8_12⟩ := keepZ hw12 z8_11 r8_11 c8_11
    obtain ⟨hb12, q12⟩ := bN hb11 hw12
    clear hw12 r4_11 c4_11 z4_11 r5_11 c5_11 z5_11 r6_11 c6_11 z6_11 r7_11 c7_11 z7_11 r8_11 c8_11 z8_11 hb11
    go_wp2_with fail
    refine (l01Vector_any p d v _ Hv.out).mono ?_; rintro _ W13 ⟨rfl, hw13⟩
    obtain ⟨r4_13, c4_13, z4_13⟩ := keepZ hw13 z4_12 r4_12 c4_12
    obtain ⟨r5_13, c5_13, z5_13⟩ := keepZ hw13 z5_12 r5_12 c5_12
    obtain ⟨r6_13, c6_13, z6_13⟩ := keepZ hw13 z6_12 r6_12 c6_12
    obtain ⟨r7_13, c7_13, z7_13⟩ := keepZ hw13 z7_12 r7_12 c7_12
    obtain ⟨r8_13, c8_13, z8_13⟩ := keepZ hw13 z8_12 r8_12 c8_12
    obtain ⟨hb13, q13⟩ := bN hb12 hw13
    clear hw13 r4_12 c4_12 z4_12 r5_12 c5_12 z5_12 r6_12 c6_12 z6_12 r7_12 c7_12 z7_12 r8_12 c8_12 z8_12 hb12
    go_wp2_with fail
    refine (l06Act_any p n d f F a v _ hp hp' hd HF.out hn Ha.out Hv.out).mono ?_; rintro _ W14 ⟨rfl, hw14⟩
    obtain ⟨r8_14, c8_14, z8_14⟩ := keepZ hw14 z8_13 r8_13 c8_13
    obtain ⟨hb14, q14⟩ := bN hb13 hw14
    clear hw14 r8_13 c8_13 z8_13 hb13
    go_wp2_with fail
    refine bodyPost_ret (result_cell_tmp rfl aggVec _ _ (row 8 (timesF p d (act F) a v n)) _ _ rfl rfl ?_ ?_) rfl ⟨by rfl, ?_⟩
    · simp [go_sem, r8_14, c8_14]
    · simp [go_sem, r8_14, c8_14]
    · exact bt

set_option maxRecDepth 100000 in
set_option maxHeartbeats 1000000 in
theorem implActOn_any (p n : Int) (f : Nat → Int) (d : Int) (F a v : Nat → Int) (w : World) (hf : Bytes 1104 f) (hF : Bytes 512 F) (ha : Bytes 8 a) (hv : Bytes 8 v) :
    Calls Try.prog 29 #[.agg (hop p n f), .agg (mdl d F), .agg (row 8 a), .agg (row 8 v)] w fun e w' => e = .returned (.tuple #[.agg (row 8 (onlyF (hm1 p n f d F && (vecB p n a && vecB p d v)) (timesF p d.toNat (act F) a v n.toNat))), .int .i64 (codeB (hm1 p n f d F && (vecB p n a && vecB p d v)))]) ∧ Below w.heap.size w w' := by
 have Hf := Lib.hid hf; clear hf
 have HF := Lib.hid hF; clear hF
 have Ha := Lib.hid ha; clear ha
 have Hv := Lib.hid hv; clear hv
 cases hva : (sizesB p n && vecB p n a)
 ·
  have H : Hid ((hm1 p n f d F && (vecB p n a && vecB p d v)) = false) := Lib.hid (by cases hc : hm1 p n f d F; rfl; rw [hopf_sizes (hm1_parts hc).1, Bool.true_and] at hva; rw [hva]; rfl)
  go_enter Try.func29, Try.ntmps29
  go_wp2_with fail
  refine atomC fun W1 e1 => ?_
  have hb1 : Below w.heap.size w W1 := by rw [e1]; exact bt
  have q1 := hb1.size
  have R1 : IsRow W1 (w.heap.size) ∧ IsRow W1 (w.heap.size + 1) ∧ IsRow W1 (w.heap.size + 2) ∧ IsRow W1 (w.heap.size + 3) ∧ IsRow W1 (w.heap.size + 4) := by rw [e1]; simp [go_sem]
  obtain ⟨r4_1, r5_1, r6_1, r7_1, r8_1⟩ := R1
  have C1 := (⟨congrArg (blk · (w.heap.size)) e1, congrArg (blk · (w.heap.size + 1)) e1, congrArg (blk · (w.heap.size + 2)) e1, congrArg (blk · (w.heap.size + 3)) e1, congrArg (blk · (w.heap.size + 4)) e1⟩ : _ ∧ _ ∧ _ ∧ _ ∧ _); simp [go_sem] at C1
  obtain ⟨c4_1, c5_1, c6_1, c7_1, c8_1⟩ := C1
  have z4_1 := isRow_lt r4_1; have z5_1 := isRow_lt r5_1; have z6_1 := isRow_lt r6_1; have z7_1 := isRow_lt r7_1; have z8_1 := isRow_lt r8_1
  clear e1
  refine (isVector_any p n a _ Ha.out).mono ?_; rintro _ W2 ⟨rfl, hw2⟩
  obtain ⟨r4_2, c4_2, z4_2⟩ := keepZ hw2 z4_1 r4_1 c4_1
  obtain ⟨r5_2, c5_2, z5_2⟩ := keepZ hw2 z5_1 r5_1 c5_1
  obtain ⟨r6_2, c6_2, z6_2⟩ := keepZ hw2 z6_1 r6_1 c6_1
  obtain ⟨r7_2, c7_2, z7_2⟩ := keepZ hw2 z7_1 r7_1 c7_1
  obtain ⟨r8_2, c8_2, z8_2⟩ := keepZ hw2 z8_1 r8_1 c8_1
  obtain ⟨hb2, q2⟩ := bN hb1 hw2
  clear hw2 r4_1 c4_1 z4_1 r5_1 c5_1 z5_1 r6_1 c6_1 z6_1 r7_1 c7_1 z7_1 r8_1 c8_1 z8_1 hb1
  go_wp2_with fail
  refine bodyPost_ret (result_cell_tmp rfl aggVec _ _ (row 8 zf) _ _ rfl rfl ?_ ?_) rfl ⟨by rw [H.out] <;> rfl, ?_⟩
  · simp [go_sem, r4_2, c4_2, r5_2, c5_2, r6_2, c6_2, r7_2, c7_2, r8_2, c8_2]
  · simp [go_sem, r4_2, c4_2, r5_2, c5_2, r6_2, c6_2, r7_2, c7_2, r8_2, c8_2]
  · exact bt
 ·
  cases hm : ((sizesB p d && allV p d 1 (nth v)) && hm1 p n f d F)
  ·
   have H : Hid ((hm1 p n f d F && (vecB p n a && vecB p d v)) = false) := Lib.hid (by cases hc : hm1 p n f d F; rfl; rw [hc, Bool.and_true, one_vecs, modB_sizes2 hc, Bool.true_and] at hm; rw [hm, Bool.and_false]; rfl)
   go_enter Try.func29, Try.ntmps29
   go_wp2_with fail
   refine atomC fun W3 e3 => ?_
   have hb3 : Below w.heap.size w W3 := by rw [e3]; exact bt
   have q3 := hb3.size
   have R3 : IsRow W3 (w.heap.size) ∧ IsRow W3 (w.heap.size + 1) ∧ IsRow W3 (w.heap.size + 2) ∧ IsRow W3 (w.heap.size + 3) ∧ IsRow W3 (w.heap.size + 4) := by rw [e3]; simp [go_sem]
   obtain ⟨r4_3, r5_3, r6_3, r7_3, r8_3⟩ := R3
   have C3 := (⟨congrArg (blk · (w.heap.size)) e3, congrArg (blk · (w.heap.size + 1)) e3, congrArg (blk · (w.heap.size + 2)) e3, congrArg (blk · (w.heap.size + 3)) e3, congrArg (blk · (w.heap.size + 4)) e3⟩ : _ ∧ _ ∧ _ ∧ _ ∧ _); simp [go_sem] at C3
   obtain ⟨c4_3, c5_3, c6_3, c7_3, c8_3⟩ := C3
   have z4_3 := isRow_lt r4_3; have z5_3 := isRow_lt r5_3; have z6_3 := isRow_lt r6_3; have z7_3 := isRow_lt r7_3; have z8_3 := isRow_lt r8_3
   clear e3
   refine (isVector_any p n a _ Ha.out).mono ?_; rintro _ W4 ⟨rfl, hw4⟩
   obtain ⟨r4_4, c4_4, z4_4⟩ := keepZ hw4 z4_3 r4_3 c4_3
   obtain ⟨r5_4, c5_4, z5_4⟩ := keepZ hw4 z5_3 r5_3 c5_3
   obtain ⟨r6_4, c6_4, z6_4⟩ := keepZ hw4 z6_3 r6_3 c6_3
   obtain ⟨r7_4, c7_4, z7_4⟩ := keepZ hw4 z7_3 r7_3 c7_3
   obtain ⟨r8_4, c8_4, z8_4⟩ := keepZ hw4 z8_3 r8_3 c8_3
   obtain ⟨hb4, q4⟩ := bN hb3 hw4
   clear hw4 r4_3 c4_3 z4_3 r5_3 c5_3 z5_3 r6_3 c6_3 z6_3 r7_3 c7_3 z7_3 r8_3 c8_3 z8_3 hb3
   go_wp2_with fail
   have nw4_W4_0 : (w.heap.size) ≠ W4.heap.size := by omega
   have nw5_W4_0 : (w.heap.size + 1) ≠ W4.heap.size := by omega
   have nw6_W4_0 : (w.heap.size + 2) ≠ W4.heap.size := by omega
   have nw7_W4_0 : (w.heap.size + 3) ≠ W4.heap.size := by omega
   have nw8_W4_0 : (w.heap.size + 4) ≠ W4.heap.size := by omega
   refine atomC fun W5 e5 => ?_
   have hb5 : Below w.heap.size w W5 := by rw [e5]; exact bt
   have q5 := hb5.size
   have R5 : IsRow W5 (w.heap.size) ∧ IsRow W5 (w.heap.size + 1) ∧ IsRow W5 (w.heap.size + 2) ∧ IsRow W5 (w.heap.size + 3) ∧ IsRow W5 (w.heap.size + 4) ∧ IsRow W5 (W4.heap.size) := by rw [e5]; simp [go_sem, r4_4, c4_4, r5_4, c5_4, r6_4, c6_4, r7_4, c7_4, r8_4, c8_4, nw4_W4_0, nw5_W4_0, nw6_W4_0, nw7_W4_0, nw8_W4_0]
   obtain ⟨r4_5, r5_5, r6_5, r7_5, r8_5, r21_5⟩ := R5
   have C5 := (⟨congrArg (blk · (w.heap.size)) e5, congrArg (blk · (w.heap.size + 1)) e5, congrArg (blk · (w.heap.size + 2)) e5, congrArg (blk · (w.heap.size + 3)) e5, congrArg (blk · (w.heap.size + 4)) e5, congrArg (blk · (W4.heap.size)) e5⟩ : _ ∧ _ ∧ _ ∧ _ ∧ _ ∧ _); simp [go_sem, r4_4, c4_4, r5_4, c5_4, r6_4, c6_4, r7_4, c7_4, r8_4, c8_4, nw4_W4_0, nw5_W4_0, nw6_W4_0, nw7_W4_0, nw8_W4_0] at C5
   obtain ⟨c4_5, c5_5, c6_5, c7_5, c8_5, c21_5⟩ := C5
   have z4_5 := isRow_lt r4_5; have z5_5 := isRow_lt r5_5; have z6_5 := isRow_lt r6_5; have z7_5 := isRow_lt r7_5; have z8_5 := isRow_lt r8_5; have z21_5 := isRow_lt r21_5
   have n4_21 : (w.heap.size) ≠ (W4.heap.size) := by omega
   have n5_21 : (w.heap.size + 1) ≠ (W4.heap.size) := by omega
   have n6_21 : (w.heap.size + 2) ≠ (W4.heap.size) := by omega
   have n7_21 : (w.heap.size + 3) ≠ (W4.heap.size) := by omega
   have n8_21 : (w.heap.size + 4) ≠ (W4.heap.size) := by omega
   have n21_4 : (W4.heap.size) ≠ (w.heap.size) := by omega
   have n21_5 : (W4.heap.size) ≠ (w.heap.size + 1) := by omega
   have n21_6 : (W4.heap.size) ≠ (w.heap.size + 2) := by omega
   have n21_7 : (W4.heap.size) ≠ (w.heap.size + 3) := by omega
   have n21_8 : (W4.heap.size) ≠ (w.heap.size + 4) := by omega
   clear e5 nw4_W4_0 nw5_W4_0 nw6_W4_0 nw7_W4_0 nw8_W4_0 r4_4 c4_4 z4_4 r5_4 c5_4 z5_4 r6_4 c6_4 z6_4 r7_4 c7_4 z7_4 r8_4 c8_4 z8_4 hb4
   refine (isModuleWith_any p n f d F _ 0 1 1 (nth v) _ Hf.out HF.out (by omega) r21_5 (vecs1 c21_5 Hv.out)).mono ?_; rintro _ W6 ⟨rfl, hw6⟩
   obtain ⟨r4_6, c4_6, z4_6⟩ := keepZ hw6 z4_5 r4_5 c4_5
   obtain ⟨r5_6, c5_6, z5_6⟩ := keepZ hw6 z5_5 r5_5 c5_5
   obtain ⟨r6_6, c6_6, z6_6⟩ := keepZ hw6 z6_5 r6_5 c6_5
   obtain ⟨r7_6, c7_6, z7_6⟩ := keepZ hw6 z7_5 r7_5 c7_5
   obtain ⟨r8_6, c8_6, z8_6⟩ := keepZ hw6 z8_5 r8_5 c8_5
   obtain ⟨r21_6, c21_6, z21_6⟩ := keepZ hw6 z21_5 r21_5 c21_5
   obtain ⟨hb6, q6⟩ := bN hb5 hw6
   clear hw6 r4_5 c4_5 z4_5 r5_5 c5_5 z5_5 r6_5 c6_5 z6_5 r7_5 c7_5 z7_5 r8_5 c8_5 z8_5 r21_5 c21_5 z21_5 hb5
   go_wp2_with fail
   refine bodyPost_ret (result_cell_tmp rfl aggVec _ _ (row 8 zf) _ _ rfl rfl ?_ ?_) rfl ⟨by rw [H.out] <;> rfl, ?_⟩
   · simp [go_sem, r4_6, c4_6, n4_21, r5_6, c5_6, n5_21, r6_6, c6_6, n6_21, r7_6, c7_6, n7_21, r8_6, c8_6, n8_21, r21_6, c21_6, n21_4, n21_5, n21_6, n21_7, n21_8]
   · simp [go_sem, r4_6, c4_6, n4_21, r5_6, c5_6, n5_21, r6_6, c6_6, n6_21, r7_6, c7_6, n7_21, r8_6, c8_6, n8_21, r21_6, c21_6, n21_4, n21_5, n21_6, n21_7, n21_8]
   · exact bt
  ·
   have hm0 := hm
   simp only [Bool.and_eq_true] at hm0 hva
   have hc := hm0.2
   have H : Hid ((hm1 p n f d F && (vecB p n a && vecB p d v)) = true) := Lib.hid (by rw [hc, hva.2, ← one_vecs, hm0.1.2]; rfl)
   have x1 := hva.1
   have x2 := hva.2
   have x3 := hm0.1.1
   have x4 := hm0.1.2
   clear hm0 hva hm
   have hh := (hm1_parts hc).1
   have hmm := (hm1_parts hc).2
   obtain ⟨hp2, hp31, hn1, hn8⟩ := sizes_range (hopf_sizes hh)
   obtain ⟨n, rfl⟩ := Int.eq_ofNat_of_zero_le (show 0 ≤ n by omega)
   have hp : 0 < p := by omega
   have hp' : p ≤ 255 := by omega
   have hn : n ≤ 8 := by omega
   have HH := Lib.hid hh
   rw [Int.toNat_natCast] at hmm
   obtain ⟨_, _, hd1, hd8⟩ := sizes_range (modB_sizes (hopf_sizes hh) hmm)
   obtain ⟨d, rfl⟩ := Int.eq_ofNat_of_zero_le (show 0 ≤ d by omega)
   have hd : d ≤ 8 := by omega
   have HS := Lib.hid (modB_shape HF.out hmm)
   clear hmm hh
   have HT := Lib.hid (actT_bytes hp hp' d F a)
   have HD := Lib.hid (act_apply (a := a) (v := v) HS.out hn hd)
   go_enter Try.func29, Try.ntmps29
   go_wp2_with fail
   refine atomC fun W7 e7 => ?_
   have hb7 : Below w.heap.size w W7 := by rw [e7]; exact bt
   have q7 := hb7.size
   have R7 : IsRow W7 (w.heap.size) ∧ IsRow W7 (w.heap.size + 1) ∧ IsRow W7 (w.heap.size + 2) ∧ IsRow W7 (w.heap.size + 3) ∧ IsRow W7 (w.heap.size + 4) := by rw [e7]; simp [go_sem]
   obtain ⟨r4_7, r5_7, r6_7, r7_7, r8_7⟩ := R7
   have C7 := (⟨congrArg (blk · (w.heap.size)) e7, congrArg (blk · (w.heap.size + 1)) e7, congrArg (blk · (w.heap.size + 2)) e7, congrArg (blk · (w.heap.size + 3)) e7, congrArg (blk · (w.heap.size + 4)) e7⟩ : _ ∧ _ ∧ _ ∧ _ ∧ _); simp [go_sem] at C7
   obtain ⟨c4_7, c5_7, c6_7, c7_7, c8_7⟩ := C7
   have z4_7 := isRow_lt r4_7; have z5_7 := isRow_lt r5_7; have z6_7 := isRow_lt r6_7; have z7_7 := isRow_lt r7_7; have z8_7 := isRow_lt r8_7
   clear e7
   refine (isVector_any p n a _ Ha.out).mono ?_; rintro _ W8 ⟨rfl, hw8⟩
   obtain ⟨r4_8, c4_8, z4_8⟩ := keepZ hw8 z4_7 r4_7 c4_7
   obtain ⟨r5_8, c5_8, z5_8⟩ := keepZ hw8 z5_7 r5_7 c5_7
   obtain ⟨r6_8, c6_8, z6_8⟩ := keepZ hw8 z6_7 r6_7 c6_7
   obtain ⟨r7_8, c7_8, z7_8⟩ := keepZ hw8 z7_7 r7_7 c7_7
   obtain ⟨r8_8, c8_8, z8_8⟩ := keepZ hw8 z8_7 r8_7 c8_7
   obtain ⟨hb8, q8⟩ := bN hb7 hw8
   clear hw8 r4_7 c4_7 z4_7 r5_7 c5_7 z5_7 r6_7 c6_7 z6_7 r7_7 c7_7 z7_7 r8_7 c8_7 z8_7 hb7
   go_wp2_with fail
   have nw4_W8_0 : (w.heap.size) ≠ W8.heap.size := by omega
   have nw5_W8_0 : (w.heap.size + 1) ≠ W8.heap.size := by omega
   have nw6_W8_0 : (w.heap.size + 2) ≠ W8.heap.size := by omega
   have nw7_W8_0 : (w.heap.size + 3) ≠ W8.heap.size := by omega
   have nw8_W8_0 : (w.heap.size + 4) ≠ W8.heap.size := by omega
   refine atomC fun W9 e9 => ?_
   have hb9 : Below w.heap.size w W9 := by rw [e9]; exact bt
   have q9 := hb9.size
   have R9 : IsRow W9 (w.heap.size) ∧ IsRow W9 (w.heap.size + 1) ∧ IsRow W9 (w.heap.size + 2) ∧ IsRow W9 (w.heap.size + 3) ∧ IsRow W9 (w.heap.size + 4) ∧ IsRow W9 (W8.heap.size) := by rw [e9]; simp [go_sem, r4_8, c4_8, r5_8, c5_8, r6_8, c6_8, r7_8, c7_8, r8_8, c8_8, nw4_W8_0, nw5_W8_0, nw6_W8_0, nw7_W8_0, nw8_W8_0]
   obtain ⟨r4_9, r5_9, r6_9, r7_9, r8_9, r21_9⟩ := R9
   have C9 := (⟨congrArg (blk · (w.heap.size)) e9, congrArg (blk · (w.heap.size + 1)) e9, congrArg (blk · (w.heap.size + 2)) e9, congrArg (blk · (w.heap.size + 3)) e9, congrArg (blk · (w.heap.size + 4)) e9, congrArg (blk · (W8.heap.size)) e9⟩ : _ ∧ _ ∧ _ ∧ _ ∧ _ ∧ _); simp [go_sem, r4_8, c4_8, r5_8, c5_8, r6_8, c6_8, r7_8, c7_8, r8_8, c8_8, nw4_W8_0, nw5_W8_0, nw6_W8_0, nw7_W8_0, nw8_W8_0] at C9
   obtain ⟨c4_9, c5_9, c6_9, c7_9, c8_9, c21_9⟩ := C9
   have z4_9 := isRow_lt r4_9; have z5_9 := isRow_lt r5_9; have z6_9 := isRow_lt r6_9; have z7_9 := isRow_lt r7_9; have z8_9 := isRow_lt r8_9; have z21_9 := isRow_lt r21_9
   have n4_21 : (w.heap.size) ≠ (W8.heap.size) := by omega
   have n5_21 : (w.heap.size + 1) ≠ (W8.heap.size) := by omega
   have n6_21 : (w.heap.size + 2) ≠ (W8.heap.size) := by omega
   have n7_21 : (w.heap.size + 3) ≠ (W8.heap.size) := by omega
   have n8_21 : (w.heap.size + 4) ≠ (W8.heap.size) := by omega
   have n21_4 : (W8.heap.size) ≠ (w.heap.size) := by omega
   have n21_5 : (W8.heap.size) ≠ (w.heap.size + 1) := by omega
   have n21_6 : (W8.heap.size) ≠ (w.heap.size + 2) := by omega
   have n21_7 : (W8.heap.size) ≠ (w.heap.size + 3) := by omega
   have n21_8 : (W8.heap.size) ≠ (w.heap.size + 4) := by omega
   clear e9 nw4_W8_0 nw5_W8_0 nw6_W8_0 nw7_W8_0 nw8_W8_0 r4_8 c4_8 z4_8 r5_8 c5_8 z5_8 r6_8 c6_8 z6_8 r7_8 c7_8 z7_8 r8_8 c8_8 z8_8 hb8
   refine (isModuleWith_any p n f d F _ 0 1 1 (nth v) _ Hf.out HF.out (by omega) r21_9 (vecs1 c21_9 Hv.out)).mono ?_; rintro _ W10 ⟨rfl, hw10⟩
   obtain ⟨r4_10, c4_10, z4_10⟩ := keepZ hw10 z4_9 r4_9 c4_9
   obtain ⟨r5_10, c5_10, z5_10⟩ := keepZ hw10 z5_9 r5_9 c5_9
   obtain ⟨r6_10, c6_10, z6_10⟩ := keepZ hw10 z6_9 r6_9 c6_9
   obtain ⟨r7_10, c7_10, z7_10⟩ := keepZ hw10 z7_9 r7_9 c7_9
   obtain ⟨r8_10, c8_10, z8_10⟩ := keepZ hw10 z8_9 r8_9 c8_9
   obtain ⟨r21_10, c21_10, z21_10⟩ := keepZ hw10 z21_9 r21_9 c21_9
   obtain ⟨hb10, q10⟩ := bN hb9 hw10
   clear hw10 r4_9 c4_9 z4_9 r5_9 c5_9 z5_9 r6_9 c6_9 z6_9 r7_9 c7_9 z7_9 r8_9 c8_9 z8_9 r21_9 c21_9 z21_9 hb9
   go_wp2
   refine wp_quiet_tail 10 (Below W10.heap.size W10) (by kernel_rfl) (by kernel_rfl) (Below.refl _ _).drew ?_
   simp only [List.take_succ_cons, List.take_zero, List.drop_succ_cons, List.drop_zero]
   iterate 7 (refine q_plain rfl ?_; apply Exists.intro; refine ⟨fun W hW => ?_, ?_⟩; (focus (obtain ⟨x4, y4⟩ := keepB hW z4_10 r4_10 c4_10; obtain ⟨x5, y5⟩ := keepB hW z5_10 r5_10 c5_10; obtain ⟨x6, y6⟩ := keepB hW z6_10 r6_10 c6_10; obtain ⟨x7, y7⟩ := keepB hW z7_10 r7_10 c7_10; obtain ⟨x8, y8⟩ := keepB hW z8_10 r8_10 c8_10; go_simp; first | done | rfl)); simp only [Act.put, List.setIfInBounds_toArray, List.set_cons_zero, List.set_cons_succ])
   (refine q_plain rfl ?_; apply Exists.intro; refine ⟨fun W hW => ?_, ?_⟩; (focus (obtain ⟨x4, y4⟩ := keepB hW z4_10 r4_10 c4_10; obtain ⟨x5, y5⟩ := keepB hW z5_10 r5_10 c5_10; obtain ⟨x6, y6⟩ := keepB hW z6_10 r6_10 c6_10; obtain ⟨x7, y7⟩ := keepB hW z7_10 r7_10 c7_10; obtain ⟨x8, y8⟩ := keepB hW z8_10 r8_10 c8_10; go_simp; (go_at_call 66; exact (actTable_any p d F a _ hp hp' hd HF.out Ha.out).mono fun e w2 ⟨he, hw2⟩ => ⟨he, hW.trans (hw2.mono hW.size)⟩))); simp only [Act.put, List.setIfInBounds_toArray, List.set_cons_zero, List.set_cons_succ])
   iterate 1 (refine q_plain rfl ?_; apply Exists.intro; refine ⟨fun W hW => ?_, ?_⟩; (focus (obtain ⟨x4, y4⟩ := keepB hW z4_10 r4_10 c4_10; obtain ⟨x5, y5⟩ := keepB hW z5_10 r5_10 c5_10; obtain ⟨x6, y6⟩ := keepB hW z6_10 r6_10 c6_10; obtain ⟨x7, y7⟩ := keepB hW z7_10 r7_10 c7_10; obtain ⟨x8, y8⟩ := keepB hW z8_10 r8_10 c8_10; go_simp; first | done | rfl)); simp only [Act.put, List.setIfInBounds_toArray, List.set_cons_zero, List.set_cons_succ])
   (refine q_plain rfl ?_; apply Exists.intro; refine ⟨fun W hW => ?_, ?_⟩; (focus (obtain ⟨x4, y4⟩ := keepB hW z4_10 r4_10 c4_10; obtain ⟨x5, y5⟩ := keepB hW z5_10 r5_10 c5_10; obtain ⟨x6, y6⟩ := keepB hW z6_10 r6_10 c6_10; obtain ⟨x7, y7⟩ := keepB hW z7_10 r7_10 c7_10; obtain ⟨x8, y8⟩ := keepB hW z8_10 r8_10 c8_10; go_simp; (go_at_call 65; exact (applyLinear_any p (actT p d F a) v _ hp hp' HT.out Hv.out).mono fun e w2 ⟨he, hw2⟩ => ⟨he, hW.trans (hw2.mono hW.size)⟩))); simp only [Act.put, List.setIfInBounds_toArray, List.set_cons_zero, List.set_cons_succ])
   refine wpQuiet_nil ?_
   intro W11 hw11
   obtain ⟨r4_11, c4_11, z4_11⟩ := keepZ hw11 z4_10 r4_10 c4_10
   obtain ⟨r5_11, c5_11, z5_11⟩ := keepZ hw11 z5_10 r5_10 c5_10
   obtain ⟨r6_11, c6_11, z6_11⟩ := keepZ hw11 z6_10 r6_10 c6_10
   obtain ⟨r7_11, c7_11, z7_11⟩ := keepZ hw11 z7_10 r7_10 c7_10
   obtain ⟨r8_11, c8_11, z8_11⟩ := keepZ hw11 z8_10 r8_10 c8_10
   obtain ⟨hb11, q11⟩ := bN hb10 hw11
   clear hw11 r4_10 c4_10 z4_10 r5_10 c5_10 z5_10 r6_10 c6_10 z6_10 r7_10 c7_10 z7_10 r8_10 c8_10 z8_10 hb10
   go_wp2_with fail
   refine bodyPost_ret (result_cell_tmp rfl aggVec _ _ (row 8 (appF p 8 (fun j k => actT p d F a (j * 8 + k)) v)) _ _ rfl rfl ?_ ?_) rfl ⟨by rw [H.out, HD.out] <;> rfl, ?_⟩
   · simp [go_sem, r4_11, c4_11, n4_21, r5_11, c5_11, n5_21, r6_11, c6_11, n6_21, r7_11, c7_11, n7_21, r8_11, c8_11, n8_21]
   · simp [go_sem, r4_11, c4_11, n4_21, r5_11, c5_11, n5_21, r6_11, c6_11, n6_21, r7_11, c7_11, n7_21, r8_11, c8_11, n8_21]
   · exact bt

set_option maxRecDepth 100000 in
set_option maxHeartbeats 2000000 in
theorem lawActOn (fp fn : Int) (f : Nat → Int) (md : Int) (m : Nat → Int) (a : Nat → Int) (v : Nat → Int) (w : World) (_wfp : (Lit.int .i64 fp).wf = true) (_wfn : (Lit.int .i64 fn).wf = true) (hf : Bytes 1104 f) (_wmd : (Lit.int .i64 md).wf = true) (hm : Bytes 512 m) (ha : Bytes 8 a) (hv : Bytes 8 v) :
    Calls Try.prog 7 #[.agg (hop fp fn f), .agg (mdl md m), .agg (row 8 a), .agg (row 8 v)] w fun e w' => e = .returned (.bool true) ∧ Below w.heap.size w w' := by
 have Hf := Lib.hid hf; clear hf
 have Hm := Lib.hid hm; clear hm
 have Ha := Lib.hid ha; clear ha
 have Hv := Lib.hid hv; clear hv
 go_enter Try.func7, Try.ntmps7
 go_wp2
 refine atomW fun W1 e1 => ?_
 have hb1 : Below w.heap.size w W1 := by rw [e1]; exact bt
 have q1 := hb1.size
 have R1 : IsRow W1 (w.heap.size) ∧ IsRow W1 (w.heap.size + 1) ∧ IsRow W1 (w.heap.size + 2) ∧ IsRow W1 (w.heap.size + 3) := by rw [e1]; simp [go_sem]
 obtain ⟨r4_1, r5_1, r6_1, r7_1⟩ := R1
 have C1 := (⟨congrArg (blk · (w.heap.size)) e1, congrArg (blk · (w.heap.size + 1)) e1, congrArg (blk · (w.heap.size + 2)) e1, congrArg (blk · (w.heap.size + 3)) e1⟩ : _ ∧ _ ∧ _ ∧ _); simp [go_sem] at C1
 obtain ⟨c4_1, c5_1, c6_1, c7_1⟩ := C1
 have z4_1 := isRow_lt r4_1; have z5_1 := isRow_lt r5_1; have z6_1 := isRow_lt r6_1; have z7_1 := isRow_lt r7_1
 clear e1
 refine wp_quiet_alloc_late 12 11 _ _ (.cells (row 8 zf) 37) (Below W1.heap.size W1) (Made W1 (row 8 zf)) (by kernel_rfl) rfl rfl rfl (by kernel_rfl) (by kernel_rfl) (fun c a w d v h => by cases d <;> exact h) (fun a W => (xallocVec _ _ _ _ _ _ _).trans (allocVec W)) (closed_below W1) (closed_made W1 _) (fun b W h => h.1) (fun W h => made_new W1 _ _ W h) (Below.refl _ _).drew ?_
 simp only [List.take_succ_cons, List.take_zero, List.drop_succ_cons, List.drop_zero]
 iterate 1 (refine e_plain rfl ?_; apply Exists.intro; refine ⟨fun D hD hK W hW => ?_, ?_⟩; (focus (obtain ⟨x4, y4⟩ := keepB (hD W hW) z4_1 r4_1 c4_1; obtain ⟨x5, y5⟩ := keepB (hD W hW) z5_1 r5_1 c5_1; obtain ⟨x6, y6⟩ := keepB (hD W hW) z6_1 r6_1 c6_1; obtain ⟨x7, y7⟩ := keepB (hD W hW) z7_1 r7_1 c7_1; unfold Oper.quietAt; go_simp; first | done | rfl)); simp only [Act.put, List.setIfInBounds_toArray, List.set_cons_zero, List.set_cons_succ])
 (refine e_plain rfl ?_; apply Exists.intro; refine ⟨fun D hD hK W hW => ?_, ?_⟩; (focus (obtain ⟨x4, y4⟩ := keepB (hD W hW) z4_1 r4_1 c4_1; obtain ⟨x5, y5⟩ := keepB (hD W hW) z5_1 r5_1 c5_1; obtain ⟨x6, y6⟩ := keepB (hD W hW) z6_1 r6_1 c6_1; obtain ⟨x7, y7⟩ := keepB (hD W hW) z7_1 r7_1 c7_1; unfold Oper.quietAt; go_simp; (go_at_call 25; exact (toHopf_any _ _ _ _).mono fun e w2 ⟨he, hw2⟩ => ⟨he, hK _ _ hW hw2⟩))); simp only [Act.put, List.setIfInBounds_toArray, List.set_cons_zero, List.set_cons_succ])
 iterate 1 (refine e_plain rfl ?_; apply Exists.intro; refine ⟨fun D hD hK W hW => ?_, ?_⟩; (focus (obtain ⟨x4, y4⟩ := keepB (hD W hW) z4_1 r4_1 c4_1; obtain ⟨x5, y5⟩ := keepB (hD W hW) z5_1 r5_1 c5_1; obtain ⟨x6, y6⟩ := keepB (hD W hW) z6_1 r6_1 c6_1; obtain ⟨x7, y7⟩ := keepB (hD W hW) z7_1 r7_1 c7_1; unfold Oper.quietAt; go_simp; first | done | rfl)); simp only [Act.put, List.setIfInBounds_toArray, List.set_cons_zero, List.set_cons_succ])
 (refine e_plain rfl ?_; apply Exists.intro; refine ⟨fun D hD hK W hW => ?_, ?_⟩; (focus (obtain ⟨x4, y4⟩ := keepB (hD W hW) z4_1 r4_1 c4_1; obtain ⟨x5, y5⟩ := keepB (hD W hW) z5_1 r5_1 c5_1; obtain ⟨x6, y6⟩ := keepB (hD W hW) z6_1 r6_1 c6_1; obtain ⟨x7, y7⟩ := keepB (hD W hW) z7_1 r7_1 c7_1; unfold Oper.quietAt; go_simp; (go_at_call 26; exact (toModule_any _ _ _).mono fun e w2 ⟨he, hw2⟩ => ⟨he, hK _ _ hW hw2⟩))); simp only [Act.put, List.setIfInBounds_toArray, List.set_cons_zero, List.set_cons_succ])
 iterate 1 (refine e_plain rfl ?_; apply Exists.intro; refine ⟨fun D hD hK W hW => ?_, ?_⟩; (focus (obtain ⟨x4, y4⟩ := keepB (hD W hW) z4_1 r4_1 c4_1; obtain ⟨x5, y5⟩ := keepB (hD W hW) z5_1 r5_1 c5_1; obtain ⟨x6, y6⟩ := keepB (hD W hW) z6_1 r6_1 c6_1; obtain ⟨x7, y7⟩ := keepB (hD W hW) z7_1 r7_1 c7_1; unfold Oper.quietAt; go_simp; first | done | rfl)); simp only [Act.put, List.setIfInBounds_toArray, List.set_cons_zero, List.set_cons_succ])
 (refine e_plain rfl ?_; apply Exists.intro; refine ⟨fun D hD hK W hW => ?_, ?_⟩; (focus (obtain ⟨x4, y4⟩ := keepB (hD W hW) z4_1 r4_1 c4_1; obtain ⟨x5, y5⟩ := keepB (hD W hW) z5_1 r5_1 c5_1; obtain ⟨x6, y6⟩ := keepB (hD W hW) z6_1 r6_1 c6_1; obtain ⟨x7, y7⟩ := keepB (hD W hW) z7_1 r7_1 c7_1; unfold Oper.quietAt; go_simp; (go_at_call 20; exact (toVector_any _ _).mono fun e w2 ⟨he, hw2⟩ => ⟨he, hK _ _ hW hw2⟩))); simp only [Act.put, List.setIfInBounds_toArray, List.set_cons_zero, List.set_cons_succ])
 iterate 1 (refine e_plain rfl ?_; apply Exists.intro; refine ⟨fun D hD hK W hW => ?_, ?_⟩; (focus (obtain ⟨x4, y4⟩ := keepB (hD W hW) z4_1 r4_1 c4_1; obtain ⟨x5, y5⟩ := keepB (hD W hW) z5_1 r5_1 c5_1; obtain ⟨x6, y6⟩ := keepB (hD W hW) z6_1 r6_1 c6_1; obtain ⟨x7, y7⟩ := keepB (hD W hW) z7_1 r7_1 c7_1; unfold Oper.quietAt; go_simp; first | done | rfl)); simp only [Act.put, List.setIfInBounds_toArray, List.set_cons_zero, List.set_cons_succ])
 (refine e_plain rfl ?_; apply Exists.intro; refine ⟨fun D hD hK W hW => ?_, ?_⟩; (focus (obtain ⟨x4, y4⟩ := keepB (hD W hW) z4_1 r4_1 c4_1; obtain ⟨x5, y5⟩ := keepB (hD W hW) z5_1 r5_1 c5_1; obtain ⟨x6, y6⟩ := keepB (hD W hW) z6_1 r6_1 c6_1; obtain ⟨x7, y7⟩ := keepB (hD W hW) z7_1 r7_1 c7_1; unfold Oper.quietAt; go_simp; (go_at_call 20; exact (toVector_any _ _).mono fun e w2 ⟨he, hw2⟩ => ⟨he, hK _ _ hW hw2⟩))); simp only [Act.put, List.setIfInBounds_toArray, List.set_cons_zero, List.set_cons_succ])
 (refine e_plain rfl ?_; apply Exists.intro; refine ⟨fun D hD hK W hW => ?_, ?_⟩; (focus (obtain ⟨x4, y4⟩ := keepB (hD W hW) z4_1 r4_1 c4_1; obtain ⟨x5, y5⟩ := keepB (hD W hW) z5_1 r5_1 c5_1; obtain ⟨x6, y6⟩ := keepB (hD W hW) z6_1 r6_1 c6_1; obtain ⟨x7, y7⟩ := keepB (hD W hW) z7_1 r7_1 c7_1; unfold Oper.quietAt; go_simp; (go_at_call 28; exact (specActOn_any _ _ _ _ _ _ _ _ Hf.out Hm.out Ha.out Hv.out).mono fun e w2 ⟨he, hw2⟩ => ⟨he, hK _ _ hW hw2⟩))); simp only [Act.put, List.setIfInBounds_toArray, List.set_cons_zero, List.set_cons_succ])
 iterate 3 (refine e_plain rfl ?_; apply Exists.intro; refine ⟨fun D hD hK W hW => ?_, ?_⟩; (focus (obtain ⟨x4, y4⟩ := keepB (hD W hW) z4_1 r4_1 c4_1; obtain ⟨x5, y5⟩ := keepB (hD W hW) z5_1 r5_1 c5_1; obtain ⟨x6, y6⟩ := keepB (hD W hW) z6_1 r6_1 c6_1; obtain ⟨x7, y7⟩ := keepB (hD W hW) z7_1 r7_1 c7_1; unfold Oper.quietAt; go_simp; first | done | rfl)); simp only [Act.put, List.setIfInBounds_toArray, List.set_cons_zero, List.set_cons_succ])
 refine e_nil ?_
 intro a2 W2 hW2
 obtain ⟨hw2, hl2, m1_2, m2_2⟩ := hW2
 have n4_9 : (w.heap.size) ≠ (a2) := by have := z4_1; omega
 have n9_4 : (a2) ≠ (w.heap.size) := by have := z4_1; omega
 have n5_9 : (w.heap.size + 1) ≠ (a2) := by have := z5_1; omega
 have n9_5 : (a2) ≠ (w.heap.size + 1) := by have := z5_1; omega
 have n6_9 : (w.heap.size + 2) ≠ (a2) := by have := z6_1; omega
 have n9_6 : (a2) ≠ (w.heap.size + 2) := by have := z6_1; omega
 have n7_9 : (w.heap.size + 3) ≠ (a2) := by have := z7_1; omega
 have n9_7 : (a2) ≠ (w.heap.size + 3) := by have := z7_1; omega
 obtain ⟨r4_2, c4_2, z4_2⟩ := keepZ hw2 z4_1 r4_1 c4_1
 obtain ⟨r5_2, c5_2, z5_2⟩ := keepZ hw2 z5_1 r5_1 c5_1
 obtain ⟨r6_2, c6_2, z6_2⟩ := keepZ hw2 z6_1 r6_1 c6_1
 obtain ⟨r7_2, c7_2, z7_2⟩ := keepZ hw2 z7_1 r7_1 c7_1
 obtain ⟨hb2, q2⟩ := bN hb1 hw2
 clear hw2 r4_1 c4_1 z4_1 r5_1 c5_1 z5_1 r6_1 c6_1 z6_1 r7_1 c7_1 z7_1 hb1
 have z9_2 := isRow_lt m1_2
 simp only [Act.put, List.setIfInBounds_toArray, List.set_cons_zero, List.set_cons_succ]
 go_wp2
 refine atomW fun W3 e3 => ?_
 have hb3 : Below w.heap.size w W3 := by rw [e3]; exact bt
 have q3 := hb3.size
 have R3 : IsRow W3 (w.heap.size) ∧ IsRow W3 (w.heap.size + 1) ∧ IsRow W3 (w.heap.size + 2) ∧ IsRow W3 (w.heap.size + 3) ∧ IsRow W3 (a2) := by rw [e3]; simp [go_sem, r4_2, c4_2, n4_9, r5_2, c5_2, n5_9, r6_2, c6_2, n6_9, r7_2, c7_2, n7_9, m1_2, m2_2, n9_4, n9_5, n9_6, n9_7]
 obtain ⟨r4_3, r5_3, r6_3, r7_3, r9_3⟩ := R3
 have C3 := (⟨congrArg (blk · (w.heap.size)) e3, congrArg (blk · (w.heap.size + 1)) e3, congrArg (blk · (w.heap.size + 2)) e3, congrArg (blk · (w.heap.size + 3)) e3, congrArg (blk · (a2)) e3⟩ : _ ∧ _ ∧ _ ∧ _ ∧ _); simp [go_sem, r4_2, c4_2, n4_9, r5_2, c5_2, n5_9, r6_2, c6_2, n6_9, r7_2, c7_2, n7_9, m1_2, m2_2, n9_4, n9_5, n9_6, n9_7] at C3
 obtain ⟨c4_3, c5_3, c6_3, c7_3, c9_3⟩ := C3
 have z4_3 := isRow_lt r4_3; have z5_3 := isRow_lt r5_3; have z6_3 := isRow_lt r6_3; have z7_3 := isRow_lt r7_3; have z9_3 := isRow_lt r9_3
 clear e3 r4_2 c4_2 z4_2 r5_2 c5_2 z5_2 r6_2 c6_2 z6_2 r7_2 c7_2 z7_2 m1_2 m2_2 z9_2 hb2
 refine wp_quiet_alloc_late 12 11 _ _ (.cells (row 8 zf) 37) (Below W3.heap.size W3) (Made W3 (row 8 zf)) (by kernel_rfl) rfl rfl rfl (by kernel_rfl) (by kernel_rfl) (fun c a w d v h => by cases d <;> exact h) (fun a W => (xallocVec _ _ _ _ _ _ _).trans (allocVec W)) (closed_below W3) (closed_made W3 _) (fun b W h => h.1) (fun W h => made_new W3 _ _ W h) (Below.refl _ _).drew ?_
 simp only [List.take_succ_cons, List.take_zero, List.drop_succ_cons, List.drop_zero]
 iterate 1 (refine e_plain rfl ?_; apply Exists.intro; refine ⟨fun D hD hK W hW => ?_, ?_⟩; (focus (obtain ⟨x4, y4⟩ := keepB (hD W hW) z4_3 r4_3 c4_3; obtain ⟨x5, y5⟩ := keepB (hD W hW) z5_3 r5_3 c5_3; obtain ⟨x6, y6⟩ := keepB (hD W hW) z6_3 r6_3 c6_3; obtain ⟨x7, y7⟩ := keepB (hD W hW) z7_3 r7_3 c7_3; obtain ⟨x9, y9⟩ := keepB (hD W hW) z9_3 r9_3 c9_3; unfold Oper.quietAt; go_simp; first | done | rfl)); simp only [Act.put, List.setIfInBounds_toArray, List.set_cons_zero, List.set_cons_succ])
 (refine e_plain rfl ?_; apply Exists.intro; refine ⟨fun D hD hK W hW => ?_, ?_⟩; (focus (obtain ⟨x4, y4⟩ := keepB (hD W hW) z4_3 r4_3 c4_3; obtain ⟨x5, y5⟩ := keepB (hD W hW) z5_3 r5_3 c5_3; obtain ⟨x6, y6⟩ := keepB (hD W hW) z6_3 r6_3 c6_3; obtain ⟨x7, y7⟩ := keepB (hD W hW) z7_3 r7_3 c7_3; obtain ⟨x9, y9⟩ := keepB (hD W hW) z9_3 r9_3 c9_3; unfold Oper.quietAt; go_simp; (go_at_call 25; exact (toHopf_any _ _ _ _).mono fun e w2 ⟨he, hw2⟩ => ⟨he, hK _ _ hW hw2⟩))); simp only [Act.put, List.setIfInBounds_toArray, List.set_cons_zero, List.set_cons_succ])
 iterate 1 (refine e_plain rfl ?_; apply Exists.intro; refine ⟨fun D hD hK W hW => ?_, ?_⟩; (focus (obtain ⟨x4, y4⟩ := keepB (hD W hW) z4_3 r4_3 c4_3; obtain ⟨x5, y5⟩ := keepB (hD W hW) z5_3 r5_3 c5_3; obtain ⟨x6, y6⟩ := keepB (hD W hW) z6_3 r6_3 c6_3; obtain ⟨x7, y7⟩ := keepB (hD W hW) z7_3 r7_3 c7_3; obtain ⟨x9, y9⟩ := keepB (hD W hW) z9_3 r9_3 c9_3; unfold Oper.quietAt; go_simp; first | done | rfl)); simp only [Act.put, List.setIfInBounds_toArray, List.set_cons_zero, List.set_cons_succ])
 (refine e_plain rfl ?_; apply Exists.intro; refine ⟨fun D hD hK W hW => ?_, ?_⟩; (focus (obtain ⟨x4, y4⟩ := keepB (hD W hW) z4_3 r4_3 c4_3; obtain ⟨x5, y5⟩ := keepB (hD W hW) z5_3 r5_3 c5_3; obtain ⟨x6, y6⟩ := keepB (hD W hW) z6_3 r6_3 c6_3; obtain ⟨x7, y7⟩ := keepB (hD W hW) z7_3 r7_3 c7_3; obtain ⟨x9, y9⟩ := keepB (hD W hW) z9_3 r9_3 c9_3; unfold Oper.quietAt; go_simp; (go_at_call 26; exact (toModule_any _ _ _).mono fun e w2 ⟨he, hw2⟩ => ⟨he, hK _ _ hW hw2⟩))); simp only [Act.put, List.setIfInBounds_toArray, List.set_cons_zero, List.set_cons_succ])
 iterate 1 (refine e_plain rfl ?_; apply Exists.intro; refine ⟨fun D hD hK W hW => ?_, ?_⟩; (focus (obtain ⟨x4, y4⟩ := keepB (hD W hW) z4_3 r4_3 c4_3; obtain ⟨x5, y5⟩ := keepB (hD W hW) z5_3 r5_3 c5_3; obtain ⟨x6, y6⟩ := keepB (hD W hW) z6_3 r6_3 c6_3; obtain ⟨x7, y7⟩ := keepB (hD W hW) z7_3 r7_3 c7_3; obtain ⟨x9, y9⟩ := keepB (hD W hW) z9_3 r9_3 c9_3; unfold Oper.quietAt; go_simp; first | done | rfl)); simp only [Act.put, List.setIfInBounds_toArray, List.set_cons_zero, List.set_cons_succ])
 (refine e_plain rfl ?_; apply Exists.intro; refine ⟨fun D hD hK W hW => ?_, ?_⟩; (focus (obtain ⟨x4, y4⟩ := keepB (hD W hW) z4_3 r4_3 c4_3; obtain ⟨x5, y5⟩ := keepB (hD W hW) z5_3 r5_3 c5_3; obtain ⟨x6, y6⟩ := keepB (hD W hW) z6_3 r6_3 c6_3; obtain ⟨x7, y7⟩ := keepB (hD W hW) z7_3 r7_3 c7_3; obtain ⟨x9, y9⟩ := keepB (hD W hW) z9_3 r9_3 c9_3; unfold Oper.quietAt; go_simp; (go_at_call 20; exact (toVector_any _ _).mono fun e w2 ⟨he, hw2⟩ => ⟨he, hK _ _ hW hw2⟩))); simp only [Act.put, List.setIfInBounds_toArray, List.set_cons_zero, List.set_cons_succ])
 iterate 1 (refine e_plain rfl ?_; apply Exists.intro; refine ⟨fun D hD hK W hW => ?_, ?_⟩; (focus (obtain ⟨x4, y4⟩ := keepB (hD W hW) z4_3 r4_3 c4_3; obtain ⟨x5, y5⟩ := keepB (hD W hW) z5_3 r5_3 c5_3; obtain ⟨x6, y6⟩ := keepB (hD W hW) z6_3 r6_3 c6_3; obtain ⟨x7, y7⟩ := keepB (hD W hW) z7_3 r7_3 c7_3; obtain ⟨x9, y9⟩ := keepB (hD W hW) z9_3 r9_3 c9_3; unfold Oper.quietAt; go_simp; first | done | rfl)); simp only [Act.put, List.setIfInBounds_toArray, List.set_cons_zero, List.set_cons_succ])
 (refine e_plain rfl ?_; apply Exists.intro; refine ⟨fun D hD hK W hW => ?_, ?_⟩; (focus (obtain ⟨x4, y4⟩ := keepB (hD W hW) z4_3 r4_3 c4_3; obtain ⟨x5, y5⟩ := keepB (hD W hW) z5_3 r5_3 c5_3; obtain ⟨x6, y6⟩ := keepB (hD W hW) z6_3 r6_3 c6_3; obtain ⟨x7, y7⟩ := keepB (hD W hW) z7_3 r7_3 c7_3; obtain ⟨x9, y9⟩ := keepB (hD W hW) z9_3 r9_3 c9_3; unfold Oper.quietAt; go_simp; (go_at_call 20; exact (toVector_any _ _).mono fun e w2 ⟨he, hw2⟩ => ⟨he, hK _ _ hW hw2⟩))); simp only [Act.put, List.setIfInBounds_toArray, List.set_cons_zero, List.set_cons_succ])
 (refine e_plain rfl ?_; apply Exists.intro; refine ⟨fun D hD hK W hW => ?_, ?_⟩; (focus (obtain ⟨x4, y4⟩ := keepB (hD W hW) z4_3 r4_3 c4_3; obtain ⟨x5, y5⟩ := keepB (hD W hW) z5_3 r5_3 c5_3; obtain ⟨x6, y6⟩ := keepB (hD W hW) z6_3 r6_3 c6_3; obtain ⟨x7, y7⟩ := keepB (hD W hW) z7_3 r7_3 c7_3; obtain ⟨x9, y9⟩ := keepB (hD W hW) z9_3 r9_3 c9_3; unfold Oper.quietAt; go_simp; (go_at_call 29; exact (implActOn_any _ _ _ _ _ _ _ _ Hf.out Hm.out Ha.out Hv.out).mono fun e w2 ⟨he, hw2⟩ => ⟨he, hK _ _ hW hw2⟩))); simp only [Act.put, List.setIfInBounds_toArray, List.set_cons_zero, List.set_cons_succ])
 iterate 3 (refine e_plain rfl ?_; apply Exists.intro; refine ⟨fun D hD hK W hW => ?_, ?_⟩; (focus (obtain ⟨x4, y4⟩ := keepB (hD W hW) z4_3 r4_3 c4_3; obtain ⟨x5, y5⟩ := keepB (hD W hW) z5_3 r5_3 c5_3; obtain ⟨x6, y6⟩ := keepB (hD W hW) z6_3 r6_3 c6_3; obtain ⟨x7, y7⟩ := keepB (hD W hW) z7_3 r7_3 c7_3; obtain ⟨x9, y9⟩ := keepB (hD W hW) z9_3 r9_3 c9_3; unfold Oper.quietAt; go_simp; first | done | rfl)); simp only [Act.put, List.setIfInBounds_toArray, List.set_cons_zero, List.set_cons_succ])
 refine e_nil ?_
 intro a4 W4 hW4
 obtain ⟨hw4, hl4, m1_4, m2_4⟩ := hW4
 have n4_11 : (w.heap.size) ≠ (a4) := by have := z4_3; omega
 have n11_4 : (a4) ≠ (w.heap.size) := by have := z4_3; omega
 have n5_11 : (w.heap.size + 1) ≠ (a4) := by have := z5_3; omega
 have n11_5 : (a4) ≠ (w.heap.size + 1) := by have := z5_3; omega
 have n6_11 : (w.heap.size + 2) ≠ (a4) := by have := z6_3; omega
 have n11_6 : (a4) ≠ (w.heap.size + 2) := by have := z6_3; omega
 have n7_11 : (w.heap.size + 3) ≠ (a4) := by have := z7_3; omega
 have n11_7 : (a4) ≠ (w.heap.size + 3) := by have := z7_3; omega
 have n9_11 : (a2) ≠ (a4) := by have := z9_3; omega
 have n11_9 : (a4) ≠ (a2) := by have := z9_3; omega
 obtain ⟨r4_4, c4_4, z4_4⟩ := keepZ hw4 z4_3 r4_3 c4_3
 obtain ⟨r5_4, c5_4, z5_4⟩ := keepZ hw4 z5_3 r5_3 c5_3
 obtain ⟨r6_4, c6_4, z6_4⟩ := keepZ hw4 z6_3 r6_3 c6_3
 obtain ⟨r7_4, c7_4, z7_4⟩ := keepZ hw4 z7_3 r7_3 c7_3
 obtain ⟨r9_4, c9_4, z9_4⟩ := keepZ hw4 z9_3 r9_3 c9_3
 obtain ⟨hb4, q4⟩ := bN hb3 hw4
 clear hw4 r4_3 c4_3 z4_3 r5_3 c5_3 z5_3 r6_3 c6_3 z6_3 r7_3 c7_3 z7_3 r9_3 c9_3 z9_3 hb3
 have z11_4 := isRow_lt m1_4
 simp only [Act.put, List.setIfInBounds_toArray, List.set_cons_zero, List.set_cons_succ]
 go_wp2_with fail
 refine atomC fun W5 e5 => ?_
 have hb5 : Below w.heap.size w W5 := by rw [e5]; exact bt
 have q5 := hb5.size
 clear e5 hb4
 refine (eqVector_same _ _).mono ?_; rintro _ W6 ⟨rfl, hw6⟩
 obtain ⟨hb6, q6⟩ := bN hb5 hw6
 clear hw6 hb5
 go_wp2_with fail
 go_ret
 exact ⟨rfl, bt⟩

end Go.Proofs.Ytfmhgfnadgaiaaa
