/- Duals of modules. -/
import Derived.Test.YtfmhgfnadgaiaaaGreatM3
namespace Go.Proofs.YtfmhgfnadgaiaaaGreat
open Go.RowKit
set_option linter.unusedSimpArgs false
set_option linter.unusedVariables false
attribute [local irreducible] wpQuiet wpQE

@[go_sem ↓] theorem xbuildDual (ρ : Operand → Value) (dst : Option Tmp) (a b : Operand) (ty : TypeId) (pos : String) (after : Array Edge) (guard : Option (Nat × Bool)) (w : World) :
    (execOp ρ ⟨dst, .build 142 #[(0, a), (1, b)], ty, pos, after, guard⟩).run Tryz.prog w = buildS Tryz.prog 142 #[(0, ρ a), (1, ρ b)] w := by kernel_rfl
set_option maxRecDepth 100000 in
@[go_sem] theorem buildDual (p n : Int) (f : Nat → Int) (t : TypeId) (v : Value) (w : World) : buildS Tryz.prog 142 #[(0, .agg (hop p n f)), (1, .iface t v)] w = .ok (.value (.agg (hopx p n f #[.iface t v]))) w := by
  refine build_struct (fields := fieldsOf Tryz.prog 142) (places := #[(0, 1106), (1106, 1)]) (zc := hopx 0 0 zf #[.nilIface]) (by kernel_rfl) (by rw [hopx_z1]; kernel_rfl) (fun w => by kernel_rfl) ?_ w
  show Instr.fill _ _ [_, _] = _
  rw [fill_row (off := 0) (m := 1106) rfl (hop_size _ _ _) (by rw [hopx_size]; simp), lay_hopx, fill_cell (off := 1106) rfl rfl (by rw [hopx_size]; simp), hopx_set1]
  rfl

/-- S(e(i)) -/
def anR (f : Nat → Int) (i : Nat) : Nat → Int := fun t => anF f (i * 8 + t)
theorem anR_bytes {f : Nat → Int} (h : Bytes 1104 f) {i : Nat} (hi : i < 8) : Bytes 8 (anR f i) := fun t ht => an_bytes h _ (by omega)
theorem hop_anR (p n : Int) (f : Nat → Int) (i : Nat) (hi : i < 8) : (hop p n f).extract (1042 + i * 8) (1042 + i * 8 + 8) = row 8 (anR f i) := hop_anti8 p n f i hi
theorem hopx_anR (p n : Int) (f : Nat → Int) (xs : Array Value) (i : Nat) (hi : i < 8) : (hopx p n f xs).extract (1042 + i * 8) (1042 + i * 8 + 8) = row 8 (anR f i) := by rw [hopx_part _ _ _ _ (by omega), hop_anR p n f i hi]
/-- by the program -/
def duI (p : Int) (d : Nat) (f F : Nat → Int) (i j : Nat) : Nat → Int := fun t => flipF (actT p d F (anR f i)) (j * 8 + t)
theorem duI_row (p : Int) (d : Nat) (f F : Nat → Int) (i j : Nat) : row 8 (fun t => flipF (actT p d F (anR f i)) (j * 8 + t)) = row 8 (duI p d f F i j) := rfl
/-- by the reference model -/
def duG (p : Int) (n d : Nat) (f F : Nat → Int) (i j t : Nat) : Int := if t < d then timesF p d (act F) (anR f i) (ebas t) n j else 0
theorem du_same {p : Int} {n d : Nat} {f F : Nat → Int} (hS : ModS p n d F) (hn : n ≤ 8) (hd : d ≤ 8) {i j t : Nat} (hj : j < d) (ht : t < 8) : duI p d f F i j t = duG p n d f F i j t := by
  unfold duI duG flipF
  rw [show (j * 8 + t) % 8 = t by omega, show (j * 8 + t) / 8 = j by omega]
  by_cases h : t < d
  · rw [if_pos h, actT_times hS hn hd h (by omega)]
  · rw [if_neg h, actT_low (by omega) (by omega)]
/-- written up to i, k, j -/
def duP (p : Int) (n d : Nat) (f F : Nat → Int) (i k j : Nat) : Nat → Int := fun u => if (u / 8 % 8 < d ∧ u % 8 < d) ∧ (u / 64 < i ∨ (u / 64 = i ∧ (u % 8 < k ∨ (u % 8 = k ∧ u / 8 % 8 < j)))) then timesF p d (act F) (anR f (u / 64)) (ebas (u % 8)) n (u / 8 % 8) else 0
theorem dup_zero (e p : Int) (n d : Nat) (f F : Nat → Int) : mdl e zf = mdl e (duP p n d f F 0 0 0) := mdl_congr fun u _ => by unfold duP zf; rw [if_neg (by omega)]
theorem dup_step {e p : Int} {n d : Nat} {f F : Nat → Int} {i k j : Nat} (hi : i < 8) (hk : k < d) (hj : j < d) (hd : d ≤ 8) : (mdl e (duP p n d f F i k j)).setIfInBounds (1 + i * 64 + j * 8 + k) (.int .u8 (timesF p d (act F) (anR f i) (ebas k) n j)) = mdl e (duP p n d f F i k (j + 1)) := by
  rw [mdl_set _ _ hi (by omega) (by omega)]
  refine mdl_congr fun u hu => ?_
  unfold upd
  by_cases h : u = i * 64 + (j * 8 + k)
  · rw [if_pos h]
    unfold duP
    rw [if_pos (by omega), show u / 64 = i by omega, show u % 8 = k by omega, show u / 8 % 8 = j by omega]
  · rw [if_neg h]
    unfold duP
    exact ifj (by omega) _
theorem dup_row {e p : Int} {n d : Nat} {f F : Nat → Int} {i k : Nat} : mdl e (duP p n d f F i k d) = mdl e (duP p n d f F i (k + 1) 0) := mdl_congr fun u hu => by
  unfold duP
  exact ifj (by omega) _
theorem dup_map {e p : Int} {n d : Nat} {f F : Nat → Int} {i : Nat} : mdl e (duP p n d f F i d 0) = mdl e (duP p n d f F (i + 1) 0 0) := mdl_congr fun u hu => by
  unfold duP
  exact ifj (by omega) _
theorem dup_end {e p : Int} {n d : Nat} {f F : Nat → Int} : mdl e (duP p n d f F n 0 0) = mdl e (finM n d (duG p n d f F)) := mdl_congr fun u hu => by
  unfold duP finM duG
  by_cases h : u / 64 < n ∧ u / 8 % 8 < d
  · rw [if_pos h]
    exact ifj (by omega) _
  · rw [if_neg h, if_neg (by omega)]

set_option maxRecDepth 100000 in
set_option maxHeartbeats 1000000 in
theorem ddim_any (p : Int) (n d : Nat) (f F : Nat → Int) (w : World)  :
    Calls Tryz.prog 241 #[.agg (hopx p n f #[.iface 41 (.agg (mdl d F))])] w fun e w' => e = .returned (.int .i64 d) ∧ Below w.heap.size w w' := by
 go_enter Tryz.func241, Tryz.ntmps241
 go_wp2_with fail
 refine atomC fun W1 e1 => ?_
 have hb1 : Below w.heap.size w W1 := by rw [e1]; exact bt
 have q1 := hb1.size
 clear e1
 refine (mdim_any d F _).mono ?_; rintro _ W2 ⟨rfl, hw2⟩
 obtain ⟨hb2, q2⟩ := bN hb1 hw2
 clear hw2 hb1
 go_wp2_with fail
 go_ret
 exact ⟨rfl, bt⟩

set_option maxRecDepth 100000 in
set_option maxHeartbeats 1000000 in
theorem dimage_any (p : Int) (n d i j : Nat) (f F : Nat → Int) (w : World) (hp : 0 < p) (hp' : p ≤ 255) (hn : n ≤ 8) (hd : d ≤ 8) (hf : Bytes 1104 f) (hF : Bytes 512 F) (hi : i < 8) (hj : j < 8) :
    Calls Tryz.prog 242 #[.agg (hopx p n f #[.iface 41 (.agg (mdl d F))]), .int .i64 i, .int .i64 j] w fun e w' => e = .returned (.agg (row 8 (duI p d f F i j))) ∧ Below w.heap.size w w' := by
 have Hf := Lib.hid hf; clear hf
 have HF := Lib.hid hF; clear hF
 have i8 : (i : Int) < 8 := by omega
 have j8 : (j : Int) < 8 := by omega
 have e1 := hopx_anR p n f #[.iface 41 (.agg (mdl d F))] i hi
 have HA := Lib.hid (anR_bytes Hf.out hi)
 have HT := Lib.hid (actT_bytes hp hp' d F (anR f i))
 have l1 : 1042 + i * 8 + 8 ≤ 1106 := by omega
 have l2 : 1042 + i * 8 + 8 ≤ 1107 := by omega
 have l3 : j * 8 + 8 ≤ 64 := by omega
 go_enter Tryz.func242, Tryz.ntmps242
 go_wp2
 refine atomW fun W1 e1 => ?_
 have hb1 : Below w.heap.size w W1 := by rw [e1]; exact bt
 have q1 := hb1.size
 have R1 : IsRow W1 (w.heap.size) ∧ IsRow W1 (w.heap.size + 1) := by rw [e1]; simp [go_sem]
 obtain ⟨r3_1, r6_1⟩ := R1
 have C1 := (⟨congrArg (blk · (w.heap.size)) e1, congrArg (blk · (w.heap.size + 1)) e1⟩ : _ ∧ _); simp [go_sem] at C1
 obtain ⟨c3_1, c6_1⟩ := C1
 have z3_1 := isRow_lt r3_1; have z6_1 := isRow_lt r6_1
 clear e1
 refine wp_quiet_tail 14 (Below W1.heap.size W1) (by kernel_rfl) (by kernel_rfl) (Below.refl _ _).drew ?_
 simp only [List.take_succ_cons, List.take_zero, List.drop_succ_cons, List.drop_zero]
 iterate 10 (refine q_plain rfl ?_; apply Exists.intro; refine ⟨fun W hW => ?_, ?_⟩; (focus (obtain ⟨x3, y3⟩ := keepB hW z3_1 r3_1 c3_1; obtain ⟨x6, y6⟩ := keepB hW z6_1 r6_1 c6_1; go_simp; first | done | rfl)); simp only [Act.put, List.setIfInBounds_toArray, List.set_cons_zero, List.set_cons_succ])
 (refine q_plain rfl ?_; apply Exists.intro; refine ⟨fun W hW => ?_, ?_⟩; (focus (obtain ⟨x3, y3⟩ := keepB hW z3_1 r3_1 c3_1; obtain ⟨x6, y6⟩ := keepB hW z6_1 r6_1 c6_1; go_simp; (go_at_call 112; exact (actTable_any p d F (anR f i) _ hp hp' hd HF.out HA.out).mono fun e w2 ⟨he, hw2⟩ => ⟨he, hW.trans (hw2.mono hW.size)⟩))); simp only [Act.put, List.setIfInBounds_toArray, List.set_cons_zero, List.set_cons_succ])
 (refine q_plain rfl ?_; apply Exists.intro; refine ⟨fun W hW => ?_, ?_⟩; (focus (obtain ⟨x3, y3⟩ := keepB hW z3_1 r3_1 c3_1; obtain ⟨x6, y6⟩ := keepB hW z6_1 r6_1 c6_1; go_simp; (go_at_call 200; exact (flipLinear_any (actT p d F (anR f i)) _ HT.out).mono fun e w2 ⟨he, hw2⟩ => ⟨he, hW.trans (hw2.mono hW.size)⟩))); simp only [Act.put, List.setIfInBounds_toArray, List.set_cons_zero, List.set_cons_succ])
 iterate 2 (refine q_plain rfl ?_; apply Exists.intro; refine ⟨fun W hW => ?_, ?_⟩; (focus (obtain ⟨x3, y3⟩ := keepB hW z3_1 r3_1 c3_1; obtain ⟨x6, y6⟩ := keepB hW z6_1 r6_1 c6_1; go_simp; first | done | rfl)); simp only [Act.put, List.setIfInBounds_toArray, List.set_cons_zero, List.set_cons_succ])
 refine wpQuiet_nil ?_
 intro W2 hw2
 obtain ⟨r3_2, c3_2, z3_2⟩ := keepZ hw2 z3_1 r3_1 c3_1
 obtain ⟨r6_2, c6_2, z6_2⟩ := keepZ hw2 z6_1 r6_1 c6_1
 obtain ⟨hb2, q2⟩ := bN hb1 hw2
 clear hw2 r3_1 c3_1 z3_1 r6_1 c6_1 z6_1 hb1
 go_wp2_with fail
 refine bodyPost_ret (result_cell rfl aggVec _ _ (row 8 (duI p d f F i j)) _ rfl ?_ ?_) rfl ⟨rfl, ?_⟩
 · simp [go_sem, r3_2, c3_2, r6_2, c6_2, duI_row]
 · simp [go_sem, r3_2, c3_2, r6_2, c6_2, duI_row]
 · exact bt

set_option maxRecDepth 100000 in
set_option maxHeartbeats 1000000 in
theorem moduleOf_dual (p : Int) (n d : Nat) (f F : Nat → Int) (w : World) (hp : 0 < p) (hp' : p ≤ 255) (hn : n ≤ 8) (hd : d ≤ 8) (hf : Bytes 1104 f) (hF : Bytes 512 F) :
    Calls Tryz.prog 85 #[.agg (hop p n f), .iface 142 (.agg (hopx p n f #[.iface 41 (.agg (mdl d F))]))] w fun e w' => e = .returned (.agg (mdl d (finM n d (duI p d f F)))) ∧ Below w.heap.size w w' := by
 have Hf := Lib.hid hf; clear hf
 have HF := Lib.hid hF; clear hF
 go_enter Tryz.func85, Tryz.ntmps85
 go_wp2_with fail
 refine atomC fun W1 e1 => ?_
 have hb1 : Below w.heap.size w W1 := by rw [e1]; exact bt
 have q1 := hb1.size
 have R1 : IsRow W1 (w.heap.size) ∧ IsRow W1 (w.heap.size + 1) := by rw [e1]; simp [go_sem]
 obtain ⟨r2_1, r4_1⟩ := R1
 have C1 := (⟨congrArg (blk · (w.heap.size)) e1, congrArg (blk · (w.heap.size + 1)) e1⟩ : _ ∧ _); simp [go_sem] at C1
 obtain ⟨c2_1, c4_1⟩ := C1
 have z2_1 := isRow_lt r2_1; have z4_1 := isRow_lt r4_1
 clear e1
 refine (ddim_any p n d f F _).mono ?_; rintro _ W2 ⟨rfl, hw2⟩
 obtain ⟨r2_2, c2_2, z2_2⟩ := keepZ hw2 z2_1 r2_1 c2_1
 obtain ⟨r4_2, c4_2, z4_2⟩ := keepZ hw2 z4_1 r4_1 c4_1
 obtain ⟨hb2, q2⟩ := bN hb1 hw2
 clear hw2 r2_1 c2_1 z2_1 r4_1 c4_1 z4_1 hb1
 go_wp2
 have nw4_W2_0 : (w.heap.size + 1) ≠ W2.heap.size := by omega
 refine atomW fun W3 e3 => ?_
 have hb3 : Below w.heap.size w W3 := by rw [e3]; exact bt
 have q3 := hb3.size
 have R3 : IsRow W3 (w.heap.size + 1) ∧ IsRow W3 (W2.heap.size) := by rw [e3]; simp [go_sem, r4_2, c4_2, nw4_W2_0, r2_2]
 obtain ⟨r4_3, r5_3⟩ := R3
 have C3 := (⟨congrArg (blk · (w.heap.size + 1)) e3, congrArg (blk · (W2.heap.size)) e3⟩ : _ ∧ _); simp [go_sem, r4_2, c4_2, nw4_W2_0, r2_2] at C3
 obtain ⟨c4_3, c5_3⟩ := C3
 have z4_3 := isRow_lt r4_3; have z5_3 := isRow_lt r5_3
 have n4_5 : (w.heap.size + 1) ≠ (W2.heap.size) := by omega
 have n5_4 : (W2.heap.size) ≠ (w.heap.size + 1) := by omega
 clear e3 nw4_W2_0 r4_2 c4_2 z4_2 hb2
 go_loopw [13] (fun s13 wr => ∃ i : Nat, i ≤ n ∧ s13 = .int .i64 i ∧ Below w.heap.size w wr ∧ (IsRow wr (w.heap.size + 1) ∧ blk wr (w.heap.size + 1) = blk W3 (w.heap.size + 1)) ∧ (IsRow wr (W2.heap.size) ∧ blk wr (W2.heap.size) = mdl d (finK d (duI p d f F) i 0))) (fun s13 _ => n - (intOf s13).toNat)
 case atStart => exact ⟨0, by omega, rfl, hb3, ⟨r4_3, rfl⟩, ⟨r5_3, c5_3.trans (fin_zero d d (duI p d f F))⟩⟩
 case round =>
  obtain ⟨i, hle4, rfl, hb4, ⟨r4_4, c4_4⟩, ⟨r5_4, c5_4⟩⟩ := hrel
  obtain ⟨W4, rfl⟩ : ∃ W4 : World, W4 = wr := ⟨_, rfl⟩
  have q4 := hb4.size
  have E4_4 := Lib.hid c4_3; replace c4_4 := c4_4.trans c4_3
  have z4_4 := isRow_lt r4_4
  have z5_4 := isRow_lt r5_4
  clear r4_3 c4_3 z4_3 r5_3 c5_3 z5_3 hb3
  by_cases hlt4 : i < n
  ·
   have i0_4 : (0 : Int) ≤ (i : Int) := by omega
   have i8_4 : (i : Int) < 8 := by omega
   have k8_4 : i < 8 := by omega
   have m8_4 : i * 8 + 8 ≤ 64 := by omega
   have m64_4 : i * 64 + 64 ≤ 512 := by omega
   have l1_4 : 10 + i * 64 + 64 ≤ 522 := by omega
   go_wp2_with fail
   refine (ddim_any p n d f F _).mono ?_; rintro _ W5 ⟨rfl, hw5⟩
   obtain ⟨r4_5, c4_5, z4_5⟩ := keepZ hw5 z4_4 r4_4 c4_4
   obtain ⟨r5_5, c5_5, z5_5⟩ := keepZ hw5 z5_4 r5_4 c5_4
   obtain ⟨hb5, q5⟩ := bN hb4 hw5
   clear hw5 r4_4 c4_4 z4_4 r5_4 c5_4 z5_4 hb4
   go_wp2
   go_loopw [18] (fun s18 wr => ∃ j : Nat, j ≤ d ∧ s18 = .int .i64 j ∧ Below w.heap.size w wr ∧ (IsRow wr (w.heap.size + 1) ∧ blk wr (w.heap.size + 1) = blk W5 (w.heap.size + 1)) ∧ (IsRow wr (W2.heap.size) ∧ blk wr (W2.heap.size) = mdl d (finK d (duI p d f F) i j))) (fun s18 _ => d - (intOf s18).toNat)
   case atStart => exact ⟨0, by omega, rfl, hb5, ⟨r4_5, rfl⟩, ⟨r5_5, c5_5⟩⟩
   case round =>
    obtain ⟨j, hle6, rfl, hb6, ⟨r4_6, c4_6⟩, ⟨r5_6, c5_6⟩⟩ := hrel
    obtain ⟨W6, rfl⟩ : ∃ W6 : World, W6 = wr := ⟨_, rfl⟩
    have q6 := hb6.size
    have E4_6 := Lib.hid c4_5; replace c4_6 := c4_6.trans c4_5
    have z4_6 := isRow_lt r4_6
    have z5_6 := isRow_lt r5_6
    clear r4_5 c4_5 z4_5 r5_5 c5_5 z5_5 hb5
    by_cases hlt6 : j < d
    ·
     have i0_6 : (0 : Int) ≤ (j : Int) := by omega
     have i8_6 : (j : Int) < 8 := by omega
     have k8_6 : j < 8 := by omega
     have m8_6 : j * 8 + 8 ≤ 64 := by omega
     have m64_6 : j * 64 + 64 ≤ 512 := by omega
     have l1_6 : 10 + j * 64 + 64 ≤ 522 := by omega
     have l2_6i : 10 + i * 64 + j * 8 + 8 ≤ 522 := by omega
     have l3_6i : 10 + j * 64 + i * 8 + 8 ≤ 522 := by omega
     have l4_6i : i * 64 + j * 8 + 8 ≤ 512 := by omega
     have l5_6i : j * 64 + i * 8 + 8 ≤ 512 := by omega
     have l6_6i : i * 8 + j < 64 := by omega
     have l7_6i : j * 8 + i < 64 := by omega
     have l6 : 1 + i * 64 + 64 ≤ 513 := by omega
     have l7 : 1 + i * 64 + j * 8 + 8 ≤ 513 := by omega
     go_wp2
     refine wp_quiet_tail 9 (Below W6.heap.size W6) (by kernel_rfl) (by kernel_rfl) (Below.refl _ _).drew ?_
     simp only [List.take_succ_cons, List.take_zero, List.drop_succ_cons, List.drop_zero]
     iterate 5 (refine q_plain rfl ?_; apply Exists.intro; refine ⟨fun W hW => ?_, ?_⟩; (focus (obtain ⟨x4, y4⟩ := keepB hW z4_6 r4_6 c4_6; obtain ⟨x5, y5⟩ := keepB hW z5_6 r5_6 c5_6; go_simp; first | done | rfl)); simp only [Act.put, List.setIfInBounds_toArray, List.set_cons_zero, List.set_cons_succ])
     (refine q_plain rfl ?_; apply Exists.intro; refine ⟨fun W hW => ?_, ?_⟩; (focus (obtain ⟨x4, y4⟩ := keepB hW z4_6 r4_6 c4_6; obtain ⟨x5, y5⟩ := keepB hW z5_6 r5_6 c5_6; go_simp; (go_at_call 242; exact (dimage_any p n d i j f F _ hp hp' hn hd Hf.out HF.out (by omega) (by omega)).mono fun e w2 ⟨he, hw2⟩ => ⟨he, hW.trans (hw2.mono hW.size)⟩))); simp only [Act.put, List.setIfInBounds_toArray, List.set_cons_zero, List.set_cons_succ])
     iterate 3 (refine q_plain rfl ?_; apply Exists.intro; refine ⟨fun W hW => ?_, ?_⟩; (focus (obtain ⟨x4, y4⟩ := keepB hW z4_6 r4_6 c4_6; obtain ⟨x5, y5⟩ := keepB hW z5_6 r5_6 c5_6; go_simp; first | done | rfl)); simp only [Act.put, List.setIfInBounds_toArray, List.set_cons_zero, List.set_cons_succ])
     refine wpQuiet_nil ?_
     intro W7 hw7
     obtain ⟨r4_7, c4_7, z4_7⟩ := keepZ hw7 z4_6 r4_6 c4_6
     obtain ⟨r5_7, c5_7, z5_7⟩ := keepZ hw7 z5_6 r5_6 c5_6
     obtain ⟨hb7, q7⟩ := bN hb6 hw7
     clear hw7 r4_6 c4_6 z4_6 r5_6 c5_6 z5_6 hb6
     go_wp2
     go_roundw
     case rel => exact ⟨j + 1, by omega, by go_num, bt, ⟨by simp [go_sem, r4_7, c4_7, n4_5, r5_7, c5_7, n5_4], (by rw [E4_6.out]; first | exact c4_7 | (simp [go_sem, r4_7, c4_7, n4_5, r5_7, c5_7, n5_4]; done))⟩, ⟨by simp [go_sem, r4_7, c4_7, n4_5, r5_7, c5_7, n5_4], (by first | (rw [blk_setRow _ _ _ _ r5_7, if_pos rfl]; exact fin_step (by omega) (by omega) (by omega)) | exact (c5_7).trans (fin_step (by omega) (by omega) (by omega)) | (simp [go_sem, r4_7, c4_7, n4_5, r5_7, c5_7, n5_4]; exact fin_step (by omega) (by omega) (by omega)))⟩⟩
     case measure => simp [intOf]; try omega
    ·
     obtain rfl : d = j := by omega
     go_wp2
     go_roundw
     case rel => exact ⟨i + 1, by omega, by go_num, bt, ⟨by simp [go_sem, r4_6, c4_6, n4_5, r5_6, c5_6, n5_4], (by rw [E4_4.out]; first | exact c4_6 | (simp [go_sem, r4_6, c4_6, n4_5, r5_6, c5_6, n5_4]; done))⟩, ⟨by simp [go_sem, r4_6, c4_6, n4_5, r5_6, c5_6, n5_4], (by first | exact (c5_6).trans (fin_row _ _ _ _) | (simp [go_sem, r4_6, c4_6, n4_5, r5_6, c5_6, n5_4]; exact fin_row _ _ _ _))⟩⟩
     case measure => simp [intOf]; try omega
  ·
   obtain rfl : n = i := by omega
   rw [fin_end] at c5_4
   go_wp2_with fail
   refine bodyPost_ret (result_cell rfl aggMod _ _ (mdl d (finM n d (duI p d f F))) _ rfl ?_ ?_) rfl ⟨rfl, ?_⟩
   · simp [go_sem, r4_4, c4_4, n4_5, r5_4, c5_4, n5_4]
   · simp [go_sem, r4_4, c4_4, n4_5, r5_4, c5_4, n5_4]
   · exact bt

set_option maxRecDepth 100000 in
set_option maxHeartbeats 1000000 in
theorem dualModule_any (p : Int) (n d : Nat) (f F : Nat → Int) (w : World) (hp : 0 < p) (hp' : p ≤ 255) (hn : n ≤ 8) (hd : d ≤ 8) (hf : Bytes 1104 f) (hF : Bytes 512 F) :
    Calls Tryz.prog 64 #[.agg (hop p n f), .iface 41 (.agg (mdl d F))] w fun e w' => e = .returned (.agg (mdl d (finM n d (duI p d f F)))) ∧ Below w.heap.size w w' := by
 have Hf := Lib.hid hf; clear hf
 have HF := Lib.hid hF; clear hF
 go_enter Tryz.func64, Tryz.ntmps64
 go_wp2_with fail
 refine atomC fun W1 e1 => ?_
 have hb1 : Below w.heap.size w W1 := by rw [e1]; exact bt
 have q1 := hb1.size
 have r4_1 : IsRow W1 (w.heap.size + 1) := by rw [e1]; simp [go_sem]
 have c4_1 := congrArg (fun x => blk x (w.heap.size + 1)) e1; simp [go_sem] at c4_1
 have z4_1 := isRow_lt r4_1
 clear e1
 refine (moduleOf_dual p n d f F _ hp hp' hn hd Hf.out HF.out).mono ?_; rintro _ W2 ⟨rfl, hw2⟩
 obtain ⟨r4_2, c4_2, z4_2⟩ := keepZ hw2 z4_1 r4_1 c4_1
 obtain ⟨hb2, q2⟩ := bN hb1 hw2
 clear hw2 r4_1 c4_1 z4_1 hb1
 go_wp2_with fail
 refine bodyPost_ret (result_cell rfl aggMod _ _ (mdl d (finM n d (duI p d f F))) _ rfl ?_ ?_) rfl ⟨rfl, ?_⟩
 · simp [go_sem, r4_2, c4_2]
 · simp [go_sem, r4_2, c4_2]
 · exact bt

set_option maxRecDepth 100000 in
set_option maxHeartbeats 1000000 in
theorem ofModule_du (p n : Int) (f : Nat → Int) (d : Int) (F : Nat → Int) (w : World) (hf : Bytes 1104 f) (hF : Bytes 512 F) :
    Calls Tryz.prog 63 #[.agg (hop p n f), .agg (mdl d F), .func (.func 64) #[] #[]] w fun e w' => e = .returned (.tuple #[.agg (mdl (onlyI (hm1 p n f d F) d) (onlyF (hm1 p n f d F) (finM n.toNat d.toNat (duG p n.toNat d.toNat f F)))), .int .i64 (codeB (hm1 p n f d F))]) ∧ Below w.heap.size w w' := by
 have Hf := Lib.hid hf; clear hf
 have HF := Lib.hid hF; clear hF
 cases hc : hm1 p n f d F
 ·
  go_enter Tryz.func63, Tryz.ntmps63
  go_wp2_with fail
  refine atomC fun W1 e1 => ?_
  have hb1 : Below w.heap.size w W1 := by rw [e1]; exact bt
  have q1 := hb1.size
  have R1 : IsRow W1 (w.heap.size) ∧ IsRow W1 (w.heap.size + 1) ∧ IsRow W1 (w.heap.size + 2) ∧ IsRow W1 (w.heap.size + 3) := by rw [e1]; simp [go_sem]
  obtain ⟨r3_1, r4_1, r6_1, r11_1⟩ := R1
  have C1 := (⟨congrArg (blk · (w.heap.size)) e1, congrArg (blk · (w.heap.size + 1)) e1, congrArg (blk · (w.heap.size + 2)) e1, congrArg (blk · (w.heap.size + 3)) e1⟩ : _ ∧ _ ∧ _ ∧ _); simp [go_sem] at C1
  obtain ⟨c3_1, c4_1, c6_1, c11_1⟩ := C1
  have z3_1 := isRow_lt r3_1; have z4_1 := isRow_lt r4_1; have z6_1 := isRow_lt r6_1; have z11_1 := isRow_lt r11_1
  clear e1
  refine (areMod1 p n f d F _ _ Hf.out HF.out r11_1 c11_1).mono ?_; rintro _ W2 ⟨rfl, hw2⟩
  obtain ⟨r3_2, c3_2, z3_2⟩ := keepZ hw2 z3_1 r3_1 c3_1
  obtain ⟨r4_2, c4_2, z4_2⟩ := keepZ hw2 z4_1 r4_1 c4_1
  obtain ⟨r6_2, c6_2, z6_2⟩ := keepZ hw2 z6_1 r6_1 c6_1
  obtain ⟨r11_2, c11_2, z11_2⟩ := keepZ hw2 z11_1 r11_1 c11_1
  obtain ⟨hb2, q2⟩ := bN hb1 hw2
  clear hw2 r3_1 c3_1 z3_1 r4_1 c4_1 z4_1 r6_1 c6_1 z6_1 r11_1 c11_1 z11_1 hb1
  have nw3_W2_0 : (w.heap.size) ≠ W2.heap.size := by omega
  have nw4_W2_0 : (w.heap.size + 1) ≠ W2.heap.size := by omega
  have nw6_W2_0 : (w.heap.size + 2) ≠ W2.heap.size := by omega
  have nw11_W2_0 : (w.heap.size + 3) ≠ W2.heap.size := by omega
  go_wp2_with fail
  refine bodyPost_ret (result_cell_tmp rfl aggMod _ _ (mdl 0 zf) _ _ rfl rfl ?_ ?_) rfl ⟨by rfl, ?_⟩
  · simp [go_sem, r3_2, c3_2, r4_2, c4_2, r6_2, c6_2, r11_2, c11_2, nw3_W2_0, nw4_W2_0, nw6_W2_0, nw11_W2_0]
  · simp [go_sem, r3_2, c3_2, r4_2, c4_2, r6_2, c6_2, r11_2, c11_2, nw3_W2_0, nw4_W2_0, nw6_W2_0, nw11_W2_0]
  · exact bt
 ·
  have hh := (hm1_parts hc).1
  have hmm := (hm1_parts hc).2
  obtain ⟨hp2, hp31, hn1, hn8⟩ := sizes_range (hopf_sizes hh)
  obtain ⟨n, rfl⟩ := Int.eq_ofNat_of_zero_le (show 0 ≤ n by omega)
  have hp : 0 < p := by omega
  have hp' : p ≤ 255 := by omega
  have hn : n ≤ 8 := by omega
  have HH := Lib.hid hh
  rw [Int.toNat_natCast] at hmm
  obtain ⟨_, _, hd1, hd8⟩ := sizes_range (modB_sizes (hopf_sizes hh) hmm)
  obtain ⟨d, rfl⟩ := Int.eq_ofNat_of_zero_le (show 0 ≤ d by omega)
  have hd : d ≤ 8 := by omega
  have HS := Lib.hid (modB_shape HF.out hmm)
  clear hmm hh
  have HE := Lib.hid (fin_congr (e := d) (n := n) fun i j t _ hj ht => du_same (f := f) (i := i) HS.out hn hd hj ht)
  go_enter Tryz.func63, Tryz.ntmps63
  go_wp2_with fail
  refine atomC fun W3 e3 => ?_
  have hb3 : Below w.heap.size w W3 := by rw [e3]; exact bt
  have q3 := hb3.size
  have R3 : IsRow W3 (w.heap.size) ∧ IsRow W3 (w.heap.size + 1) ∧ IsRow W3 (w.heap.size + 2) ∧ IsRow W3 (w.heap.size + 3) := by rw [e3]; simp [go_sem]
  obtain ⟨r3_3, r4_3, r6_3, r11_3⟩ := R3
  have C3 := (⟨congrArg (blk · (w.heap.size)) e3, congrArg (blk · (w.heap.size + 1)) e3, congrArg (blk · (w.heap.size + 2)) e3, congrArg (blk · (w.heap.size + 3)) e3⟩ : _ ∧ _ ∧ _ ∧ _); simp [go_sem] at C3
  obtain ⟨c3_3, c4_3, c6_3, c11_3⟩ := C3
  have z3_3 := isRow_lt r3_3; have z4_3 := isRow_lt r4_3; have z6_3 := isRow_lt r6_3; have z11_3 := isRow_lt r11_3
  clear e3
  refine (areMod1 p n f d F _ _ Hf.out HF.out r11_3 c11_3).mono ?_; rintro _ W4 ⟨rfl, hw4⟩
  obtain ⟨r3_4, c3_4, z3_4⟩ := keepZ hw4 z3_3 r3_3 c3_3
  obtain ⟨r4_4, c4_4, z4_4⟩ := keepZ hw4 z4_3 r4_3 c4_3
  obtain ⟨r6_4, c6_4, z6_4⟩ := keepZ hw4 z6_3 r6_3 c6_3
  obtain ⟨r11_4, c11_4, z11_4⟩ := keepZ hw4 z11_3 r11_3 c11_3
  obtain ⟨hb4, q4⟩ := bN hb3 hw4
  clear hw4 r3_3 c3_3 z3_3 r4_3 c4_3 z4_3 r6_3 c6_3 z6_3 r11_3 c11_3 z11_3 hb3
  go_wp2_with fail
  refine (dualModule_any p n d f F _ hp hp' hn hd Hf.out HF.out).mono ?_; rintro _ W5 ⟨rfl, hw5⟩
  obtain ⟨r6_5, c6_5, z6_5⟩ := keepZ hw5 z6_4 r6_4 c6_4
  obtain ⟨hb5, q5⟩ := bN hb4 hw5
  clear hw5 r6_4 c6_4 z6_4 hb4
  go_wp2_with fail
  refine bodyPost_ret (result_cell_tmp rfl aggMod _ _ (mdl d (finM n d (duI p d f F))) _ _ rfl rfl ?_ ?_) rfl ⟨by rw [HE.out] <;> rfl, ?_⟩
  · simp [go_sem, r6_5, c6_5]
  · simp [go_sem, r6_5, c6_5]
  · exact bt

set_option maxRecDepth 100000 in
set_option maxHeartbeats 1000000 in
theorem implDual_any (p n : Int) (f : Nat → Int) (d : Int) (F : Nat → Int) (w : World) (hf : Bytes 1104 f) (hF : Bytes 512 F) :
    Calls Tryz.prog 24 #[.agg (hop p n f), .agg (mdl d F)] w fun e w' => e = .returned (.tuple #[.agg (mdl (onlyI (hm1 p n f d F) d) (onlyF (hm1 p n f d F) (finM n.toNat d.toNat (duG p n.toNat d.toNat f F)))), .int .i64 (codeB (hm1 p n f d F))]) ∧ Below w.heap.size w w' := by
 have Hf := Lib.hid hf; clear hf
 have HF := Lib.hid hF; clear hF
 go_enter Tryz.func24, Tryz.ntmps24
 go_wp2_with fail
 refine atomC fun W1 e1 => ?_
 have hb1 : Below w.heap.size w W1 := by rw [e1]; exact bt
 have q1 := hb1.size
 have r4_1 : IsRow W1 (w.heap.size + 2) := by rw [e1]; simp [go_sem]
 have c4_1 := congrArg (fun x => blk x (w.heap.size + 2)) e1; simp [go_sem] at c4_1
 have z4_1 := isRow_lt r4_1
 clear e1
 refine (ofModule_du _ _ _ _ _ _ Hf.out HF.out).mono ?_; rintro _ W2 ⟨rfl, hw2⟩
 obtain ⟨r4_2, c4_2, z4_2⟩ := keepZ hw2 z4_1 r4_1 c4_1
 obtain ⟨hb2, q2⟩ := bN hb1 hw2
 clear hw2 r4_1 c4_1 z4_1 hb1
 go_wp2_with fail
 refine bodyPost_ret (result_cell_tmp rfl aggMod _ _ (mdl (onlyI (hm1 p n f d F) d) (onlyF (hm1 p n f d F) (finM n.toNat d.toNat (duG p n.toNat d.toNat f F)))) _ _ rfl rfl ?_ ?_) rfl ⟨rfl, ?_⟩
 · simp [go_sem, r4_2, c4_2]
 · simp [go_sem, r4_2, c4_2]
 · exact bt

set_option maxRecDepth 100000 in
set_option maxHeartbeats 4000000 in
theorem specDual_any (p n : Int) (f : Nat → Int) (d : Int) (F : Nat → Int) (w : World) (hf : Bytes 1104 f) (hF : Bytes 512 F) :
    Calls Tryz.prog 23 #[.agg (hop p n f), .agg (mdl d F)] w fun e w' => e = .returned (.tuple #[.agg (mdl (onlyI (hm1 p n f d F) d) (onlyF (hm1 p n f d F) (finM n.toNat d.toNat (duG p n.toNat d.toNat f F)))), .int .i64 (codeB (hm1 p n f d F))]) ∧ Below w.heap.size w w' := by
 have Hf := Lib.hid hf; clear hf
 have HF := Lib.hid hF; clear hF
 cases hc : hm1 p n f d F
 ·
  have hc1 : codeB false = 1 := rfl
  go_enter Tryz.func23, Tryz.ntmps23
  go_wp2_with fail
  refine atomC fun W1 e1 => ?_
  have hb1 : Below w.heap.size w W1 := by rw [e1]; exact bt
  have q1 := hb1.size
  have R1 : IsRow W1 (w.heap.size) ∧ IsRow W1 (w.heap.size + 1) ∧ IsRow W1 (w.heap.size + 2) ∧ IsRow W1 (w.heap.size + 3) := by rw [e1]; simp [go_sem]
  obtain ⟨r2_1, r3_1, r4_1, r14_1⟩ := R1
  have C1 := (⟨congrArg (blk · (w.heap.size)) e1, congrArg (blk · (w.heap.size + 1)) e1, congrArg (blk · (w.heap.size + 2)) e1, congrArg (blk · (w.heap.size + 3)) e1⟩ : _ ∧ _ ∧ _ ∧ _); simp [go_sem] at C1
  obtain ⟨c2_1, c3_1, c4_1, c14_1⟩ := C1
  have z2_1 := isRow_lt r2_1; have z3_1 := isRow_lt r3_1; have z4_1 := isRow_lt r4_1; have z14_1 := isRow_lt r14_1
  clear e1
  refine (code1 p n f d F _ _ Hf.out HF.out r14_1 c14_1).mono ?_; rintro _ W2 ⟨rfl, hw2⟩
  obtain ⟨r2_2, c2_2, z2_2⟩ := keepZ hw2 z2_1 r2_1 c2_1
  obtain ⟨r3_2, c3_2, z3_2⟩ := keepZ hw2 z3_1 r3_1 c3_1
  obtain ⟨r4_2, c4_2, z4_2⟩ := keepZ hw2 z4_1 r4_1 c4_1
  obtain ⟨r14_2, c14_2, z14_2⟩ := keepZ hw2 z14_1 r14_1 c14_1
  obtain ⟨hb2, q2⟩ := bN hb1 hw2
  clear hw2 r2_1 c2_1 z2_1 r3_1 c3_1 z3_1 r4_1 c4_1 z4_1 r14_1 c14_1 z14_1 hb1
  go_wp2_with fail
  refine bodyPost_ret (result_cell_tmp rfl aggMod _ _ (mdl 0 zf) _ _ rfl rfl ?_ ?_) rfl ⟨by rfl, ?_⟩
  · simp [go_sem, r2_2, c2_2, r3_2, c3_2, r4_2, c4_2, r14_2, c14_2]
  · simp [go_sem, r2_2, c2_2, r3_2, c3_2, r4_2, c4_2, r14_2, c14_2]
  · exact bt
 ·
  have hh := (hm1_parts hc).1
  have hmm := (hm1_parts hc).2
  obtain ⟨hp2, hp31, hn1, hn8⟩ := sizes_range (hopf_sizes hh)
  obtain ⟨n, rfl⟩ := Int.eq_ofNat_of_zero_le (show 0 ≤ n by omega)
  have hp : 0 < p := by omega
  have hp' : p ≤ 255 := by omega
  have hn : n ≤ 8 := by omega
  have HH := Lib.hid hh
  rw [Int.toNat_natCast] at hmm
  obtain ⟨_, _, hd1, hd8⟩ := sizes_range (modB_sizes (hopf_sizes hh) hmm)
  obtain ⟨d, rfl⟩ := Int.eq_ofNat_of_zero_le (show 0 ≤ d by omega)
  have hd : d ≤ 8 := by omega
  have HS := Lib.hid (modB_shape HF.out hmm)
  clear hmm hh
  have hc1 : codeB true = 0 := rfl
  go_enter Tryz.func23, Tryz.ntmps23
  go_wp2_with fail
  refine atomC fun W3 e3 => ?_
  have hb3 : Below w.heap.size w W3 := by rw [e3]; exact bt
  have q3 := hb3.size
  have R3 : IsRow W3 (w.heap.size) ∧ IsRow W3 (w.heap.size + 1) ∧ IsRow W3 (w.heap.size + 2) ∧ IsRow W3 (w.heap.size + 3) := by rw [e3]; simp [go_sem]
  obtain ⟨r2_3, r3_3, r4_3, r14_3⟩ := R3
  have C3 := (⟨congrArg (blk · (w.heap.size)) e3, congrArg (blk · (w.heap.size + 1)) e3, congrArg (blk · (w.heap.size + 2)) e3, congrArg (blk · (w.heap.size + 3)) e3⟩ : _ ∧ _ ∧ _ ∧ _); simp [go_sem] at C3
  obtain ⟨c2_3, c3_3, c4_3, c14_3⟩ := C3
  have z2_3 := isRow_lt r2_3; have z3_3 := isRow_lt r3_3; have z4_3 := isRow_lt r4_3; have z14_3 := isRow_lt r14_3
  clear e3
  refine (code1 p n f d F _ _ Hf.out HF.out r14_3 c14_3).mono ?_; rintro _ W4 ⟨rfl, hw4⟩
  obtain ⟨r2_4, c2_4, z2_4⟩ := keepZ hw4 z2_3 r2_3 c2_3
  obtain ⟨r3_4, c3_4, z3_4⟩ := keepZ hw4 z3_3 r3_3 c3_3
  obtain ⟨r4_4, c4_4, z4_4⟩ := keepZ hw4 z4_3 r4_3 c4_3
  obtain ⟨r14_4, c14_4, z14_4⟩ := keepZ hw4 z14_3 r14_3 c14_3
  obtain ⟨hb4, q4⟩ := bN hb3 hw4
  clear hw4 r2_3 c2_3 z2_3 r3_3 c3_3 z3_3 r4_3 c4_3 z4_3 r14_3 c14_3 z14_3 hb3
  go_wp2
  have nw2_W4_0 : (w.heap.size) ≠ W4.heap.size := by omega
  have nw3_W4_0 : (w.heap.size + 1) ≠ W4.heap.size := by omega
  have nw4_W4_0 : (w.heap.size + 2) ≠ W4.heap.size := by omega
  refine atomW fun W5 e5 => ?_
  have hb5 : Below w.heap.size w W5 := by rw [e5]; exact bt
  have q5 := hb5.size
  have R5 : IsRow W5 (w.heap.size) ∧ IsRow W5 (w.heap.size + 1) ∧ IsRow W5 (w.heap.size + 2) ∧ IsRow W5 (W4.heap.size) := by rw [e5]; simp [go_sem, r2_4, c2_4, r3_4, c3_4, r4_4, c4_4, nw2_W4_0, nw3_W4_0, nw4_W4_0, r14_4]
  obtain ⟨r2_5, r3_5, r4_5, r7_5⟩ := R5
  have C5 := (⟨congrArg (blk · (w.heap.size)) e5, congrArg (blk · (w.heap.size + 1)) e5, congrArg (blk · (w.heap.size + 2)) e5, congrArg (blk · (W4.heap.size)) e5⟩ : _ ∧ _ ∧ _ ∧ _); simp [go_sem, r2_4, c2_4, r3_4, c3_4, r4_4, c4_4, nw2_W4_0, nw3_W4_0, nw4_W4_0, r14_4] at C5
  obtain ⟨c2_5, c3_5, c4_5, c7_5⟩ := C5
  have z2_5 := isRow_lt r2_5; have z3_5 := isRow_lt r3_5; have z4_5 := isRow_lt r4_5; have z7_5 := isRow_lt r7_5
  have n2_7 : (w.heap.size) ≠ (W4.heap.size) := by omega
  have n3_7 : (w.heap.size + 1) ≠ (W4.heap.size) := by omega
  have n4_7 : (w.heap.size + 2) ≠ (W4.heap.size) := by omega
  have n7_2 : (W4.heap.size) ≠ (w.heap.size) := by omega
  have n7_3 : (W4.heap.size) ≠ (w.heap.size + 1) := by omega
  have n7_4 : (W4.heap.size) ≠ (w.heap.size + 2) := by omega
  clear e5 nw2_W4_0 nw3_W4_0 nw4_W4_0 r2_4 c2_4 z2_4 r3_4 c3_4 z3_4 r4_4 c4_4 z4_4 hb4
  go_loopw [8] (fun s8 wr => ∃ i : Nat, i ≤ n ∧ s8 = .int .i64 i ∧ Below w.heap.size w wr ∧ (IsRow wr (w.heap.size) ∧ blk wr (w.heap.size) = blk W5 (w.heap.size)) ∧ (IsRow wr (w.heap.size + 1) ∧ blk wr (w.heap.size + 1) = blk W5 (w.heap.size + 1)) ∧ (IsRow wr (w.heap.size + 2) ∧ blk wr (w.heap.size + 2) = blk W5 (w.heap.size + 2)) ∧ (IsRow wr (W4.heap.size) ∧ blk wr (W4.heap.size) = mdl d (duP p n d f F i 0 0))) (fun s8 _ => n - (intOf s8).toNat)
  case atStart => exact ⟨0, by omega, rfl, hb5, ⟨r2_5, rfl⟩, ⟨r3_5, rfl⟩, ⟨r4_5, rfl⟩, ⟨r7_5, c7_5.trans (dup_zero d p n d f F)⟩⟩
  case round =>
   obtain ⟨i, hle6, rfl, hb6, ⟨r2_6, c2_6⟩, ⟨r3_6, c3_6⟩, ⟨r4_6, c4_6⟩, ⟨r7_6, c7_6⟩⟩ := hrel
   obtain ⟨W6, rfl⟩ : ∃ W6 : World, W6 = wr := ⟨_, rfl⟩
   have q6 := hb6.size
   have E2_6 := Lib.hid c2_5; replace c2_6 := c2_6.trans c2_5
   have z2_6 := isRow_lt r2_6
   have E3_6 := Lib.hid c3_5; replace c3_6 := c3_6.trans c3_5
   have z3_6 := isRow_lt r3_6
   have E4_6 := Lib.hid c4_5; replace c4_6 := c4_6.trans c4_5
   have z4_6 := isRow_lt r4_6
   have z7_6 := isRow_lt r7_6
   clear r2_5 c2_5 z2_5 r3_5 c3_5 z3_5 r4_5 c4_5 z4_5 r7_5 c7_5 z7_5 hb5
   by_cases hlt6 : i < n
   ·
    have i0_6 : (0 : Int) ≤ (i : Int) := by omega
    have i8_6 : (i : Int) < 8 := by omega
    have k8_6 : i < 8 := by omega
    have m8_6 : i * 8 + 8 ≤ 64 := by omega
    have m64_6 : i * 64 + 64 ≤ 512 := by omega
    have l1_6 : 10 + i * 64 + 64 ≤ 522 := by omega
    have HA := Lib.hid (anR_bytes Hf.out (i := i) (by omega))
    have e1 := hop_anR p n f i (by omega)
    have l1 : 1042 + i * 8 + 8 ≤ 1106 := by omega
    go_wp2
    go_loopw [9] (fun s9 wr => ∃ k : Nat, k ≤ d ∧ s9 = .int .i64 k ∧ Below w.heap.size w wr ∧ (IsRow wr (w.heap.size) ∧ blk wr (w.heap.size) = blk W6 (w.heap.size)) ∧ (IsRow wr (w.heap.size + 1) ∧ blk wr (w.heap.size + 1) = blk W6 (w.heap.size + 1)) ∧ (IsRow wr (w.heap.size + 2) ∧ blk wr (w.heap.size + 2) = blk W6 (w.heap.size + 2)) ∧ (IsRow wr (W4.heap.size) ∧ blk wr (W4.heap.size) = mdl d (duP p n d f F i k 0))) (fun s9 _ => d - (intOf s9).toNat)
    case atStart => exact ⟨0, by omega, rfl, hb6, ⟨r2_6, rfl⟩, ⟨r3_6, rfl⟩, ⟨r4_6, rfl⟩, ⟨r7_6, c7_6⟩⟩
    case round =>
     obtain ⟨k, hle7, rfl, hb7, ⟨r2_7, c2_7⟩, ⟨r3_7, c3_7⟩, ⟨r4_7, c4_7⟩, ⟨r7_7, c7_7⟩⟩ := hrel
     obtain ⟨W7, rfl⟩ : ∃ W7 : World, W7 = wr := ⟨_, rfl⟩
     have q7 := hb7.size
     have E2_7 := Lib.hid c2_6; replace c2_7 := c2_7.trans c2_6
     have z2_7 := isRow_lt r2_7
     have E3_7 := Lib.hid c3_6; replace c3_7 := c3_7.trans c3_6
     have z3_7 := isRow_lt r3_7
     have E4_7 := Lib.hid c4_6; replace c4_7 := c4_7.trans c4_6
     have z4_7 := isRow_lt r4_7
     have z7_7 := isRow_lt r7_7
     clear r2_6 c2_6 z2_6 r3_6 c3_6 z3_6 r4_6 c4_6 z4_6 r7_6 c7_6 z7_6 hb6
     by_cases hlt7 : k < d
     ·
      have i0_7 : (0 : Int) ≤ (k : Int) := by omega
      have i8_7 : (k : Int) < 8 := by omega
      have k8_7 : k < 8 := by omega
      have m8_7 : k * 8 + 8 ≤ 64 := by omega
      have m64_7 : k * 64 + 64 ≤ 512 := by omega
      have l1_7 : 10 + k * 64 + 64 ≤ 522 := by omega
      have l2_7i : 10 + i * 64 + k * 8 + 8 ≤ 522 := by omega
      have l3_7i : 10 + k * 64 + i * 8 + 8 ≤ 522 := by omega
      have l4_7i : i * 64 + k * 8 + 8 ≤ 512 := by omega
      have l5_7i : k * 64 + i * 8 + 8 ≤ 512 := by omega
      have l6_7i : i * 8 + k < 64 := by omega
      have l7_7i : k * 8 + i < 64 := by omega
      go_wp2
      refine wp_quiet_alloc 9 _ (.cells (row 8 zf) 29) (Below W7.heap.size W7) (Made W7 (row 8 zf)) (by kernel_rfl) rfl rfl (by kernel_rfl) (fun a W => (xallocVec _ _ _ _ _ _ _).trans (allocVec W)) (closed_below W7) (closed_made W7 _) (fun b W h => h.1) (fun W h => made_new W7 _ _ W h) (Below.refl _ _).drew ?_
      simp only [List.take_succ_cons, List.take_zero, List.drop_succ_cons, List.drop_zero]
      iterate 7 (refine e_plain rfl ?_; apply Exists.intro; refine ⟨fun D hD hK W hW => ?_, ?_⟩; (focus (obtain ⟨x2, y2⟩ := keepB (hD W hW) z2_7 r2_7 c2_7; obtain ⟨x3, y3⟩ := keepB (hD W hW) z3_7 r3_7 c3_7; obtain ⟨x4, y4⟩ := keepB (hD W hW) z4_7 r4_7 c4_7; obtain ⟨x7, y7⟩ := keepB (hD W hW) z7_7 r7_7 c7_7; unfold Oper.quietAt; go_simp; first | done | rfl)); simp only [Act.put, List.setIfInBounds_toArray, List.set_cons_zero, List.set_cons_succ])
      (refine e_plain rfl ?_; apply Exists.intro; refine ⟨fun D hD hK W hW => ?_, ?_⟩; (focus (obtain ⟨x2, y2⟩ := keepB (hD W hW) z2_7 r2_7 c2_7; obtain ⟨x3, y3⟩ := keepB (hD W hW) z3_7 r3_7 c3_7; obtain ⟨x4, y4⟩ := keepB (hD W hW) z4_7 r4_7 c4_7; obtain ⟨x7, y7⟩ := keepB (hD W hW) z7_7 r7_7 c7_7; unfold Oper.quietAt; go_simp; (go_at_call 62; exact (l01BasisAt k (by omega) _).mono fun e w2 ⟨he, hw2⟩ => ⟨he, hK _ _ hW hw2⟩))); simp only [Act.put, List.setIfInBounds_toArray, List.set_cons_zero, List.set_cons_succ])
      (refine e_plain rfl ?_; apply Exists.intro; refine ⟨fun D hD hK W hW => ?_, ?_⟩; (focus (obtain ⟨x2, y2⟩ := keepB (hD W hW) z2_7 r2_7 c2_7; obtain ⟨x3, y3⟩ := keepB (hD W hW) z3_7 r3_7 c3_7; obtain ⟨x4, y4⟩ := keepB (hD W hW) z4_7 r4_7 c4_7; obtain ⟨x7, y7⟩ := keepB (hD W hW) z7_7 r7_7 c7_7; unfold Oper.quietAt; go_simp; (go_at_call 61; exact (l06Act_any p n d f F (anR f i) (ebas k) _ hp hp' hd HF.out hn HA.out (ebas_bytes k)).mono fun e w2 ⟨he, hw2⟩ => ⟨he, hK _ _ hW hw2⟩))); simp only [Act.put, List.setIfInBounds_toArray, List.set_cons_zero, List.set_cons_succ])
      refine e_nil ?_
      intro a8 W8 hW8
      obtain ⟨hw8, hl8, m1_8, m2_8⟩ := hW8
      have n2_10 : (w.heap.size) ≠ (a8) := by have := z2_7; omega
      have n10_2 : (a8) ≠ (w.heap.size) := by have := z2_7; omega
      have n3_10 : (w.heap.size + 1) ≠ (a8) := by have := z3_7; omega
      have n10_3 : (a8) ≠ (w.heap.size + 1) := by have := z3_7; omega
      have n4_10 : (w.heap.size + 2) ≠ (a8) := by have := z4_7; omega
      have n10_4 : (a8) ≠ (w.heap.size + 2) := by have := z4_7; omega
      have n7_10 : (W4.heap.size) ≠ (a8) := by have := z7_7; omega
      have n10_7 : (a8) ≠ (W4.heap.size) := by have := z7_7; omega
      obtain ⟨r2_8, c2_8, z2_8⟩ := keepZ hw8 z2_7 r2_7 c2_7
      obtain ⟨r3_8, c3_8, z3_8⟩ := keepZ hw8 z3_7 r3_7 c3_7
      obtain ⟨r4_8, c4_8, z4_8⟩ := keepZ hw8 z4_7 r4_7 c4_7
      obtain ⟨r7_8, c7_8, z7_8⟩ := keepZ hw8 z7_7 r7_7 c7_7
      obtain ⟨hb8, q8⟩ := bN hb7 hw8
      clear hw8 r2_7 c2_7 z2_7 r3_7 c3_7 z3_7 r4_7 c4_7 z4_7 r7_7 c7_7 z7_7 hb7
      have z10_8 := isRow_lt m1_8
      simp only [Act.put, List.setIfInBounds_toArray, List.set_cons_zero, List.set_cons_succ]
      go_wp2
      refine atomW fun W9 e9 => ?_
      have hb9 : Below w.heap.size w W9 := by rw [e9]; exact bt
      have q9 := hb9.size
      have R9 : IsRow W9 (w.heap.size) ∧ IsRow W9 (w.heap.size + 1) ∧ IsRow W9 (w.heap.size + 2) ∧ IsRow W9 (W4.heap.size) ∧ IsRow W9 (a8) := by rw [e9]; simp [go_sem, r2_8, c2_8, n2_7, n2_10, r3_8, c3_8, n3_7, n3_10, r4_8, c4_8, n4_7, n4_10, r7_8, c7_8, n7_2, n7_3, n7_4, n7_10, m1_8, m2_8, n10_2, n10_3, n10_4, n10_7]
      obtain ⟨r2_9, r3_9, r4_9, r7_9, r10_9⟩ := R9
      have C9 := (⟨congrArg (blk · (w.heap.size)) e9, congrArg (blk · (w.heap.size + 1)) e9, congrArg (blk · (w.heap.size + 2)) e9, congrArg (blk · (W4.heap.size)) e9, congrArg (blk · (a8)) e9⟩ : _ ∧ _ ∧ _ ∧ _ ∧ _); simp [go_sem, r2_8, c2_8, n2_7, n2_10, r3_8, c3_8, n3_7, n3_10, r4_8, c4_8, n4_7, n4_10, r7_8, c7_8, n7_2, n7_3, n7_4, n7_10, m1_8, m2_8, n10_2, n10_3, n10_4, n10_7] at C9
      obtain ⟨c2_9, c3_9, c4_9, c7_9, c10_9⟩ := C9
      have z2_9 := isRow_lt r2_9; have z3_9 := isRow_lt r3_9; have z4_9 := isRow_lt r4_9; have z7_9 := isRow_lt r7_9; have z10_9 := isRow_lt r10_9
      clear e9 r2_8 c2_8 z2_8 r3_8 c3_8 z3_8 r4_8 c4_8 z4_8 r7_8 c7_8 z7_8 m1_8 m2_8 z10_8 hb8
      go_loopw [11] (fun s11 wr => ∃ j : Nat, j ≤ d ∧ s11 = .int .i64 j ∧ Below w.heap.size w wr ∧ (IsRow wr (w.heap.size) ∧ blk wr (w.heap.size) = blk W9 (w.heap.size)) ∧ (IsRow wr (w.heap.size + 1) ∧ blk wr (w.heap.size + 1) = blk W9 (w.heap.size + 1)) ∧ (IsRow wr (w.heap.size + 2) ∧ blk wr (w.heap.size + 2) = blk W9 (w.heap.size + 2)) ∧ (IsRow wr (W4.heap.size) ∧ blk wr (W4.heap.size) = mdl d (duP p n d f F i k j)) ∧ (IsRow wr (a8) ∧ blk wr (a8) = blk W9 (a8))) (fun s11 _ => d - (intOf s11).toNat)
      case atStart => exact ⟨0, by omega, rfl, hb9, ⟨r2_9, rfl⟩, ⟨r3_9, rfl⟩, ⟨r4_9, rfl⟩, ⟨r7_9, c7_9⟩, ⟨r10_9, rfl⟩⟩
      case round =>
       obtain ⟨j, hle10, rfl, hb10, ⟨r2_10, c2_10⟩, ⟨r3_10, c3_10⟩, ⟨r4_10, c4_10⟩, ⟨r7_10, c7_10⟩, ⟨r10_10, c10_10⟩⟩ := hrel
       obtain ⟨W10, rfl⟩ : ∃ W10 : World, W10 = wr := ⟨_, rfl⟩
       have q10 := hb10.size
       have E2_10 := Lib.hid c2_9; replace c2_10 := c2_10.trans c2_9
       have z2_10 := isRow_lt r2_10
       have E3_10 := Lib.hid c3_9; replace c3_10 := c3_10.trans c3_9
       have z3_10 := isRow_lt r3_10
       have E4_10 := Lib.hid c4_9; replace c4_10 := c4_10.trans c4_9
       have z4_10 := isRow_lt r4_10
       have z7_10 := isRow_lt r7_10
       have E10_10 := Lib.hid c10_9; replace c10_10 := c10_10.trans c10_9
       have z10_10 := isRow_lt r10_10
       clear r2_9 c2_9 z2_9 r3_9 c3_9 z3_9 r4_9 c4_9 z4_9 r7_9 c7_9 z7_9 r10_9 c10_9 z10_9 hb9
       by_cases hlt10 : j < d
       ·
        have i0_10 : (0 : Int) ≤ (j : Int) := by omega
        have i8_10 : (j : Int) < 8 := by omega
        have k8_10 : j < 8 := by omega
        have m8_10 : j * 8 + 8 ≤ 64 := by omega
        have m64_10 : j * 64 + 64 ≤ 512 := by omega
        have l1_10 : 10 + j * 64 + 64 ≤ 522 := by omega
        have l2_10i : 10 + i * 64 + j * 8 + 8 ≤ 522 := by omega
        have l3_10i : 10 + j * 64 + i * 8 + 8 ≤ 522 := by omega
        have l4_10i : i * 64 + j * 8 + 8 ≤ 512 := by omega
        have l5_10i : j * 64 + i * 8 + 8 ≤ 512 := by omega
        have l6_10i : i * 8 + j < 64 := by omega
        have l7_10i : j * 8 + i < 64 := by omega
        have l2_10k : 10 + k * 64 + j * 8 + 8 ≤ 522 := by omega
        have l3_10k : 10 + j * 64 + k * 8 + 8 ≤ 522 := by omega
        have l4_10k : k * 64 + j * 8 + 8 ≤ 512 := by omega
        have l5_10k : j * 64 + k * 8 + 8 ≤ 512 := by omega
        have l6_10k : k * 8 + j < 64 := by omega
        have l7_10k : j * 8 + k < 64 := by omega
        have m1 : 1 + i * 64 + j * 8 + k < 513 := by omega
        have m2 : 1 + i * 64 + j * 8 + k + 1 ≤ 513 := by omega
        have m3 : 1 + i * 64 + 64 ≤ 513 := by omega
        have m4 : 1 + i * 64 + j * 8 + 8 ≤ 513 := by omega
        go_wp2
        refine wp_quiet_tail 10 (Below W10.heap.size W10) (by kernel_rfl) (by kernel_rfl) (Below.refl _ _).drew ?_
        simp only [List.take_succ_cons, List.take_zero, List.drop_succ_cons, List.drop_zero]
        iterate 10 (refine q_plain rfl ?_; apply Exists.intro; refine ⟨fun W hW => ?_, ?_⟩; (focus (obtain ⟨x2, y2⟩ := keepB hW z2_10 r2_10 c2_10; obtain ⟨x3, y3⟩ := keepB hW z3_10 r3_10 c3_10; obtain ⟨x4, y4⟩ := keepB hW z4_10 r4_10 c4_10; obtain ⟨x7, y7⟩ := keepB hW z7_10 r7_10 c7_10; obtain ⟨x10, y10⟩ := keepB hW z10_10 r10_10 c10_10; go_simp; first | done | rfl)); simp only [Act.put, List.setIfInBounds_toArray, List.set_cons_zero, List.set_cons_succ])
        refine wpQuiet_nil ?_
        intro W11 hw11
        obtain ⟨r2_11, c2_11, z2_11⟩ := keepZ hw11 z2_10 r2_10 c2_10
        obtain ⟨r3_11, c3_11, z3_11⟩ := keepZ hw11 z3_10 r3_10 c3_10
        obtain ⟨r4_11, c4_11, z4_11⟩ := keepZ hw11 z4_10 r4_10 c4_10
        obtain ⟨r7_11, c7_11, z7_11⟩ := keepZ hw11 z7_10 r7_10 c7_10
        obtain ⟨r10_11, c10_11, z10_11⟩ := keepZ hw11 z10_10 r10_10 c10_10
        obtain ⟨hb11, q11⟩ := bN hb10 hw11
        clear hw11 r2_10 c2_10 z2_10 r3_10 c3_10 z3_10 r4_10 c4_10 z4_10 r7_10 c7_10 z7_10 r10_10 c10_10 z10_10 hb10
        go_wp2
        go_roundw
        case rel => exact ⟨j + 1, by omega, by go_num, bt, ⟨by simp [go_sem, r2_11, c2_11, n2_7, n2_10, r3_11, c3_11, n3_7, n3_10, r4_11, c4_11, n4_7, n4_10, r7_11, c7_11, n7_2, n7_3, n7_4, n7_10, r10_11, c10_11, n10_2, n10_3, n10_4, n10_7], (by rw [E2_10.out]; first | exact c2_11 | (simp [go_sem, r2_11, c2_11, n2_7, n2_10, r3_11, c3_11, n3_7, n3_10, r4_11, c4_11, n4_7, n4_10, r7_11, c7_11, n7_2, n7_3, n7_4, n7_10, r10_11, c10_11, n10_2, n10_3, n10_4, n10_7]; done))⟩, ⟨by simp [go_sem, r2_11, c2_11, n2_7, n2_10, r3_11, c3_11, n3_7, n3_10, r4_11, c4_11, n4_7, n4_10, r7_11, c7_11, n7_2, n7_3, n7_4, n7_10, r10_11, c10_11, n10_2, n10_3, n10_4, n10_7], (by rw [E3_10.out]; first | exact c3_11 | (simp [go_sem, r2_11, c2_11, n2_7, n2_10, r3_11, c3_11, n3_7, n3_10, r4_11, c4_11, n4_7, n4_10, r7_11, c7_11, n7_2, n7_3, n7_4, n7_10, r10_11, c10_11, n10_2, n10_3, n10_4, n10_7]; done))⟩, ⟨by simp [go_sem, r2_11, c2_11, n2_7, n2_10, r3_11, c3_11, n3_7, n3_10, r4_11, c4_11, n4_7, n4_10, r7_11, c7_11, n7_2, n7_3, n7_4, n7_10, r10_11, c10_11, n10_2, n10_3, n10_4, n10_7], (by rw [E4_10.out]; first | exact c4_11 | (simp [go_sem, r2_11, c2_11, n2_7, n2_10, r3_11, c3_11, n3_7, n3_10, r4_11, c4_11, n4_7, n4_10, r7_11, c7_11, n7_2, n7_3, n7_4, n7_10, r10_11, c10_11, n10_2, n10_3, n10_4, n10_7]; done))⟩, ⟨by simp [go_sem, r2_11, c2_11, n2_7, n2_10, r3_11, c3_11, n3_7, n3_10, r4_11, c4_11, n4_7, n4_10, r7_11, c7_11, n7_2, n7_3, n7_4, n7_10, r10_11, c10_11, n10_2, n10_3, n10_4, n10_7], (by first | (rw [blk_setRow _ _ _ _ r7_11, if_pos rfl]; exact dup_step (by omega) (by omega) (by omega) hd) | exact (c7_11).trans (dup_step (by omega) (by omega) (by omega) hd) | (simp [go_sem, r2_11, c2_11, n2_7, n2_10, r3_11, c3_11, n3_7, n3_10, r4_11, c4_11, n4_7, n4_10, r7_11, c7_11, n7_2, n7_3, n7_4, n7_10, r10_11, c10_11, n10_2, n10_3, n10_4, n10_7]; exact dup_step (by omega) (by omega) (by omega) hd))⟩, ⟨by simp [go_sem, r2_11, c2_11, n2_7, n2_10, r3_11, c3_11, n3_7, n3_10, r4_11, c4_11, n4_7, n4_10, r7_11, c7_11, n7_2, n7_3, n7_4, n7_10, r10_11, c10_11, n10_2, n10_3, n10_4, n10_7], (by rw [E10_10.out]; first | exact c10_11 | (simp [go_sem, r2_11, c2_11, n2_7, n2_10, r3_11, c3_11, n3_7, n3_10, r4_11, c4_11, n4_7, n4_10, r7_11, c7_11, n7_2, n7_3, n7_4, n7_10, r10_11, c10_11, n10_2, n10_3, n10_4, n10_7]; done))⟩⟩
        case measure => simp [intOf]; try omega
       ·
        obtain rfl : d = j := by omega
        go_wp2
        go_roundw
        case rel => exact ⟨k + 1, by omega, by go_num, bt, ⟨by simp [go_sem, r2_10, c2_10, n2_7, n2_10, r3_10, c3_10, n3_7, n3_10, r4_10, c4_10, n4_7, n4_10, r7_10, c7_10, n7_2, n7_3, n7_4, n7_10, r10_10, c10_10, n10_2, n10_3, n10_4, n10_7], (by rw [E2_7.out]; first | exact c2_10 | (simp [go_sem, r2_10, c2_10, n2_7, n2_10, r3_10, c3_10, n3_7, n3_10, r4_10, c4_10, n4_7, n4_10, r7_10, c7_10, n7_2, n7_3, n7_4, n7_10, r10_10, c10_10, n10_2, n10_3, n10_4, n10_7]; done))⟩, ⟨by simp [go_sem, r2_10, c2_10, n2_7, n2_10, r3_10, c3_10, n3_7, n3_10, r4_10, c4_10, n4_7, n4_10, r7_10, c7_10, n7_2, n7_3, n7_4, n7_10, r10_10, c10_10, n10_2, n10_3, n10_4, n10_7], (by rw [E3_7.out]; first | exact c3_10 | (simp [go_sem, r2_10, c2_10, n2_7, n2_10, r3_10, c3_10, n3_7, n3_10, r4_10, c4_10, n4_7, n4_10, r7_10, c7_10, n7_2, n7_3, n7_4, n7_10, r10_10, c10_10, n10_2, n10_3, n10_4, n10_7]; done))⟩, ⟨by simp [go_sem, r2_10, c2_10, n2_7, n2_10, r3_10, c3_10, n3_7, n3_10, r4_10, c4_10, n4_7, n4_10, r7_10, c7_10, n7_2, n7_3, n7_4, n7_10, r10_10, c10_10, n10_2, n10_3, n10_4, n10_7], (by rw [E4_7.out]; first | exact c4_10 | (simp [go_sem, r2_10, c2_10, n2_7, n2_10, r3_10, c3_10, n3_7, n3_10, r4_10, c4_10, n4_7, n4_10, r7_10, c7_10, n7_2, n7_3, n7_4, n7_10, r10_10, c10_10, n10_2, n10_3, n10_4, n10_7]; done))⟩, ⟨by simp [go_sem, r2_10, c2_10, n2_7, n2_10, r3_10, c3_10, n3_7, n3_10, r4_10, c4_10, n4_7, n4_10, r7_10, c7_10, n7_2, n7_3, n7_4, n7_10, r10_10, c10_10, n10_2, n10_3, n10_4, n10_7], (by first | exact (c7_10).trans (dup_row) | (simp [go_sem, r2_10, c2_10, n2_7, n2_10, r3_10, c3_10, n3_7, n3_10, r4_10, c4_10, n4_7, n4_10, r7_10, c7_10, n7_2, n7_3, n7_4, n7_10, r10_10, c10_10, n10_2, n10_3, n10_4, n10_7]; exact dup_row))⟩⟩
        case measure => simp [intOf]; try omega
     ·
      obtain rfl : d = k := by omega
      go_wp2
      go_roundw
      case rel => exact ⟨i + 1, by omega, by go_num, bt, ⟨by simp [go_sem, r2_7, c2_7, n2_7, r3_7, c3_7, n3_7, r4_7, c4_7, n4_7, r7_7, c7_7, n7_2, n7_3, n7_4], (by rw [E2_6.out]; first | exact c2_7 | (simp [go_sem, r2_7, c2_7, n2_7, r3_7, c3_7, n3_7, r4_7, c4_7, n4_7, r7_7, c7_7, n7_2, n7_3, n7_4]; done))⟩, ⟨by simp [go_sem, r2_7, c2_7, n2_7, r3_7, c3_7, n3_7, r4_7, c4_7, n4_7, r7_7, c7_7, n7_2, n7_3, n7_4], (by rw [E3_6.out]; first | exact c3_7 | (simp [go_sem, r2_7, c2_7, n2_7, r3_7, c3_7, n3_7, r4_7, c4_7, n4_7, r7_7, c7_7, n7_2, n7_3, n7_4]; done))⟩, ⟨by simp [go_sem, r2_7, c2_7, n2_7, r3_7, c3_7, n3_7, r4_7, c4_7, n4_7, r7_7, c7_7, n7_2, n7_3, n7_4], (by rw [E4_6.out]; first | exact c4_7 | (simp [go_sem, r2_7, c2_7, n2_7, r3_7, c3_7, n3_7, r4_7, c4_7, n4_7, r7_7, c7_7, n7_2, n7_3, n7_4]; done))⟩, ⟨by simp [go_sem, r2_7, c2_7, n2_7, r3_7, c3_7, n3_7, r4_7, c4_7, n4_7, r7_7, c7_7, n7_2, n7_3, n7_4], (by first | exact (c7_7).trans (dup_map) | (simp [go_sem, r2_7, c2_7, n2_7, r3_7, c3_7, n3_7, r4_7, c4_7, n4_7, r7_7, c7_7, n7_2, n7_3, n7_4]; exact dup_map))⟩⟩
      case measure => simp [intOf]; try omega
   ·
    obtain rfl : n = i := by omega
    rw [dup_end] at c7_6
    go_wp2_with fail
    refine bodyPost_ret (result_cell_tmp rfl aggMod _ _ (mdl d (finM n d (duG p n d f F))) _ _ rfl rfl ?_ ?_) rfl ⟨by rfl, ?_⟩
    · simp [go_sem, r2_6, c2_6, n2_7, r3_6, c3_6, n3_7, r4_6, c4_6, n4_7, r7_6, c7_6, n7_2, n7_3, n7_4]
    · simp [go_sem, r2_6, c2_6, n2_7, r3_6, c3_6, n3_7, r4_6, c4_6, n4_7, r7_6, c7_6, n7_2, n7_3, n7_4]
    · exact bt

set_option maxRecDepth 100000 in
set_option maxHeartbeats 2000000 in
theorem lawDualModule (fp fn : Int) (f : Nat → Int) (md : Int) (m : Nat → Int) (w : World) (_wfp : (Lit.int .i64 fp).wf = true) (_wfn : (Lit.int .i64 fn).wf = true) (hf : Bytes 1104 f) (_wmd : (Lit.int .i64 md).wf = true) (hm : Bytes 512 m) :
    Calls Tryz.prog 6 #[.agg (hop fp fn f), .agg (mdl md m)] w fun e w' => e = .returned (.bool true) ∧ Below w.heap.size w w' := by
 have Hf := Lib.hid hf; clear hf
 have Hm := Lib.hid hm; clear hm
 go_enter Tryz.func6, Tryz.ntmps6
 go_wp2
 refine atomW fun W1 e1 => ?_
 have hb1 : Below w.heap.size w W1 := by rw [e1]; exact bt
 have q1 := hb1.size
 have R1 : IsRow W1 (w.heap.size) ∧ IsRow W1 (w.heap.size + 1) := by rw [e1]; simp [go_sem]
 obtain ⟨r2_1, r3_1⟩ := R1
 have C1 := (⟨congrArg (blk · (w.heap.size)) e1, congrArg (blk · (w.heap.size + 1)) e1⟩ : _ ∧ _); simp [go_sem] at C1
 obtain ⟨c2_1, c3_1⟩ := C1
 have z2_1 := isRow_lt r2_1; have z3_1 := isRow_lt r3_1
 clear e1
 refine wp_quiet_alloc_late 8 7 _ _ (.cells (mdl 0 zf) 41) (Below W1.heap.size W1) (Made W1 (mdl 0 zf)) (by kernel_rfl) rfl rfl rfl (by kernel_rfl) (by kernel_rfl) (fun c a w d v h => by cases d <;> exact h) (fun a W => (xallocMod _ _ _ _ _ _ _).trans (allocMod W)) (closed_below W1) (closed_made W1 _) (fun b W h => h.1) (fun W h => made_new W1 _ _ W h) (Below.refl _ _).drew ?_
 simp only [List.take_succ_cons, List.take_zero, List.drop_succ_cons, List.drop_zero]
 iterate 1 (refine e_plain rfl ?_; apply Exists.intro; refine ⟨fun D hD hK W hW => ?_, ?_⟩; (focus (obtain ⟨x2, y2⟩ := keepB (hD W hW) z2_1 r2_1 c2_1; obtain ⟨x3, y3⟩ := keepB (hD W hW) z3_1 r3_1 c3_1; unfold Oper.quietAt; go_simp; first | done | rfl)); simp only [Act.put, List.setIfInBounds_toArray, List.set_cons_zero, List.set_cons_succ])
 (refine e_plain rfl ?_; apply Exists.intro; refine ⟨fun D hD hK W hW => ?_, ?_⟩; (focus (obtain ⟨x2, y2⟩ := keepB (hD W hW) z2_1 r2_1 c2_1; obtain ⟨x3, y3⟩ := keepB (hD W hW) z3_1 r3_1 c3_1; unfold Oper.quietAt; go_simp; (go_at_call 15; exact (toHopf_any _ _ _ _).mono fun e w2 ⟨he, hw2⟩ => ⟨he, hK _ _ hW hw2⟩))); simp only [Act.put, List.setIfInBounds_toArray, List.set_cons_zero, List.set_cons_succ])
 iterate 1 (refine e_plain rfl ?_; apply Exists.intro; refine ⟨fun D hD hK W hW => ?_, ?_⟩; (focus (obtain ⟨x2, y2⟩ := keepB (hD W hW) z2_1 r2_1 c2_1; obtain ⟨x3, y3⟩ := keepB (hD W hW) z3_1 r3_1 c3_1; unfold Oper.quietAt; go_simp; first | done | rfl)); simp only [Act.put, List.setIfInBounds_toArray, List.set_cons_zero, List.set_cons_succ])
 (refine e_plain rfl ?_; apply Exists.intro; refine ⟨fun D hD hK W hW => ?_, ?_⟩; (focus (obtain ⟨x2, y2⟩ := keepB (hD W hW) z2_1 r2_1 c2_1; obtain ⟨x3, y3⟩ := keepB (hD W hW) z3_1 r3_1 c3_1; unfold Oper.quietAt; go_simp; (go_at_call 18; exact (toModule_any _ _ _).mono fun e w2 ⟨he, hw2⟩ => ⟨he, hK _ _ hW hw2⟩))); simp only [Act.put, List.setIfInBounds_toArray, List.set_cons_zero, List.set_cons_succ])
 (refine e_plain rfl ?_; apply Exists.intro; refine ⟨fun D hD hK W hW => ?_, ?_⟩; (focus (obtain ⟨x2, y2⟩ := keepB (hD W hW) z2_1 r2_1 c2_1; obtain ⟨x3, y3⟩ := keepB (hD W hW) z3_1 r3_1 c3_1; unfold Oper.quietAt; go_simp; (go_at_call 23; exact (specDual_any _ _ _ _ _ _ Hf.out Hm.out).mono fun e w2 ⟨he, hw2⟩ => ⟨he, hK _ _ hW hw2⟩))); simp only [Act.put, List.setIfInBounds_toArray, List.set_cons_zero, List.set_cons_succ])
 iterate 3 (refine e_plain rfl ?_; apply Exists.intro; refine ⟨fun D hD hK W hW => ?_, ?_⟩; (focus (obtain ⟨x2, y2⟩ := keepB (hD W hW) z2_1 r2_1 c2_1; obtain ⟨x3, y3⟩ := keepB (hD W hW) z3_1 r3_1 c3_1; unfold Oper.quietAt; go_simp; first | done | rfl)); simp only [Act.put, List.setIfInBounds_toArray, List.set_cons_zero, List.set_cons_succ])
 refine e_nil ?_
 intro a2 W2 hW2
 obtain ⟨hw2, hl2, m1_2, m2_2⟩ := hW2
 have n2_5 : (w.heap.size) ≠ (a2) := by have := z2_1; omega
 have n5_2 : (a2) ≠ (w.heap.size) := by have := z2_1; omega
 have n3_5 : (w.heap.size + 1) ≠ (a2) := by have := z3_1; omega
 have n5_3 : (a2) ≠ (w.heap.size + 1) := by have := z3_1; omega
 obtain ⟨r2_2, c2_2, z2_2⟩ := keepZ hw2 z2_1 r2_1 c2_1
 obtain ⟨r3_2, c3_2, z3_2⟩ := keepZ hw2 z3_1 r3_1 c3_1
 obtain ⟨hb2, q2⟩ := bN hb1 hw2
 clear hw2 r2_1 c2_1 z2_1 r3_1 c3_1 z3_1 hb1
 have z5_2 := isRow_lt m1_2
 simp only [Act.put, List.setIfInBounds_toArray, List.set_cons_zero, List.set_cons_succ]
 go_wp2
 refine atomW fun W3 e3 => ?_
 have hb3 : Below w.heap.size w W3 := by rw [e3]; exact bt
 have q3 := hb3.size
 have R3 : IsRow W3 (w.heap.size) ∧ IsRow W3 (w.heap.size + 1) ∧ IsRow W3 (a2) := by rw [e3]; simp [go_sem, r2_2, c2_2, n2_5, r3_2, c3_2, n3_5, m1_2, m2_2, n5_2, n5_3]
 obtain ⟨r2_3, r3_3, r5_3⟩ := R3
 have C3 := (⟨congrArg (blk · (w.heap.size)) e3, congrArg (blk · (w.heap.size + 1)) e3, congrArg (blk · (a2)) e3⟩ : _ ∧ _ ∧ _); simp [go_sem, r2_2, c2_2, n2_5, r3_2, c3_2, n3_5, m1_2, m2_2, n5_2, n5_3] at C3
 obtain ⟨c2_3, c3_3, c5_3⟩ := C3
 have z2_3 := isRow_lt r2_3; have z3_3 := isRow_lt r3_3; have z5_3 := isRow_lt r5_3
 clear e3 r2_2 c2_2 z2_2 r3_2 c3_2 z3_2 m1_2 m2_2 z5_2 hb2
 refine wp_quiet_alloc_late 8 7 _ _ (.cells (mdl 0 zf) 41) (Below W3.heap.size W3) (Made W3 (mdl 0 zf)) (by kernel_rfl) rfl rfl rfl (by kernel_rfl) (by kernel_rfl) (fun c a w d v h => by cases d <;> exact h) (fun a W => (xallocMod _ _ _ _ _ _ _).trans (allocMod W)) (closed_below W3) (closed_made W3 _) (fun b W h => h.1) (fun W h => made_new W3 _ _ W h) (Below.refl _ _).drew ?_
 simp only [List.take_succ_cons, List.take_zero, List.drop_succ_cons, List.drop_zero]
 iterate 1 (refine e_plain rfl ?_; apply Exists.intro; refine ⟨fun D hD hK W hW => ?_, ?_⟩; (focus (obtain ⟨x2, y2⟩ := keepB (hD W hW) z2_3 r2_3 c2_3; obtain ⟨x3, y3⟩ := keepB (hD W hW) z3_3 r3_3 c3_3; obtain ⟨x5, y5⟩ := keepB (hD W hW) z5_3 r5_3 c5_3; unfold Oper.quietAt; go_simp; first | done | rfl)); simp only [Act.put, List.setIfInBounds_toArray, List.set_cons_zero, List.set_cons_succ])
 (refine e_plain rfl ?_; apply Exists.intro; refine ⟨fun D hD hK W hW => ?_, ?_⟩; (focus (obtain ⟨x2, y2⟩ := keepB (hD W hW) z2_3 r2_3 c2_3; obtain ⟨x3, y3⟩ := keepB (hD W hW) z3_3 r3_3 c3_3; obtain ⟨x5, y5⟩ := keepB (hD W hW) z5_3 r5_3 c5_3; unfold Oper.quietAt; go_simp; (go_at_call 15; exact (toHopf_any _ _ _ _).mono fun e w2 ⟨he, hw2⟩ => ⟨he, hK _ _ hW hw2⟩))); simp only [Act.put, List.setIfInBounds_toArray, List.set_cons_zero, List.set_cons_succ])
 iterate 1 (refine e_plain rfl ?_; apply Exists.intro; refine ⟨fun D hD hK W hW => ?_, ?_⟩; (focus (obtain ⟨x2, y2⟩ := keepB (hD W hW) z2_3 r2_3 c2_3; obtain ⟨x3, y3⟩ := keepB (hD W hW) z3_3 r3_3 c3_3; obtain ⟨x5, y5⟩ := keepB (hD W hW) z5_3 r5_3 c5_3; unfold Oper.quietAt; go_simp; first | done | rfl)); simp only [Act.put, List.setIfInBounds_toArray, List.set_cons_zero, List.set_cons_succ])
 (refine e_plain rfl ?_; apply Exists.intro; refine ⟨fun D hD hK W hW => ?_, ?_⟩; (focus (obtain ⟨x2, y2⟩ := keepB (hD W hW) z2_3 r2_3 c2_3; obtain ⟨x3, y3⟩ := keepB (hD W hW) z3_3 r3_3 c3_3; obtain ⟨x5, y5⟩ := keepB (hD W hW) z5_3 r5_3 c5_3; unfold Oper.quietAt; go_simp; (go_at_call 18; exact (toModule_any _ _ _).mono fun e w2 ⟨he, hw2⟩ => ⟨he, hK _ _ hW hw2⟩))); simp only [Act.put, List.setIfInBounds_toArray, List.set_cons_zero, List.set_cons_succ])
 (refine e_plain rfl ?_; apply Exists.intro; refine ⟨fun D hD hK W hW => ?_, ?_⟩; (focus (obtain ⟨x2, y2⟩ := keepB (hD W hW) z2_3 r2_3 c2_3; obtain ⟨x3, y3⟩ := keepB (hD W hW) z3_3 r3_3 c3_3; obtain ⟨x5, y5⟩ := keepB (hD W hW) z5_3 r5_3 c5_3; unfold Oper.quietAt; go_simp; (go_at_call 24; exact (implDual_any _ _ _ _ _ _ Hf.out Hm.out).mono fun e w2 ⟨he, hw2⟩ => ⟨he, hK _ _ hW hw2⟩))); simp only [Act.put, List.setIfInBounds_toArray, List.set_cons_zero, List.set_cons_succ])
 iterate 3 (refine e_plain rfl ?_; apply Exists.intro; refine ⟨fun D hD hK W hW => ?_, ?_⟩; (focus (obtain ⟨x2, y2⟩ := keepB (hD W hW) z2_3 r2_3 c2_3; obtain ⟨x3, y3⟩ := keepB (hD W hW) z3_3 r3_3 c3_3; obtain ⟨x5, y5⟩ := keepB (hD W hW) z5_3 r5_3 c5_3; unfold Oper.quietAt; go_simp; first | done | rfl)); simp only [Act.put, List.setIfInBounds_toArray, List.set_cons_zero, List.set_cons_succ])
 refine e_nil ?_
 intro a4 W4 hW4
 obtain ⟨hw4, hl4, m1_4, m2_4⟩ := hW4
 have n2_7 : (w.heap.size) ≠ (a4) := by have := z2_3; omega
 have n7_2 : (a4) ≠ (w.heap.size) := by have := z2_3; omega
 have n3_7 : (w.heap.size + 1) ≠ (a4) := by have := z3_3; omega
 have n7_3 : (a4) ≠ (w.heap.size + 1) := by have := z3_3; omega
 have n5_7 : (a2) ≠ (a4) := by have := z5_3; omega
 have n7_5 : (a4) ≠ (a2) := by have := z5_3; omega
 obtain ⟨r2_4, c2_4, z2_4⟩ := keepZ hw4 z2_3 r2_3 c2_3
 obtain ⟨r3_4, c3_4, z3_4⟩ := keepZ hw4 z3_3 r3_3 c3_3
 obtain ⟨r5_4, c5_4, z5_4⟩ := keepZ hw4 z5_3 r5_3 c5_3
 obtain ⟨hb4, q4⟩ := bN hb3 hw4
 clear hw4 r2_3 c2_3 z2_3 r3_3 c3_3 z3_3 r5_3 c5_3 z5_3 hb3
 have z7_4 := isRow_lt m1_4
 simp only [Act.put, List.setIfInBounds_toArray, List.set_cons_zero, List.set_cons_succ]
 go_wp2_with fail
 refine atomC fun W5 e5 => ?_
 have hb5 : Below w.heap.size w W5 := by rw [e5]; exact bt
 have q5 := hb5.size
 clear e5 hb4
 refine (eqModule_same _ _ _).mono ?_; rintro _ W6 ⟨rfl, hw6⟩
 obtain ⟨hb6, q6⟩ := bN hb5 hw6
 clear hw6 hb5
 go_wp2_with fail
 go_ret
 exact ⟨rfl, bt⟩

end Go.Proofs.YtfmhgfnadgaiaaaGreat
