/- The reduced list of the integrals. -/
import Derived.Test.YtjpdpnplnelgcaaGreatI0
import Derived.Test.YtjpdpnplnelgcaaGreatL7
import Derived.Test.YtjpdpnplnelgcaaGreatHI
namespace Go.Proofs.YtjpdpnplnelgcaaGreat
open Go.RowKit
set_option linter.unusedSimpArgs false
set_option linter.unusedVariables false
attribute [local irreducible] wpQuiet wpQE

set_option maxRecDepth 100000 in
set_option maxHeartbeats 1000000 in
theorem row_any (F : Nat → Int) (w : World) (hF : Bytes 64 F) :
    Calls Tryz.prog 191 #[.agg (row 64 F)] w fun e w' => ∃ a c, e = .returned (.slice a 64 c) ∧ Below w.heap.size w w' ∧ BL w' w.heap.size w'.heap.size a (64) c (fun i _ => F i) := by
 have HF := Lib.hid hF; clear hF
 go_enter Tryz.func191, Tryz.ntmps191
 go_wp2_with fail
 refine atomC fun W1 e1 => ?_
 have hb1 : Below w.heap.size w W1 := by rw [e1]; exact bt
 have q1 := hb1.size
 clear e1
 refine (flatLinear_any F _ HF.out).mono ?_; rintro _ W2 ⟨aS_2, cS_2, rfl, hw2, hvS_2⟩
 have sz2 := hw2.size
 obtain ⟨hb2, q2⟩ := bN hb1 hw2
 clear hw2 hb1
 go_wp2_with fail
 go_ret
 exact ⟨aS_2, cS_2, rfl, bt, (hvS_2).wider (by omega) (by omega)⟩

/-! ### the method of what an interface holds -/
def invokeN (P : Program) (name : String) (v : Value) (w : World) : Result Next := (execOp (fun _ => v) ⟨none, .call { callee := .invoke (.tmp 0) name, args := #[], argTypes := #[] }, 0, "", #[], none⟩).run P w
@[go_sem ↓] theorem xinvoke (ρ : Operand → Value) (dst : Option Tmp) (a : Operand) (name : String) (ty : TypeId) (pos : String) (after : Array Edge) (guard : Option (Nat × Bool)) (P : Program) (w : World) :
    (execOp ρ ⟨dst, .call { callee := .invoke a name, args := #[], argTypes := #[] }, ty, pos, after, guard⟩).run P w = invokeN P name (ρ a) w := by unfold invokeN; simp [execOp, resolve]
@[go_sem] theorem invRow (v : Value) (w : World) : invokeN Tryz.prog "loop.example/g01230/impl.row" (.iface 31 v) w = .ok (.enter 191 #[v]) w := by kernel_rfl
/-! ### the reduced list of the integrals -/
/-- e(i) e(k) less the Counit of e(i) times e(k) -/
def intA (p : Int) (m : Nat → Nat → Nat → Int) (e : Nat → Int) (i k : Nat) : Nat → Int := addm p 0 8 (-e i) (m i k) (ebas k)
def IntS (p : Int) (n : Nat) (m : Nat → Nat → Nat → Int) (e : Nat → Int) : (Nat → Int) → Prop := AllKer p n (intA p m e) n
theorem mulF_basis {p : Int} {n : Nat} {m : Nat → Nat → Nat → Int} {i j k : Nat} (hi : i < n) (hj : j < n) : mulF p n m (ebas i) (ebas j) k = m i j k % p := by
  unfold mulF
  rw [sumTo_one (k := i) n hi fun a _ ha => sumTo_zero n fun b _ => by unfold ebas upd zf; rw [if_neg ha, Int.zero_mul, Int.zero_mul]]
  rw [sumTo_one (k := j) n hj fun b _ hb => by unfold ebas upd zf; rw [if_neg hb, Int.mul_zero, Int.zero_mul]]
  unfold ebas upd
  rw [if_pos rfl, if_pos rfl, Int.one_mul, Int.one_mul]
theorem dif_same {p : Int} {n : Nat} {g : Nat → Int} {m : Nat → Nat → Nat → Int} (hm : ∀ i j k, i < n → j < n → k < 8 → mtab g i j k = m i j k) {i j t : Nat} (hi : i < n) (hj : j < n) (ht : t < 8) : difK p n g (ebas i) n (j * 8 + t) = intA p m (coF g) j i t := by
  unfold difK intA addm
  rw [show (j * 8 + t) / 8 = j by omega, show (j * 8 + t) % 8 = t by omega, if_pos hj, if_pos (by omega), Nat.sub_zero, mulF_basis hj hi, hm j i t hj hi ht]
  exact emod_add_congr (Int.emod_emod _ _) (emod_mul_congr (Int.emod_emod _ _) rfl)
theorem int_iff {p : Int} {n : Nat} {g : Nat → Int} {m : Nat → Nat → Nat → Int} (hn : n ≤ 8) (hm : ∀ i j k, i < n → j < n → k < 8 → mtab g i j k = m i j k) (v : Nat → Int) : KerOf p 64 n (fun i => difK p n g (ebas i) n) v ↔ IntS p n m (coF g) v := by
  have e : ∀ j t, j < n → t < 8 → sumTo (fun i => v i * difK p n g (ebas i) n (j * 8 + t)) n = sumTo (fun k => v k * intA p m (coF g) j k t) n := fun j t hj ht => sumTo_congr n fun i hi => by rw [dif_same hm hi hj ht]
  unfold KerOf IntS AllKer
  constructor
  · rintro ⟨h1, h2⟩
    refine ⟨h2, fun j hj t ht => ?_⟩
    rw [← e j t hj ht]
    exact h1 (j * 8 + t) (by omega)
  · rintro ⟨h2, h1⟩
    refine ⟨fun t ht => ?_, h2⟩
    show sumTo (fun i => v i * difK p n g (ebas i) n t) n % p = 0
    by_cases hj : t / 8 < n
    · have := h1 (t / 8) hj (t % 8) (by omega)
      rw [← e (t / 8) (t % 8) hj (by omega), show t / 8 * 8 + t % 8 = t by omega] at this
      exact this
    · rw [sumTo_zero n fun i _ => show v i * difK p n g (ebas i) n t = 0 by unfold difK; rw [if_neg hj, Int.mul_zero]]
      simp

set_option maxRecDepth 100000 in
set_option maxHeartbeats 2000000 in
theorem reduced_any (p : Int) (n : Nat) (g : Nat → Int) (S : (Nat → Int) → Prop) (w : World) (hp : 0 < p) (hp' : p ≤ 255) (hpr : prime31 p = true) (hn1 : 0 < n) (hn : n ≤ 8) (hG : Bytes 528 g) (hE : ∀ i, i < 8 → coF g i < p) (hS : ∀ v, KerOf p 64 n (fun i => difK p n g (ebas i) n) v ↔ S v) :
    Calls Tryz.prog 75 #[.agg (spc p n g)] w fun e w' => ∃ a c, e = .returned (.slice a (telN p S) c) ∧ Below w.heap.size w w' ∧ VL w' w.heap.size w'.heap.size a (telN p S) c (telG p S) := by
 have Hpr := Lib.hid hpr; clear hpr
 have HG := Lib.hid hG; clear hG
 have HE := Lib.hid hE; clear hE
 have HS := Lib.hid hS; clear hS
 go_enter Tryz.func75, Tryz.ntmps75
 go_wp2
 refine atomW fun W1 e1 => ?_
 have hb1 : Below w.heap.size w W1 := by rw [e1]; exact bt
 have q1 := hb1.size
 have r1_1 : IsRow W1 (w.heap.size) := by rw [e1]; simp [go_sem]
 have c1_1 := congrArg (fun x => blk x (w.heap.size)) e1; simp [go_sem] at c1_1
 have z1_1 := isRow_lt r1_1
 clear e1
 have ltR1n2 : (w.heap.size) < W1.heap.size := z1_1
 go_loopw [3, 7] (fun s3 s7 wr => ∃ i : Nat, ∃ aR_2 : Option Addr, ∃ cR_2 : Nat, ∃ UR_2 : Nat, i ≤ n ∧ s3 = .slice aR_2 (i) cR_2 ∧ s7 = .int .i64 i ∧ Below w.heap.size w wr ∧ (IsRow wr (w.heap.size) ∧ blk wr (w.heap.size) = blk W1 (w.heap.size)) ∧ RL wr (W1.heap.size) (UR_2) (aR_2) (i) (cR_2) (64) ((fun i => difK p n g (ebas i) n)) ∧ ((W1.heap.size) ≤ (UR_2) ∧ (UR_2) ≤ wr.heap.size)) (fun _ s7 _ => n - (intOf s7).toNat)
 case atStart => exact ⟨0, none, 0, W1.heap.size, by omega, rfl, rfl, hb1, ⟨r1_1, rfl⟩, RL.nil _ _ _ _, (by omega)⟩
 case round =>
  obtain ⟨i, aR_2, cR_2, UR_2, hle2, rfl, rfl, hb2, ⟨r1_2, c1_2⟩, hvR_2, hUR_2⟩ := hrel
  obtain ⟨W2, rfl⟩ : ∃ W2 : World, W2 = wr := ⟨_, rfl⟩
  have q2 := hb2.size
  have E1_2 := Lib.hid c1_1; replace c1_2 := c1_2.trans c1_1
  have z1_2 := isRow_lt r1_2
  clear r1_1 c1_1 z1_1 hb1
  by_cases hlt2 : i < n
  ·
   have i0_2 : (0 : Int) ≤ (i : Int) := by omega
   have i8_2 : (i : Int) < 8 := by omega
   have k8_2 : i < 8 := by omega
   have m8_2 : i * 8 + 8 ≤ 64 := by omega
   have m64_2 : i * 64 + 64 ≤ 512 := by omega
   have l1_2 : 10 + i * 64 + 64 ≤ 522 := by omega
   go_wp2
   refine wp_quiet_tail_late 7 0 _ (Below W2.heap.size W2) (by kernel_rfl) rfl (by kernel_rfl) (by kernel_rfl) (fun c a w d v h => by cases d <;> exact h) (Below.refl _ _).drew ?_
   simp only [List.take_succ_cons, List.take_zero, List.drop_succ_cons, List.drop_zero]
   iterate 4 (refine q_plain rfl ?_; apply Exists.intro; refine ⟨fun W hW => ?_, ?_⟩; (focus (obtain ⟨x1, y1⟩ := keepB hW z1_2 r1_2 c1_2; go_simp; first | done | rfl)); simp only [Act.put, List.setIfInBounds_toArray, List.set_cons_zero, List.set_cons_succ])
   (refine q_plain rfl ?_; apply Exists.intro; refine ⟨fun W hW => ?_, ?_⟩; (focus (obtain ⟨x1, y1⟩ := keepB hW z1_2 r1_2 c1_2; go_simp; (go_at_call 108; exact (basisAt i (by omega) _).mono fun e w2 ⟨he, hw2⟩ => ⟨he, hW.trans (hw2.mono hW.size)⟩))); simp only [Act.put, List.setIfInBounds_toArray, List.set_cons_zero, List.set_cons_succ])
   (refine q_plain rfl ?_; apply Exists.intro; refine ⟨fun W hW => ?_, ?_⟩; (focus (obtain ⟨x1, y1⟩ := keepB hW z1_2 r1_2 c1_2; go_simp; (go_at_call 140; exact (differences_any p n g (ebas i) _ hp hp' hn HG.out (ebas_bytes i) HE.out).mono fun e w2 ⟨he, hw2⟩ => ⟨he, hW.trans (hw2.mono hW.size)⟩))); simp only [Act.put, List.setIfInBounds_toArray, List.set_cons_zero, List.set_cons_succ])
   iterate 1 (refine q_plain rfl ?_; apply Exists.intro; refine ⟨fun W hW => ?_, ?_⟩; (focus (obtain ⟨x1, y1⟩ := keepB hW z1_2 r1_2 c1_2; go_simp; first | done | rfl)); simp only [Act.put, List.setIfInBounds_toArray, List.set_cons_zero, List.set_cons_succ])
   refine wpQuiet_nil ?_
   intro W3 hw3
   obtain ⟨r1_3, c1_3, z1_3⟩ := keepZ hw3 z1_2 r1_2 c1_2
   obtain ⟨hb3, q3⟩ := bN hb2 hw3
   have sz3 := hw3.size
   have hvR_3 := hvR_2.below hw3 (by omega)
   clear hw3 hvR_2 r1_2 c1_2 z1_2 hb2
   go_wp2_with fail
   have ltB1n4 : (w.heap.size) < W3.heap.size := z1_3
   refine (row_any (difK p n g (ebas i) n) _ (lt_bytes hp' fun t _ => difK_range hp _ _ _ _ t)).mono ?_; rintro _ W4 ⟨aB_4, cB_4, rfl, hw4, hvB_4⟩
   obtain ⟨r1_4, c1_4, z1_4⟩ := keepZ hw4 z1_3 r1_3 c1_3
   obtain ⟨hb4, q4⟩ := bN hb3 hw4
   have sz4 := hw4.size
   have hvR_4 := hvR_3.below hw4 (by omega)
   clear hw4 hvR_3 r1_3 c1_3 z1_3 hb3
   obtain ⟨gB_5, FB_5, eaB_5, gBB_5, gUB_5, rBx_5, hcB_5, hmB_5, cBx_5, hFbB_5, hFB_5⟩ := hvB_4.some (by omega)
   subst eaB_5
   have HFB_5 := Lib.hid hFB_5; clear hFB_5
   have HBB_5 := Lib.hid hFbB_5; clear hFbB_5
   have zBx_5 := isRow_lt rBx_5
   have n1_Bx : (w.heap.size) ≠ (gB_5) := by omega
   have nBx_1 : (gB_5) ≠ (w.heap.size) := by omega
   go_wp2_with (at_builtin; refine atomL ?_)
   have nw1_W4_0 : (w.heap.size) ≠ W4.heap.size := by omega
   have nwBx_W4_0 : (gB_5) ≠ W4.heap.size := by omega
   intro W6 e6
   have hb6 : Below w.heap.size w W6 := by rw [e6]; exact bt
   have q6 := hb6.size
   have R6 : IsRow W6 (w.heap.size) ∧ IsRow W6 (gB_5) ∧ IsRow W6 (W4.heap.size) := by rw [e6]; simp [go_sem, r1_4, c1_4, n1_Bx, rBx_5, cBx_5, nBx_1, nw1_W4_0, nwBx_W4_0]
   obtain ⟨r1_6, rBx_6, r18_6⟩ := R6
   have C6 := (⟨congrArg (blk · (w.heap.size)) e6, congrArg (blk · (gB_5)) e6, congrArg (blk · (W4.heap.size)) e6⟩ : _ ∧ _ ∧ _); simp [go_sem, r1_4, c1_4, n1_Bx, rBx_5, cBx_5, nBx_1, nw1_W4_0, nwBx_W4_0] at C6
   obtain ⟨c1_6, cBx_6, c18_6⟩ := C6
   have z1_6 := isRow_lt r1_6; have zBx_6 := isRow_lt rBx_6; have z18_6 := isRow_lt r18_6
   have n1_18 : (w.heap.size) ≠ (W4.heap.size) := by omega
   have nBx_18 : (gB_5) ≠ (W4.heap.size) := by omega
   have n18_1 : (W4.heap.size) ≠ (w.heap.size) := by omega
   have n18_Bx : (W4.heap.size) ≠ (gB_5) := by omega
   have hvR_6 : RL W6 (W1.heap.size) (UR_2) (aR_2) (i) (cR_2) (64) ((fun i => difK p n g (ebas i) n)) := by rw [e6]; exact vtR
   clear e6 nw1_W4_0 nwBx_W4_0 r1_4 c1_4 z1_4 rBx_5 cBx_5 zBx_5 hvR_4 hb4
   refine appendR _ rfl _ _ rfl hvR_6 (by omega) (by omega) rfl _ _ (FB_5) rfl c18_6 ⟨⟨by omega, rBx_6, cBx_6, HBB_5.out, hcB_5⟩, by omega⟩ ?_
   intro aR_7 cR_7 W7 hg7 ha7 hvR_7
   obtain ⟨r1_7, c1_7⟩ := keepG hg7 (hvR_6.ne (by omega)) r1_6 c1_6
   have z1_7 := isRow_lt r1_7
   obtain ⟨rBx_7, cBx_7⟩ := keepG hg7 (hvR_6.ne (by omega)) rBx_6 cBx_6
   have zBx_7 := isRow_lt rBx_7
   have hb7 := below_ownR hb6 hvR_6 hg7 (by omega) (by omega)
   have q7 := hb7.size
   have sz7 := hg7.size
   clear hg7 ha7 r1_6 c1_6 z1_6 rBx_6 cBx_6 zBx_6 hvR_6 hb6
   go_wp2
   go_roundw
   case rel => exact ⟨i + 1, (aR_7), (cR_7), (W7.heap.size), by omega, (by first | rfl | go_num | (simp; done)), by go_num, bt, ⟨by simp [go_sem, r1_7, c1_7, n1_Bx, rBx_7, cBx_7, nBx_1], (by rw [E1_2.out]; first | exact c1_7 | (simp [go_sem, r1_7, c1_7, n1_Bx, rBx_7, cBx_7, nBx_1]; done))⟩, (hvR_7).same rfl rfl (addV_row fun t ht => HFB_5.out t ht 0 (by omega)), bu⟩
   case measure => simp [intOf]; try omega
  ·
   obtain rfl : n = i := by omega
   go_wp2_with fail
   refine (kernelOf_to p _ _ _ n _ 64 (fun i => difK p n g (ebas i) n) S _ hp hp' Hpr.out hn1 hn (by omega) (by omega) (by omega) (fun i _ t _ => difK_range hp _ _ _ _ t) hvR_2 HS.out).mono ?_; rintro _ W8 ⟨aK_8, cK_8, rfl, hw8, hvK_8⟩
   obtain ⟨hb8, q8⟩ := bN hb2 hw8
   have sz8 := hw8.size
   have hvR_8 := hvR_2.below hw8 (by omega)
   clear hw8 hvR_2 hb2
   go_wp2_with fail
   go_ret
   exact ⟨aK_8, cK_8, rfl, bt, (hvK_8).wider (by omega) (by omega)⟩

end Go.Proofs.YtjpdpnplnelgcaaGreat
