/- Linear algebra by the reference model: systems solved, kernels, meets. -/
import Derived.Test.YtjpdpnplnelgcaaGreatQ16
import Derived.OwnWalk
namespace Go.Proofs.YtjpdpnplnelgcaaGreat
open Go.RowKit
set_option linter.unusedSimpArgs false
set_option linter.unusedVariables false
attribute [local irreducible] wpQuiet wpQE

theorem src_step {p : Int} {im so : Nat → Nat → Int} {l : Nat → Nat} {v u : Nat → Int} {k : Nat} : row 8 (addm p 0 8 (-(byG p im l v k (l k))) (srcG p im so l v u k) (so k)) = row 8 (srcG p im so l v u (k + 1)) := addm_row fun t _ => by rw [srcG, addF]
theorem src_skip {p : Int} {im so : Nat → Nat → Int} {l : Nat → Nat} {v u : Nat → Int} {k : Nat} (hp : 0 < p) (hu : ∀ t, t < 8 → 0 ≤ u t ∧ u t < p) (h0 : byG p im l v k (l k) = 0) : row 8 (srcG p im so l v u k) = row 8 (srcG p im so l v u (k + 1)) := row_congr fun t ht => by
  rw [srcG, addF, h0, Int.neg_zero, Int.zero_mul, Int.add_zero, small_mod (src_range hp hu k t ht)]
theorem ebas_range {p : Int} (hp : 2 ≤ p) (i t : Nat) : 0 ≤ ebas i t ∧ ebas i t < p := by unfold ebas upd zf; split <;> omega
theorem lt_bytes {p : Int} (hp' : p ≤ 255) {n : Nat} {f : Nat → Int} (h : ∀ t, t < n → 0 ≤ f t ∧ f t < p) : Bytes n f := fun t ht => by have := h t ht; omega
theorem p2_of {p : Int} (h : prime31 p = true) : 2 ≤ p := by
  unfold prime31 at h
  simp only [Bool.and_eq_true, decide_eq_true_eq] at h
  exact h.1.1
theorem zero_of {v : Nat → Int} (h : segEq 0 8 v zf = true) : ∀ t, t < 8 → v t = 0 := fun t ht => by
  have := (segEq_iff 0 8 v zf).1 h t ht
  rw [Nat.zero_add] at this
  exact this
theorem sol_ech {p : Int} {n : Nat} {A im so ke : Nat → Nat → Int} {i a b : Nat} {l : Nat → Nat} (s : Sol p n A i a im so l b ke) : Ech p 8 a im l := s.ech

set_option maxRecDepth 100000 in
set_option maxHeartbeats 4000000 in
theorem l01Solve_any (p : Int) (n : Nat) (F : Nat → Int) (w : World) (hp : 0 < p) (hp' : p ≤ 255) (hpr : prime31 p = true) (hn : n ≤ 8) (hF : ∀ t, t < 64 → 0 ≤ F t ∧ F t < p) :
    Calls Tryz.prog 128 #[.int .i64 p, .int .i64 n, .agg (row 64 F)] w fun e w' => ∃ a1 m1 c1 g1 a2 c2 g2 a3 m3 c3 g3, e = .returned (.tuple #[.slice a1 m1 c1, .slice a2 m1 c2, .slice a3 m3 c3]) ∧ Below w.heap.size w w' ∧ VL w' w.heap.size w'.heap.size a1 m1 c1 g1 ∧ VL w' w.heap.size w'.heap.size a2 m1 c2 g2 ∧ VL w' w.heap.size w'.heap.size a3 m3 c3 g3 ∧ m1 + m3 = n ∧ ∃ l, Sol p n (fun i t => F (i * 8 + t)) n m1 g1 g2 l m3 g3 := by
 have Hpr := Lib.hid hpr; clear hpr
 have HF := Lib.hid hF; clear hF
 have HFb := Lib.hid (lt_bytes hp' HF.out)
 go_enter Tryz.func128, Tryz.ntmps128
 go_wp2
 refine atomW fun W1 e1 => ?_
 have hb1 : Below w.heap.size w W1 := by rw [e1]; exact bt
 have q1 := hb1.size
 have R1 : IsRow W1 (w.heap.size) ∧ IsRow W1 (w.heap.size + 1) ∧ IsRow W1 (w.heap.size + 2) ∧ IsRow W1 (w.heap.size + 3) := by rw [e1]; simp [go_sem]
 obtain ⟨r5_1, r19_1, r20_1, r21_1⟩ := R1
 have C1 := (⟨congrArg (blk · (w.heap.size)) e1, congrArg (blk · (w.heap.size + 1)) e1, congrArg (blk · (w.heap.size + 2)) e1, congrArg (blk · (w.heap.size + 3)) e1⟩ : _ ∧ _ ∧ _ ∧ _); simp [go_sem] at C1
 obtain ⟨c5_1, c19_1, c20_1, c21_1⟩ := C1
 have z5_1 := isRow_lt r5_1; have z19_1 := isRow_lt r19_1; have z20_1 := isRow_lt r20_1; have z21_1 := isRow_lt r21_1
 have ltI5n1 : (w.heap.size) < (w.heap.size + 1) := by omega
 have hvI_1 := VL.empty (U := W1.heap.size) (Nat.le_refl _) z19_1 r19_1 c19_1 fun _ _ => 0
 have szI_1 := z19_1
 have ltS5n1 : (w.heap.size) < (w.heap.size + 2) := by omega
 have hvS_1 := VL.empty (U := W1.heap.size) (Nat.le_refl _) z20_1 r20_1 c20_1 fun _ _ => 0
 have szS_1 := z20_1
 have ltK5n1 : (w.heap.size) < (w.heap.size + 3) := by omega
 have hvK_1 := VL.empty (U := W1.heap.size) (Nat.le_refl _) z21_1 r21_1 c21_1 fun _ _ => 0
 have szK_1 := z21_1
 have apIS_1 : ApartV (some ⟨w.heap.size + 1, 0, none⟩) (some ⟨w.heap.size + 2, 0, none⟩) := .inr fun h => by simp [ownB] at h <;> omega
 have apIK_1 : ApartV (some ⟨w.heap.size + 1, 0, none⟩) (some ⟨w.heap.size + 3, 0, none⟩) := .inr fun h => by simp [ownB] at h <;> omega
 have apSK_1 : ApartV (some ⟨w.heap.size + 2, 0, none⟩) (some ⟨w.heap.size + 3, 0, none⟩) := .inr fun h => by simp [ownB] at h <;> omega
 clear e1
 go_loopw [9, 10, 11, 12] (fun s9 s10 s11 s12 wr => ∃ i : Nat, ∃ aI_2 : Option Addr, ∃ cI_2 : Nat, ∃ UI_2 : Nat, ∃ mI_2 : Nat, ∃ fI_2 : Nat → Nat → Int, ∃ aS_2 : Option Addr, ∃ cS_2 : Nat, ∃ US_2 : Nat, ∃ fS_2 : Nat → Nat → Int, ∃ aK_2 : Option Addr, ∃ cK_2 : Nat, ∃ UK_2 : Nat, ∃ mK_2 : Nat, ∃ fK_2 : Nat → Nat → Int, i ≤ n ∧ s9 = .slice aI_2 (mI_2) cI_2 ∧ s10 = .slice aS_2 (mI_2) cS_2 ∧ s11 = .slice aK_2 (mK_2) cK_2 ∧ s12 = .int .i64 i ∧ Below w.heap.size w wr ∧ (IsRow wr (w.heap.size) ∧ blk wr (w.heap.size) = blk W1 (w.heap.size)) ∧ VL wr (w.heap.size + 1) (UI_2) (aI_2) (mI_2) (cI_2) (fI_2) ∧ ((w.heap.size + 1) ≤ (UI_2) ∧ (UI_2) ≤ wr.heap.size) ∧ VL wr (w.heap.size + 2) (US_2) (aS_2) (mI_2) (cS_2) (fS_2) ∧ ((w.heap.size + 2) ≤ (US_2) ∧ (US_2) ≤ wr.heap.size) ∧ VL wr (w.heap.size + 3) (UK_2) (aK_2) (mK_2) (cK_2) (fK_2) ∧ ((w.heap.size + 3) ≤ (UK_2) ∧ (UK_2) ≤ wr.heap.size) ∧ ApartV (aI_2) (aK_2) ∧ ApartV (aI_2) (aS_2) ∧ ApartV (aK_2) (aS_2) ∧ mI_2 + mK_2 = i ∧ ∃ l, Sol p n (fun i t => F (i * 8 + t)) i (mI_2) (fI_2) (fS_2) l (mK_2) (fK_2)) (fun _ _ _ s12 _ => n - (intOf s12).toNat)
 case atStart => exact ⟨0, some ⟨w.heap.size + 1, 0, none⟩, 0, W1.heap.size, 0, fun _ _ => 0, some ⟨w.heap.size + 2, 0, none⟩, 0, W1.heap.size, fun _ _ => 0, some ⟨w.heap.size + 3, 0, none⟩, 0, W1.heap.size, 0, fun _ _ => 0, by omega, (by first | rfl | (simp; done) | go_num), (by first | rfl | (simp; done) | go_num), (by first | rfl | (simp; done) | go_num), rfl, hb1, ⟨r5_1, rfl⟩, hvI_1, (by omega), hvS_1, (by omega), hvK_1, (by omega), apIK_1, apIS_1, (apart_symm apSK_1), ⟨rfl, fun _ => 0, sol_start _ _ _ _ _ _ _⟩⟩
 case round =>
  obtain ⟨i, aI_2, cI_2, UI_2, mI_2, fI_2, aS_2, cS_2, US_2, fS_2, aK_2, cK_2, UK_2, mK_2, fK_2, hle2, rfl, rfl, rfl, rfl, hb2, ⟨r5_2, c5_2⟩, hvI_2, hUI_2, hvS_2, hUS_2, hvK_2, hUK_2, apIK_2, apIS_2, apKS_2, hx2⟩ := hrel
  obtain ⟨W2, rfl⟩ : ∃ W2 : World, W2 = wr := ⟨_, rfl⟩
  have q2 := hb2.size
  have HX2 := Lib.hid hx2; clear hx2
  have E5_2 := Lib.hid c5_1; replace c5_2 := c5_2.trans c5_1
  have z5_2 := isRow_lt r5_2
  clear r5_1 c5_1 z5_1 hb1 hvI_1 hvS_1 hvK_1
  by_cases hlt2 : i < n
  ·
   have i0_2 : (0 : Int) ≤ (i : Int) := by omega
   have i8_2 : (i : Int) < 8 := by omega
   have k8_2 : i < 8 := by omega
   have m8_2 : i * 8 + 8 ≤ 64 := by omega
   have m64_2 : i * 64 + 64 ≤ 512 := by omega
   have l1_2 : 10 + i * 64 + 64 ≤ 522 := by omega
   obtain ⟨l, hs⟩ := HX2.out.2
   have hsum := HX2.out.1
   have HS := Lib.hid hs; clear hs
   have hlt0 := hlt2
   have HA : Hid (∀ t, t < 8 → 0 ≤ F (i * 8 + t) ∧ F (i * 8 + t) < p) := Lib.hid fun t ht => HF.out _ (by omega)
   have HEb : Hid (∀ t, t < 8 → 0 ≤ ebas i t ∧ ebas i t < p) := Lib.hid fun t _ => ebas_range (p2_of Hpr.out) i t
   go_wp2
   refine wp_quiet_made2 5 7 _ _ (row 8 zf) (row 8 zf) 27 27 (by kernel_rfl) rfl rfl rfl rfl (by omega) (by kernel_rfl) (fun a W => (xallocVec _ _ _ _ _ _ _).trans (allocVec W)) (fun a W => (xallocVec _ _ _ _ _ _ _).trans (allocVec W)) ?_
   simp only [List.take_succ_cons, List.take_zero, List.drop_succ_cons, List.drop_zero, List.eraseIdx_cons_succ, List.eraseIdx_cons_zero]
   iterate 4 (refine e_plain rfl ?_; apply Exists.intro; refine ⟨fun D hD hK W hW => ?_, ?_⟩; (focus (obtain ⟨x5, y5⟩ := keepB (hD W hW) z5_2 r5_2 c5_2; unfold Oper.quietAt; go_simp; first | done | rfl)); simp only [Act.put, List.setIfInBounds_toArray, List.set_cons_zero, List.set_cons_succ])
   (refine e_plain rfl ?_; apply Exists.intro; refine ⟨fun D hD hK W hW => ?_, ?_⟩; (focus (obtain ⟨x5, y5⟩ := keepB (hD W hW) z5_2 r5_2 c5_2; unfold Oper.quietAt; go_simp; (go_at_call 80; exact (l01BasisAt i (by omega) _).mono fun e w2 ⟨he, hw2⟩ => ⟨he, hK _ _ hW hw2⟩))); simp only [Act.put, List.setIfInBounds_toArray, List.set_cons_zero, List.set_cons_succ])
   refine e_nil ?_
   intro a3 b3 W3 hw3 mk1_3 mk2_3 hne3
   obtain ⟨hl1_3, m1_3, m2_3⟩ := mk1_3; obtain ⟨hl2_3, m3_3, m4_3⟩ := mk2_3
   have n5_13 : (w.heap.size) ≠ (a3) := by have := z5_2; omega
   have n13_5 : (a3) ≠ (w.heap.size) := by have := z5_2; omega
   have n5_14 : (w.heap.size) ≠ (b3) := by have := z5_2; omega
   have n14_5 : (b3) ≠ (w.heap.size) := by have := z5_2; omega
   obtain ⟨r5_3, c5_3, z5_3⟩ := keepZ hw3 z5_2 r5_2 c5_2
   obtain ⟨hb3, q3⟩ := bN hb2 hw3
   have sz3 := hw3.size
   have hvI_3 := hvI_2.below hw3 (by omega)
   have hvS_3 := hvS_2.below hw3 (by omega)
   have hvK_3 := hvK_2.below hw3 (by omega)
   clear hw3 hvI_2 hvS_2 hvK_2 r5_2 c5_2 z5_2 hb2
   have n13_14 : (a3) ≠ (b3) := hne3
   have n14_13 : (b3) ≠ (a3) := Ne.symm hne3
   have z13_3 := isRow_lt m1_3
   have z14_3 := isRow_lt m3_3
   simp only [Act.put, List.setIfInBounds_toArray, List.set_cons_zero, List.set_cons_succ]
   go_wp2
   refine atomW fun W4 e4 => ?_
   have hb4 : Below w.heap.size w W4 := by rw [e4]; exact bt
   have q4 := hb4.size
   have R4 : IsRow W4 (w.heap.size) ∧ IsRow W4 (a3) ∧ IsRow W4 (b3) := by rw [e4]; simp [go_sem, r5_3, c5_3, n5_13, n5_14, m1_3, m2_3, n13_5, n13_14, m3_3, m4_3, n14_5, n14_13]
   obtain ⟨r5_4, r13_4, r14_4⟩ := R4
   have C4 := (⟨congrArg (blk · (w.heap.size)) e4, congrArg (blk · (a3)) e4, congrArg (blk · (b3)) e4⟩ : _ ∧ _ ∧ _); simp [go_sem, r5_3, c5_3, n5_13, n5_14, m1_3, m2_3, n13_5, n13_14, m3_3, m4_3, n14_5, n14_13] at C4
   obtain ⟨c5_4, c13_4, c14_4⟩ := C4
   have z5_4 := isRow_lt r5_4; have z13_4 := isRow_lt r13_4; have z14_4 := isRow_lt r14_4
   have hvI_4 : VL W4 (w.heap.size + 1) (UI_2) (aI_2) (mI_2) (cI_2) (fI_2) := by rw [e4]; exact vtV
   have hvS_4 : VL W4 (w.heap.size + 2) (US_2) (aS_2) (mI_2) (cS_2) (fS_2) := by rw [e4]; exact vtV
   have hvK_4 : VL W4 (w.heap.size + 3) (UK_2) (aK_2) (mK_2) (cK_2) (fK_2) := by rw [e4]; exact vtV
   clear e4 r5_3 c5_3 z5_3 m1_3 m2_3 z13_3 m3_3 m4_3 z14_3 hvI_3 hvS_3 hvK_3 hb3
   go_loopw [15] (fun s15 wr => ∃ k : Nat, k ≤ mI_2 ∧ s15 = .int .i64 k ∧ Below w.heap.size w wr ∧ (IsRow wr (w.heap.size) ∧ blk wr (w.heap.size) = blk W4 (w.heap.size)) ∧ (IsRow wr (a3) ∧ blk wr (a3) = row 8 (byG p (fI_2) l (fun t => F (i * 8 + t)) (k))) ∧ (IsRow wr (b3) ∧ blk wr (b3) = row 8 (srcG p (fI_2) (fS_2) l (fun t => F (i * 8 + t)) (ebas i) (k))) ∧ VL wr (w.heap.size + 1) (UI_2) (aI_2) (mI_2) (cI_2) (fI_2) ∧ ((w.heap.size + 1) ≤ (UI_2) ∧ (UI_2) ≤ wr.heap.size) ∧ VL wr (w.heap.size + 2) (US_2) (aS_2) (mI_2) (cS_2) (fS_2) ∧ ((w.heap.size + 2) ≤ (US_2) ∧ (US_2) ≤ wr.heap.size) ∧ VL wr (w.heap.size + 3) (UK_2) (aK_2) (mK_2) (cK_2) (fK_2) ∧ ((w.heap.size + 3) ≤ (UK_2) ∧ (UK_2) ≤ wr.heap.size) ∧ ApartV (aI_2) (aK_2) ∧ ApartV (aI_2) (aS_2) ∧ ApartV (aK_2) (aS_2)) (fun s15 _ => mI_2 - (intOf s15).toNat)
   case atStart => exact ⟨0, by omega, rfl, hb4, ⟨r5_4, rfl⟩, ⟨r13_4, c13_4⟩, ⟨r14_4, c14_4⟩, hvI_4, (by omega), hvS_4, (by omega), hvK_4, (by omega), apIK_2, apIS_2, apKS_2⟩
   case round =>
    obtain ⟨k, hle5, rfl, hb5, ⟨r5_5, c5_5⟩, ⟨r13_5, c13_5⟩, ⟨r14_5, c14_5⟩, hvI_5, hUI_5, hvS_5, hUS_5, hvK_5, hUK_5, apIK_5, apIS_5, apKS_5⟩ := hrel
    obtain ⟨W5, rfl⟩ : ∃ W5 : World, W5 = wr := ⟨_, rfl⟩
    have q5 := hb5.size
    have E5_5 := Lib.hid c5_4; replace c5_5 := c5_5.trans c5_4
    have z5_5 := isRow_lt r5_5
    have z13_5 := isRow_lt r13_5
    have z14_5 := isRow_lt r14_5
    clear r5_4 c5_4 z5_4 r13_4 c13_4 z13_4 r14_4 c14_4 z14_4 hb4 hvI_4 hvS_4 hvK_4
    by_cases hlt5 : k < mI_2
    ·
     by_cases h0 : byG p (fI_2) l (fun t => F (i * 8 + t)) (k) (l k) = 0
     ·
      obtain ⟨gI_6, FI_6, eaI_6, gBI_6, gUI_6, rIx_6, hcI_6, hmI_6, cIx_6, hFbI_6, hFI_6⟩ := hvI_5.some (by omega)
      subst eaI_6
      have HFI_6 := Lib.hid hFI_6; clear hFI_6
      have HBI_6 := Lib.hid hFbI_6; clear hFbI_6
      have zIx_6 := isRow_lt rIx_6
      have n5_Ix : (w.heap.size) ≠ (gI_6) := by omega
      have n13_Ix : (a3) ≠ (gI_6) := by omega
      have n14_Ix : (b3) ≠ (gI_6) := by omega
      have nIx_5 : (gI_6) ≠ (w.heap.size) := by omega
      have nIx_13 : (gI_6) ≠ (a3) := by omega
      have nIx_14 : (gI_6) ≠ (b3) := by omega
      obtain ⟨gS_7, FS_7, eaS_7, gBS_7, gUS_7, rSx_7, hcS_7, hmS_7, cSx_7, hFbS_7, hFS_7⟩ := hvS_5.some (by omega)
      subst eaS_7
      have HFS_7 := Lib.hid hFS_7; clear hFS_7
      have HBS_7 := Lib.hid hFbS_7; clear hFbS_7
      have zSx_7 := isRow_lt rSx_7
      have neSI_7 : (gS_7) ≠ (gI_6) := by rcases (apart_symm apIS_5) with h | h <;> simp [ownB] at h; exact h
      have n5_Sx : (w.heap.size) ≠ (gS_7) := by omega
      have n13_Sx : (a3) ≠ (gS_7) := by omega
      have n14_Sx : (b3) ≠ (gS_7) := by omega
      have nIx_Sx : (gI_6) ≠ (gS_7) := by omega
      have nSx_5 : (gS_7) ≠ (w.heap.size) := by omega
      have nSx_13 : (gS_7) ≠ (a3) := by omega
      have nSx_14 : (gS_7) ≠ (b3) := by omega
      have nSx_Ix : (gS_7) ≠ (gI_6) := by omega
      have HRI : Hid (row 8 (fun t => FI_6 (k * 8 + t)) = row 8 (fI_2 k)) := Lib.hid (row_congr fun t ht => HFI_6.out k (by omega) t ht)
      have hrI := HRI.out
      have HRS : Hid (row 8 (fun t => FS_7 (k * 8 + t)) = row 8 (fS_2 k)) := Lib.hid (row_congr fun t ht => HFS_7.out k (by omega) t ht)
      have hrS := HRS.out
      obtain ⟨e1, e2, e3, e4⟩ := ech_row (sol_ech HS.out) hp' (show k < mI_2 by omega)
      have e1i : ((l k : Nat) : Int) < 8 := by omega
      have HE2 := Lib.hid e2; clear e2
      have HE4 := Lib.hid e4; clear e4
      have HB := Lib.hid (by_bytes (g := fI_2) (l := l) (k := k) hp hp' HA.out)
      have HSB : Hid (Bytes 8 (srcG p (fI_2) (fS_2) l (fun t => F (i * 8 + t)) (ebas i) (k))) := Lib.hid (lt_bytes hp' (src_range hp HEb.out k))
      have HSO : Hid (Bytes 8 (fS_2 k)) := Lib.hid (lt_bytes hp' (HS.out.soR k (by omega)))
      have hcI : k * 8 + 8 ≤ cI_2 * 8 := by omega
      have hcS : k * 8 + 8 ≤ cS_2 * 8 := by omega
      have b1 := (HB.out (l k) e1).1
      have b2 := (HB.out (l k) e1).2
      have q1 : IntKind.i64.wrap (byG p (fI_2) l (fun t => F (i * 8 + t)) (k) (l k)) = byG p (fI_2) l (fun t => F (i * 8 + t)) (k) (l k) := IntWalk.i64_in _ (by omega)
      have q2 : IntKind.i64.wrap (-byG p (fI_2) l (fun t => F (i * 8 + t)) (k) (l k)) = -byG p (fI_2) l (fun t => F (i * 8 + t)) (k) (l k) := IntWalk.i64_in _ (by omega)
      have n1 : (byG p (fI_2) l (fun t => F (i * 8 + t)) (k) (l k) == 0) = true := by simpa using h0
      have HS1 := Lib.hid (by_skip (g := fI_2) (l := l) hp HA.out h0)
      have HS2 := Lib.hid (src_skip (im := fI_2) (so := fS_2) (l := l) (v := fun t => F (i * 8 + t)) hp HEb.out h0)
      go_wp2_with fail
      refine (l01First_at (fI_2 k) (l k) _ e1 HE2.out e3).mono ?_; rintro _ W8 ⟨rfl, hw8⟩
      obtain ⟨r5_8, c5_8, z5_8⟩ := keepZ hw8 z5_5 r5_5 c5_5
      obtain ⟨r13_8, c13_8, z13_8⟩ := keepZ hw8 z13_5 r13_5 c13_5
      obtain ⟨r14_8, c14_8, z14_8⟩ := keepZ hw8 z14_5 r14_5 c14_5
      obtain ⟨rIx_8, cIx_8, zIx_8⟩ := keepZ hw8 zIx_6 rIx_6 cIx_6
      obtain ⟨rSx_8, cSx_8, zSx_8⟩ := keepZ hw8 zSx_7 rSx_7 cSx_7
      obtain ⟨hb8, q8⟩ := bN hb5 hw8
      have sz8 := hw8.size
      have hvI_8 := hvI_5.below hw8 (by omega)
      have hvS_8 := hvS_5.below hw8 (by omega)
      have hvK_8 := hvK_5.below hw8 (by omega)
      clear hw8 hvI_5 hvS_5 hvK_5 r5_5 c5_5 z5_5 r13_5 c13_5 z13_5 r14_5 c14_5 z14_5 rIx_6 cIx_6 zIx_6 rSx_7 cSx_7 zSx_7 hb5
      go_wp2
      go_roundw
      case rel => exact ⟨k + 1, by omega, by go_num, bt, ⟨by simp [go_sem, r5_8, c5_8, n5_13, n5_14, n5_Ix, n5_Sx, r13_8, c13_8, n13_5, n13_14, n13_Ix, n13_Sx, r14_8, c14_8, n14_5, n14_13, n14_Ix, n14_Sx, rIx_8, cIx_8, nIx_5, nIx_13, nIx_14, nIx_Sx, rSx_8, cSx_8, nSx_5, nSx_13, nSx_14, nSx_Ix], (by rw [E5_5.out]; first | exact c5_8 | (simp [go_sem, r5_8, c5_8, n5_13, n5_14, n5_Ix, n5_Sx, r13_8, c13_8, n13_5, n13_14, n13_Ix, n13_Sx, r14_8, c14_8, n14_5, n14_13, n14_Ix, n14_Sx, rIx_8, cIx_8, nIx_5, nIx_13, nIx_14, nIx_Sx, rSx_8, cSx_8, nSx_5, nSx_13, nSx_14, nSx_Ix]; done))⟩, ⟨by simp [go_sem, r5_8, c5_8, n5_13, n5_14, n5_Ix, n5_Sx, r13_8, c13_8, n13_5, n13_14, n13_Ix, n13_Sx, r14_8, c14_8, n14_5, n14_13, n14_Ix, n14_Sx, rIx_8, cIx_8, nIx_5, nIx_13, nIx_14, nIx_Sx, rSx_8, cSx_8, nSx_5, nSx_13, nSx_14, nSx_Ix], (by first | exact (c13_8).trans (HS1.out) | (simp [go_sem, r5_8, c5_8, n5_13, n5_14, n5_Ix, n5_Sx, r13_8, c13_8, n13_5, n13_14, n13_Ix, n13_Sx, r14_8, c14_8, n14_5, n14_13, n14_Ix, n14_Sx, rIx_8, cIx_8, nIx_5, nIx_13, nIx_14, nIx_Sx, rSx_8, cSx_8, nSx_5, nSx_13, nSx_14, nSx_Ix]; exact HS1.out))⟩, ⟨by simp [go_sem, r5_8, c5_8, n5_13, n5_14, n5_Ix, n5_Sx, r13_8, c13_8, n13_5, n13_14, n13_Ix, n13_Sx, r14_8, c14_8, n14_5, n14_13, n14_Ix, n14_Sx, rIx_8, cIx_8, nIx_5, nIx_13, nIx_14, nIx_Sx, rSx_8, cSx_8, nSx_5, nSx_13, nSx_14, nSx_Ix], (by first | exact (c14_8).trans (HS2.out) | (simp [go_sem, r5_8, c5_8, n5_13, n5_14, n5_Ix, n5_Sx, r13_8, c13_8, n13_5, n13_14, n13_Ix, n13_Sx, r14_8, c14_8, n14_5, n14_13, n14_Ix, n14_Sx, rIx_8, cIx_8, nIx_5, nIx_13, nIx_14, nIx_Sx, rSx_8, cSx_8, nSx_5, nSx_13, nSx_14, nSx_Ix]; exact HS2.out))⟩, vtV, bu, vtV, bu, vtV, bu, apIK_5, apIS_5, apKS_5⟩
      case measure => simp [intOf]; try omega
     ·
      obtain ⟨gI_9, FI_9, eaI_9, gBI_9, gUI_9, rIx_9, hcI_9, hmI_9, cIx_9, hFbI_9, hFI_9⟩ := hvI_5.some (by omega)
      subst eaI_9
      have HFI_9 := Lib.hid hFI_9; clear hFI_9
      have HBI_9 := Lib.hid hFbI_9; clear hFbI_9
      have zIx_9 := isRow_lt rIx_9
      have n5_Ix : (w.heap.size) ≠ (gI_9) := by omega
      have n13_Ix : (a3) ≠ (gI_9) := by omega
      have n14_Ix : (b3) ≠ (gI_9) := by omega
      have nIx_5 : (gI_9) ≠ (w.heap.size) := by omega
      have nIx_13 : (gI_9) ≠ (a3) := by omega
      have nIx_14 : (gI_9) ≠ (b3) := by omega
      obtain ⟨gS_10, FS_10, eaS_10, gBS_10, gUS_10, rSx_10, hcS_10, hmS_10, cSx_10, hFbS_10, hFS_10⟩ := hvS_5.some (by omega)
      subst eaS_10
      have HFS_10 := Lib.hid hFS_10; clear hFS_10
      have HBS_10 := Lib.hid hFbS_10; clear hFbS_10
      have zSx_10 := isRow_lt rSx_10
      have neSI_10 : (gS_10) ≠ (gI_9) := by rcases (apart_symm apIS_5) with h | h <;> simp [ownB] at h; exact h
      have n5_Sx : (w.heap.size) ≠ (gS_10) := by omega
      have n13_Sx : (a3) ≠ (gS_10) := by omega
      have n14_Sx : (b3) ≠ (gS_10) := by omega
      have nIx_Sx : (gI_9) ≠ (gS_10) := by omega
      have nSx_5 : (gS_10) ≠ (w.heap.size) := by omega
      have nSx_13 : (gS_10) ≠ (a3) := by omega
      have nSx_14 : (gS_10) ≠ (b3) := by omega
      have nSx_Ix : (gS_10) ≠ (gI_9) := by omega
      have HRI : Hid (row 8 (fun t => FI_9 (k * 8 + t)) = row 8 (fI_2 k)) := Lib.hid (row_congr fun t ht => HFI_9.out k (by omega) t ht)
      have hrI := HRI.out
      have HRS : Hid (row 8 (fun t => FS_10 (k * 8 + t)) = row 8 (fS_2 k)) := Lib.hid (row_congr fun t ht => HFS_10.out k (by omega) t ht)
      have hrS := HRS.out
      obtain ⟨e1, e2, e3, e4⟩ := ech_row (sol_ech HS.out) hp' (show k < mI_2 by omega)
      have e1i : ((l k : Nat) : Int) < 8 := by omega
      have HE2 := Lib.hid e2; clear e2
      have HE4 := Lib.hid e4; clear e4
      have HB := Lib.hid (by_bytes (g := fI_2) (l := l) (k := k) hp hp' HA.out)
      have HSB : Hid (Bytes 8 (srcG p (fI_2) (fS_2) l (fun t => F (i * 8 + t)) (ebas i) (k))) := Lib.hid (lt_bytes hp' (src_range hp HEb.out k))
      have HSO : Hid (Bytes 8 (fS_2 k)) := Lib.hid (lt_bytes hp' (HS.out.soR k (by omega)))
      have hcI : k * 8 + 8 ≤ cI_2 * 8 := by omega
      have hcS : k * 8 + 8 ≤ cS_2 * 8 := by omega
      have b1 := (HB.out (l k) e1).1
      have b2 := (HB.out (l k) e1).2
      have q1 : IntKind.i64.wrap (byG p (fI_2) l (fun t => F (i * 8 + t)) (k) (l k)) = byG p (fI_2) l (fun t => F (i * 8 + t)) (k) (l k) := IntWalk.i64_in _ (by omega)
      have q2 : IntKind.i64.wrap (-byG p (fI_2) l (fun t => F (i * 8 + t)) (k) (l k)) = -byG p (fI_2) l (fun t => F (i * 8 + t)) (k) (l k) := IntWalk.i64_in _ (by omega)
      have n1 : (byG p (fI_2) l (fun t => F (i * 8 + t)) (k) (l k) == 0) = false := by simpa using h0
      go_wp2_with fail
      refine (l01First_at (fI_2 k) (l k) _ e1 HE2.out e3).mono ?_; rintro _ W11 ⟨rfl, hw11⟩
      obtain ⟨r5_11, c5_11, z5_11⟩ := keepZ hw11 z5_5 r5_5 c5_5
      obtain ⟨r13_11, c13_11, z13_11⟩ := keepZ hw11 z13_5 r13_5 c13_5
      obtain ⟨r14_11, c14_11, z14_11⟩ := keepZ hw11 z14_5 r14_5 c14_5
      obtain ⟨rIx_11, cIx_11, zIx_11⟩ := keepZ hw11 zIx_9 rIx_9 cIx_9
      obtain ⟨rSx_11, cSx_11, zSx_11⟩ := keepZ hw11 zSx_10 rSx_10 cSx_10
      obtain ⟨hb11, q11⟩ := bN hb5 hw11
      have sz11 := hw11.size
      have hvI_11 := hvI_5.below hw11 (by omega)
      have hvS_11 := hvS_5.below hw11 (by omega)
      have hvK_11 := hvK_5.below hw11 (by omega)
      clear hw11 hvI_5 hvS_5 hvK_5 r5_5 c5_5 z5_5 r13_5 c13_5 z13_5 r14_5 c14_5 z14_5 rIx_9 cIx_9 zIx_9 rSx_10 cSx_10 zSx_10 hb5
      go_wp2
      refine wp_quiet_tail 8 (Below W11.heap.size W11) (by kernel_rfl) (by kernel_rfl) (Below.refl _ _).drew ?_
      simp only [List.take_succ_cons, List.take_zero, List.drop_succ_cons, List.drop_zero]
      iterate 7 (refine q_plain rfl ?_; apply Exists.intro; refine ⟨fun W hW => ?_, ?_⟩; (focus (obtain ⟨x5, y5⟩ := keepB hW z5_11 r5_11 c5_11; obtain ⟨x13, y13⟩ := keepB hW z13_11 r13_11 c13_11; obtain ⟨x14, y14⟩ := keepB hW z14_11 r14_11 c14_11; obtain ⟨xIx, yIx⟩ := keepB hW zIx_11 rIx_11 cIx_11; obtain ⟨xSx, ySx⟩ := keepB hW zSx_11 rSx_11 cSx_11; go_simp; first | done | rfl)); simp only [Act.put, List.setIfInBounds_toArray, List.set_cons_zero, List.set_cons_succ])
      (refine q_plain rfl ?_; apply Exists.intro; refine ⟨fun W hW => ?_, ?_⟩; (focus (obtain ⟨x5, y5⟩ := keepB hW z5_11 r5_11 c5_11; obtain ⟨x13, y13⟩ := keepB hW z13_11 r13_11 c13_11; obtain ⟨x14, y14⟩ := keepB hW z14_11 r14_11 c14_11; obtain ⟨xIx, yIx⟩ := keepB hW zIx_11 rIx_11 cIx_11; obtain ⟨xSx, ySx⟩ := keepB hW zSx_11 rSx_11 cSx_11; go_simp; (go_at_call 57; exact (l01Add_any _ _ _ _ _ hp hp' (by omega) (by omega) HB.out HE4.out).mono fun e w2 ⟨he, hw2⟩ => ⟨he, hW.trans (hw2.mono hW.size)⟩))); simp only [Act.put, List.setIfInBounds_toArray, List.set_cons_zero, List.set_cons_succ])
      refine wpQuiet_nil ?_
      intro W12 hw12
      obtain ⟨r5_12, c5_12, z5_12⟩ := keepZ hw12 z5_11 r5_11 c5_11
      obtain ⟨r13_12, c13_12, z13_12⟩ := keepZ hw12 z13_11 r13_11 c13_11
      obtain ⟨r14_12, c14_12, z14_12⟩ := keepZ hw12 z14_11 r14_11 c14_11
      obtain ⟨rIx_12, cIx_12, zIx_12⟩ := keepZ hw12 zIx_11 rIx_11 cIx_11
      obtain ⟨rSx_12, cSx_12, zSx_12⟩ := keepZ hw12 zSx_11 rSx_11 cSx_11
      obtain ⟨hb12, q12⟩ := bN hb11 hw12
      have sz12 := hw12.size
      have hvI_12 := hvI_11.below hw12 (by omega)
      have hvS_12 := hvS_11.below hw12 (by omega)
      have hvK_12 := hvK_11.below hw12 (by omega)
      clear hw12 hvI_11 hvS_11 hvK_11 r5_11 c5_11 z5_11 r13_11 c13_11 z13_11 r14_11 c14_11 z14_11 rIx_11 cIx_11 zIx_11 rSx_11 cSx_11 zSx_11 hb11
      go_wp2
      refine atomW fun W13 e13 => ?_
      have hb13 : Below w.heap.size w W13 := by rw [e13]; exact bt
      have q13 := hb13.size
      have R13 : IsRow W13 (w.heap.size) ∧ IsRow W13 (a3) ∧ IsRow W13 (b3) ∧ IsRow W13 (gI_9) ∧ IsRow W13 (gS_10) := by rw [e13]; simp [go_sem, r5_12, c5_12, n5_13, n5_14, n5_Ix, n5_Sx, r13_12, c13_12, n13_5, n13_14, n13_Ix, n13_Sx, r14_12, c14_12, n14_5, n14_13, n14_Ix, n14_Sx, rIx_12, cIx_12, nIx_5, nIx_13, nIx_14, nIx_Sx, rSx_12, cSx_12, nSx_5, nSx_13, nSx_14, nSx_Ix]
      obtain ⟨r5_13, r13_13, r14_13, rIx_13, rSx_13⟩ := R13
      have C13 := (⟨congrArg (blk · (w.heap.size)) e13, congrArg (blk · (a3)) e13, congrArg (blk · (b3)) e13, congrArg (blk · (gI_9)) e13, congrArg (blk · (gS_10)) e13⟩ : _ ∧ _ ∧ _ ∧ _ ∧ _); simp [go_sem, r5_12, c5_12, n5_13, n5_14, n5_Ix, n5_Sx, r13_12, c13_12, n13_5, n13_14, n13_Ix, n13_Sx, r14_12, c14_12, n14_5, n14_13, n14_Ix, n14_Sx, rIx_12, cIx_12, nIx_5, nIx_13, nIx_14, nIx_Sx, rSx_12, cSx_12, nSx_5, nSx_13, nSx_14, nSx_Ix] at C13
      obtain ⟨c5_13, c13_13, c14_13, cIx_13, cSx_13⟩ := C13
      have z5_13 := isRow_lt r5_13; have z13_13 := isRow_lt r13_13; have z14_13 := isRow_lt r14_13; have zIx_13 := isRow_lt rIx_13; have zSx_13 := isRow_lt rSx_13
      have hvI_13 : VL W13 (w.heap.size + 1) (UI_2) (some ⟨gI_9, 0, none⟩) (mI_2) (cI_2) (fI_2) := by rw [e13]; exact vtV
      have hvS_13 : VL W13 (w.heap.size + 2) (US_2) (some ⟨gS_10, 0, none⟩) (mI_2) (cS_2) (fS_2) := by rw [e13]; exact vtV
      have hvK_13 : VL W13 (w.heap.size + 3) (UK_2) (aK_2) (mK_2) (cK_2) (fK_2) := by rw [e13]; exact vtV
      clear e13 r5_12 c5_12 z5_12 r13_12 c13_12 z13_12 r14_12 c14_12 z14_12 rIx_12 cIx_12 zIx_12 rSx_12 cSx_12 zSx_12 hvI_12 hvS_12 hvK_12 hb12
      refine wp_quiet_tail 8 (Below W13.heap.size W13) (by kernel_rfl) (by kernel_rfl) (Below.refl _ _).drew ?_
      simp only [List.take_succ_cons, List.take_zero, List.drop_succ_cons, List.drop_zero]
      iterate 7 (refine q_plain rfl ?_; apply Exists.intro; refine ⟨fun W hW => ?_, ?_⟩; (focus (obtain ⟨x5, y5⟩ := keepB hW z5_13 r5_13 c5_13; obtain ⟨x13, y13⟩ := keepB hW z13_13 r13_13 c13_13; obtain ⟨x14, y14⟩ := keepB hW z14_13 r14_13 c14_13; obtain ⟨xIx, yIx⟩ := keepB hW zIx_13 rIx_13 cIx_13; obtain ⟨xSx, ySx⟩ := keepB hW zSx_13 rSx_13 cSx_13; go_simp; first | done | rfl)); simp only [Act.put, List.setIfInBounds_toArray, List.set_cons_zero, List.set_cons_succ])
      (refine q_plain rfl ?_; apply Exists.intro; refine ⟨fun W hW => ?_, ?_⟩; (focus (obtain ⟨x5, y5⟩ := keepB hW z5_13 r5_13 c5_13; obtain ⟨x13, y13⟩ := keepB hW z13_13 r13_13 c13_13; obtain ⟨x14, y14⟩ := keepB hW z14_13 r14_13 c14_13; obtain ⟨xIx, yIx⟩ := keepB hW zIx_13 rIx_13 cIx_13; obtain ⟨xSx, ySx⟩ := keepB hW zSx_13 rSx_13 cSx_13; go_simp; (go_at_call 57; exact (l01Add_any _ _ _ _ _ hp hp' (by omega) (by omega) HSB.out HSO.out).mono fun e w2 ⟨he, hw2⟩ => ⟨he, hW.trans (hw2.mono hW.size)⟩))); simp only [Act.put, List.setIfInBounds_toArray, List.set_cons_zero, List.set_cons_succ])
      refine wpQuiet_nil ?_
      intro W14 hw14
      obtain ⟨r5_14, c5_14, z5_14⟩ := keepZ hw14 z5_13 r5_13 c5_13
      obtain ⟨r13_14, c13_14, z13_14⟩ := keepZ hw14 z13_13 r13_13 c13_13
      obtain ⟨r14_14, c14_14, z14_14⟩ := keepZ hw14 z14_13 r14_13 c14_13
      obtain ⟨rIx_14, cIx_14, zIx_14⟩ := keepZ hw14 zIx_13 rIx_13 cIx_13
      obtain ⟨rSx_14, cSx_14, zSx_14⟩ := keepZ hw14 zSx_13 rSx_13 cSx_13
      obtain ⟨hb14, q14⟩ := bN hb13 hw14
      have sz14 := hw14.size
      have hvI_14 := hvI_13.below hw14 (by omega)
      have hvS_14 := hvS_13.below hw14 (by omega)
      have hvK_14 := hvK_13.below hw14 (by omega)
      clear hw14 hvI_13 hvS_13 hvK_13 r5_13 c5_13 z5_13 r13_13 c13_13 z13_13 r14_13 c14_13 z14_13 rIx_13 cIx_13 zIx_13 rSx_13 cSx_13 zSx_13 hb13
      go_wp2
      go_roundw
      case rel => exact ⟨k + 1, by omega, by go_num, bt, ⟨by simp [go_sem, r5_14, c5_14, n5_13, n5_14, n5_Ix, n5_Sx, r13_14, c13_14, n13_5, n13_14, n13_Ix, n13_Sx, r14_14, c14_14, n14_5, n14_13, n14_Ix, n14_Sx, rIx_14, cIx_14, nIx_5, nIx_13, nIx_14, nIx_Sx, rSx_14, cSx_14, nSx_5, nSx_13, nSx_14, nSx_Ix], (by rw [E5_5.out]; first | exact c5_14 | (simp [go_sem, r5_14, c5_14, n5_13, n5_14, n5_Ix, n5_Sx, r13_14, c13_14, n13_5, n13_14, n13_Ix, n13_Sx, r14_14, c14_14, n14_5, n14_13, n14_Ix, n14_Sx, rIx_14, cIx_14, nIx_5, nIx_13, nIx_14, nIx_Sx, rSx_14, cSx_14, nSx_5, nSx_13, nSx_14, nSx_Ix]; done))⟩, ⟨by simp [go_sem, r5_14, c5_14, n5_13, n5_14, n5_Ix, n5_Sx, r13_14, c13_14, n13_5, n13_14, n13_Ix, n13_Sx, r14_14, c14_14, n14_5, n14_13, n14_Ix, n14_Sx, rIx_14, cIx_14, nIx_5, nIx_13, nIx_14, nIx_Sx, rSx_14, cSx_14, nSx_5, nSx_13, nSx_14, nSx_Ix], (by first | (rw [blk_setRow _ _ _ _ r13_14, if_pos rfl]; exact by_step) | exact (c13_14).trans (by_step) | (simp [go_sem, r5_14, c5_14, n5_13, n5_14, n5_Ix, n5_Sx, r13_14, c13_14, n13_5, n13_14, n13_Ix, n13_Sx, r14_14, c14_14, n14_5, n14_13, n14_Ix, n14_Sx, rIx_14, cIx_14, nIx_5, nIx_13, nIx_14, nIx_Sx, rSx_14, cSx_14, nSx_5, nSx_13, nSx_14, nSx_Ix]; exact by_step))⟩, ⟨by simp [go_sem, r5_14, c5_14, n5_13, n5_14, n5_Ix, n5_Sx, r13_14, c13_14, n13_5, n13_14, n13_Ix, n13_Sx, r14_14, c14_14, n14_5, n14_13, n14_Ix, n14_Sx, rIx_14, cIx_14, nIx_5, nIx_13, nIx_14, nIx_Sx, rSx_14, cSx_14, nSx_5, nSx_13, nSx_14, nSx_Ix], (by first | (rw [blk_setRow _ _ _ _ r14_14, if_pos rfl]; exact src_step) | exact (c14_14).trans (src_step) | (simp [go_sem, r5_14, c5_14, n5_13, n5_14, n5_Ix, n5_Sx, r13_14, c13_14, n13_5, n13_14, n13_Ix, n13_Sx, r14_14, c14_14, n14_5, n14_13, n14_Ix, n14_Sx, rIx_14, cIx_14, nIx_5, nIx_13, nIx_14, nIx_Sx, rSx_14, cSx_14, nSx_5, nSx_13, nSx_14, nSx_Ix]; exact src_step))⟩, vtV, bu, vtV, bu, vtV, bu, apIK_5, apIS_5, apKS_5⟩
      case measure => simp [intOf]; try omega
    ·
     obtain rfl : mI_2 = k := by omega
     cases hz : segEq 0 8 (byG p (fI_2) l (fun t => F (i * 8 + t)) (mI_2)) zf
     ·
      obtain ⟨q, hq, hlow, hne⟩ := first_place hz
      have Hlow := Lib.hid hlow; clear hlow
      have HBm := Lib.hid (by_bytes (g := fI_2) (l := l) (k := mI_2) hp hp' HA.out)
      have HSm : Hid (Bytes 8 (srcG p (fI_2) (fS_2) l (fun t => F (i * 8 + t)) (ebas i) (mI_2))) := Lib.hid (lt_bytes hp' (src_range hp HEb.out _))
      have hqr := by_range (g := fI_2) (l := l) hp HA.out (mI_2) q hq
      have h0 : 0 < byG p (fI_2) l (fun t => F (i * 8 + t)) (mI_2) q := by omega
      have h1 := hqr.2
      clear hqr
      obtain ⟨i1, i2, i3⟩ := invN_spec Hpr.out h0 h1
      have HI3 := Lib.hid i3; clear i3
      have hqi : (q : Int) < 8 := by omega
      have q3 : IntKind.i64.wrap ((invN p (byG p (fI_2) l (fun t => F (i * 8 + t)) (mI_2) q) : Nat) : Int) = ((invN p (byG p (fI_2) l (fun t => F (i * 8 + t)) (mI_2) q) : Nat) : Int) := IntWalk.i64_in _ (by omega)
      have HZf : Hid (Bytes 8 zf) := Lib.hid fun t _ => by unfold zf; omega
      go_wp2_with fail
      refine (l01Zero_any _ _).mono ?_; rintro _ W15 ⟨rfl, hw15⟩
      obtain ⟨r5_15, c5_15, z5_15⟩ := keepZ hw15 z5_5 r5_5 c5_5
      obtain ⟨r13_15, c13_15, z13_15⟩ := keepZ hw15 z13_5 r13_5 c13_5
      obtain ⟨r14_15, c14_15, z14_15⟩ := keepZ hw15 z14_5 r14_5 c14_5
      obtain ⟨hb15, q15⟩ := bN hb5 hw15
      have sz15 := hw15.size
      have hvI_15 := hvI_5.below hw15 (by omega)
      have hvS_15 := hvS_5.below hw15 (by omega)
      have hvK_15 := hvK_5.below hw15 (by omega)
      clear hw15 hvI_5 hvS_5 hvK_5 r5_5 c5_5 z5_5 r13_5 c13_5 z13_5 r14_5 c14_5 z14_5 hb5
      go_wp2_with fail
      refine (l01First_at (byG p (fI_2) l (fun t => F (i * 8 + t)) (mI_2)) q _ hq Hlow.out hne).mono ?_; rintro _ W16 ⟨rfl, hw16⟩
      obtain ⟨r5_16, c5_16, z5_16⟩ := keepZ hw16 z5_15 r5_15 c5_15
      obtain ⟨r13_16, c13_16, z13_16⟩ := keepZ hw16 z13_15 r13_15 c13_15
      obtain ⟨r14_16, c14_16, z14_16⟩ := keepZ hw16 z14_15 r14_15 c14_15
      obtain ⟨hb16, q16⟩ := bN hb15 hw16
      have sz16 := hw16.size
      have hvI_16 := hvI_15.below hw16 (by omega)
      have hvS_16 := hvS_15.below hw16 (by omega)
      have hvK_16 := hvK_15.below hw16 (by omega)
      clear hw16 hvI_15 hvS_15 hvK_15 r5_15 c5_15 z5_15 r13_15 c13_15 z13_15 r14_15 c14_15 z14_15 hb15
      go_wp2_with fail
      refine (l01Inverse_any _ _ _ Hpr.out h0 h1).mono ?_; rintro _ W17 ⟨rfl, hw17⟩
      obtain ⟨r5_17, c5_17, z5_17⟩ := keepZ hw17 z5_16 r5_16 c5_16
      obtain ⟨r13_17, c13_17, z13_17⟩ := keepZ hw17 z13_16 r13_16 c13_16
      obtain ⟨r14_17, c14_17, z14_17⟩ := keepZ hw17 z14_16 r14_16 c14_16
      obtain ⟨hb17, q17⟩ := bN hb16 hw17
      have sz17 := hw17.size
      have hvI_17 := hvI_16.below hw17 (by omega)
      have hvS_17 := hvS_16.below hw17 (by omega)
      have hvK_17 := hvK_16.below hw17 (by omega)
      clear hw17 hvI_16 hvS_16 hvK_16 r5_16 c5_16 z5_16 r13_16 c13_16 z13_16 r14_16 c14_16 z14_16 hb16
      go_wp2_with fail
      refine (l01Add_any _ _ _ _ _ hp hp' (by omega) (by omega) HZf.out HBm.out).mono ?_; rintro _ W18 ⟨rfl, hw18⟩
      obtain ⟨r5_18, c5_18, z5_18⟩ := keepZ hw18 z5_17 r5_17 c5_17
      obtain ⟨r14_18, c14_18, z14_18⟩ := keepZ hw18 z14_17 r14_17 c14_17
      obtain ⟨hb18, q18⟩ := bN hb17 hw18
      have sz18 := hw18.size
      have hvI_18 := hvI_17.below hw18 (by omega)
      have hvS_18 := hvS_17.below hw18 (by omega)
      have hvK_18 := hvK_17.below hw18 (by omega)
      clear hw18 hvI_17 hvS_17 hvK_17 r5_17 c5_17 z5_17 r14_17 c14_17 z14_17 hb17
      go_wp2_with (at_builtin; refine atomL ?_)
      have nw5_W18_0 : (w.heap.size) ≠ W18.heap.size := by omega
      have nw14_W18_0 : (b3) ≠ W18.heap.size := by omega
      intro W19 e19
      have hb19 : Below w.heap.size w W19 := by rw [e19]; exact bt
      have q19 := hb19.size
      have R19 : IsRow W19 (w.heap.size) ∧ IsRow W19 (b3) ∧ IsRow W19 (W18.heap.size) := by rw [e19]; simp [go_sem, r5_18, c5_18, n5_13, n5_14, r14_18, c14_18, n14_5, n14_13, nw5_W18_0, nw14_W18_0]
      obtain ⟨r5_19, r14_19, r87_19⟩ := R19
      have C19 := (⟨congrArg (blk · (w.heap.size)) e19, congrArg (blk · (b3)) e19, congrArg (blk · (W18.heap.size)) e19⟩ : _ ∧ _ ∧ _); simp [go_sem, r5_18, c5_18, n5_13, n5_14, r14_18, c14_18, n14_5, n14_13, nw5_W18_0, nw14_W18_0] at C19
      obtain ⟨c5_19, c14_19, c87_19⟩ := C19
      have z5_19 := isRow_lt r5_19; have z14_19 := isRow_lt r14_19; have z87_19 := isRow_lt r87_19
      have n5_87 : (w.heap.size) ≠ (W18.heap.size) := by omega
      have n14_87 : (b3) ≠ (W18.heap.size) := by omega
      have n87_5 : (W18.heap.size) ≠ (w.heap.size) := by omega
      have n87_14 : (W18.heap.size) ≠ (b3) := by omega
      have hvI_19 : VL W19 (w.heap.size + 1) (UI_2) (aI_2) (mI_2) (cI_2) (fI_2) := by rw [e19]; exact vtV
      have hvS_19 : VL W19 (w.heap.size + 2) (US_2) (aS_2) (mI_2) (cS_2) (fS_2) := by rw [e19]; exact vtV
      have hvK_19 : VL W19 (w.heap.size + 3) (UK_2) (aK_2) (mK_2) (cK_2) (fK_2) := by rw [e19]; exact vtV
      clear e19 nw5_W18_0 nw14_W18_0 r5_18 c5_18 z5_18 r14_18 c14_18 z14_18 hvI_18 hvS_18 hvK_18 hb18
      refine appendV _ rfl _ _ rfl hvI_19 (by omega) (by omega) rfl _ _ (scaF p ((invN p (byG p (fI_2) l (fun t => F (i * 8 + t)) (mI_2) q) : Nat) : Int) (byG p (fI_2) l (fun t => F (i * 8 + t)) (mI_2))) rfl (c87_19.trans sca_row) (sca_bytes hp hp' _ _) ?_
      intro aI_20 cI_20 W20 hg20 ha20 hvI_20
      obtain ⟨r5_20, c5_20⟩ := keepG hg20 (hvI_19.ne (by omega)) r5_19 c5_19
      have z5_20 := isRow_lt r5_20
      obtain ⟨r14_20, c14_20⟩ := keepG hg20 (hvI_19.ne (by omega)) r14_19 c14_19
      have z14_20 := isRow_lt r14_20
      have hb20 := below_own hb19 hvI_19 hg20 (by omega) (by omega)
      have q20 := hb20.size
      have sz20 := hg20.size
      have hvS_20 := hvS_19.grown hg20 (apart_symm apIS_5)
      have apSI_20 := apart_new (apart_symm apIS_5) hvS_19 (by omega) ha20
      have hvK_20 := hvK_19.grown hg20 (apart_symm apIK_5)
      have apKI_20 := apart_new (apart_symm apIK_5) hvK_19 (by omega) ha20
      clear hg20 ha20 r5_19 c5_19 z5_19 r14_19 c14_19 z14_19 hvS_19 hvK_19 hvI_19 hb19
      go_wp2_with fail
      refine (l01Add_any _ _ _ _ _ hp hp' (by omega) (by omega) HZf.out HSm.out).mono ?_; rintro _ W21 ⟨rfl, hw21⟩
      obtain ⟨r5_21, c5_21, z5_21⟩ := keepZ hw21 z5_20 r5_20 c5_20
      obtain ⟨hb21, q21⟩ := bN hb20 hw21
      have sz21 := hw21.size
      have hvI_21 := hvI_20.below hw21 (by omega)
      have hvS_21 := hvS_20.below hw21 (by omega)
      have hvK_21 := hvK_20.below hw21 (by omega)
      clear hw21 hvI_20 hvS_20 hvK_20 r5_20 c5_20 z5_20 hb20
      go_wp2_with (at_builtin; refine atomL ?_)
      have nw5_W21_0 : (w.heap.size) ≠ W21.heap.size := by omega
      intro W22 e22
      have hb22 : Below w.heap.size w W22 := by rw [e22]; exact bt
      have q22 := hb22.size
      have R22 : IsRow W22 (w.heap.size) ∧ IsRow W22 (W21.heap.size) := by rw [e22]; simp [go_sem, r5_21, c5_21, n5_14, nw5_W21_0]
      obtain ⟨r5_22, r95_22⟩ := R22
      have C22 := (⟨congrArg (blk · (w.heap.size)) e22, congrArg (blk · (W21.heap.size)) e22⟩ : _ ∧ _); simp [go_sem, r5_21, c5_21, n5_14, nw5_W21_0] at C22
      obtain ⟨c5_22, c95_22⟩ := C22
      have z5_22 := isRow_lt r5_22; have z95_22 := isRow_lt r95_22
      have n5_95 : (w.heap.size) ≠ (W21.heap.size) := by omega
      have n95_5 : (W21.heap.size) ≠ (w.heap.size) := by omega
      have hvI_22 : VL W22 (w.heap.size + 1) (W20.heap.size) (aI_20) (mI_2 + 1) (cI_20) (addV (fI_2) (mI_2) (scaF p ((invN p (byG p (fI_2) l (fun t => F (i * 8 + t)) (mI_2) q) : Nat) : Int) (byG p (fI_2) l (fun t => F (i * 8 + t)) (mI_2)))) := by rw [e22]; exact vtV
      have hvS_22 : VL W22 (w.heap.size + 2) (US_2) (aS_2) (mI_2) (cS_2) (fS_2) := by rw [e22]; exact vtV
      have hvK_22 : VL W22 (w.heap.size + 3) (UK_2) (aK_2) (mK_2) (cK_2) (fK_2) := by rw [e22]; exact vtV
      clear e22 nw5_W21_0 r5_21 c5_21 z5_21 hvI_21 hvS_21 hvK_21 hb21
      refine appendV _ rfl _ _ rfl hvS_22 (by omega) (by omega) rfl _ _ (scaF p ((invN p (byG p (fI_2) l (fun t => F (i * 8 + t)) (mI_2) q) : Nat) : Int) (srcG p (fI_2) (fS_2) l (fun t => F (i * 8 + t)) (ebas i) (mI_2))) rfl (c95_22.trans sca_row) (sca_bytes hp hp' _ _) ?_
      intro aS_23 cS_23 W23 hg23 ha23 hvS_23
      obtain ⟨r5_23, c5_23⟩ := keepG hg23 (hvS_22.ne (by omega)) r5_22 c5_22
      have z5_23 := isRow_lt r5_23
      have hb23 := below_own hb22 hvS_22 hg23 (by omega) (by omega)
      have q23 := hb23.size
      have sz23 := hg23.size
      have hvI_23 := hvI_22.grown hg23 (apart_symm apSI_20)
      have apIS_23 := apart_new (apart_symm apSI_20) hvI_22 (by omega) ha23
      have hvK_23 := hvK_22.grown hg23 apKS_5
      have apKS_23 := apart_new apKS_5 hvK_22 (by omega) ha23
      clear hg23 ha23 r5_22 c5_22 z5_22 hvI_22 hvK_22 hvS_22 hb22
      go_wp2
      go_roundw
      case rel => exact ⟨i + 1, (aI_20), (cI_20), (W20.heap.size), (mI_2 + 1), (addV (fI_2) (mI_2) (scaF p ((invN p (byG p (fI_2) l (fun t => F (i * 8 + t)) (mI_2) q) : Nat) : Int) (byG p (fI_2) l (fun t => F (i * 8 + t)) (mI_2)))), (aS_23), (cS_23), (W23.heap.size), (addV (fS_2) (mI_2) (scaF p ((invN p (byG p (fI_2) l (fun t => F (i * 8 + t)) (mI_2) q) : Nat) : Int) (srcG p (fI_2) (fS_2) l (fun t => F (i * 8 + t)) (ebas i) (mI_2)))), (aK_2), (cK_2), (UK_2), (mK_2), (fK_2), by omega, (by first | rfl | go_num | (simp; done)), (by first | rfl | go_num | (simp; done)), (by first | rfl | go_num | (simp; done)), by go_num, bt, ⟨by simp [go_sem, r5_23, c5_23], (by rw [E5_2.out]; first | exact c5_23 | (simp [go_sem, r5_23, c5_23]; done))⟩, vtV, bu, vtV, bu, vtV, bu, (apart_symm apKI_20), apIS_23, apKS_23, ⟨by omega, _, sol_img (p2_of Hpr.out) hn hlt0 HA.out HS.out hq Hlow.out HI3.out⟩⟩
      case measure => simp [intOf]; try omega
     ·
      have HSm : Hid (Bytes 8 (srcG p (fI_2) (fS_2) l (fun t => F (i * 8 + t)) (ebas i) (mI_2))) := Lib.hid (lt_bytes hp' (src_range hp HEb.out _))
      have Hz := Lib.hid (zero_of hz)
      go_wp2_with fail
      refine (l01Zero_any _ _).mono ?_; rintro _ W24 ⟨rfl, hw24⟩
      obtain ⟨r5_24, c5_24, z5_24⟩ := keepZ hw24 z5_5 r5_5 c5_5
      obtain ⟨r13_24, c13_24, z13_24⟩ := keepZ hw24 z13_5 r13_5 c13_5
      obtain ⟨r14_24, c14_24, z14_24⟩ := keepZ hw24 z14_5 r14_5 c14_5
      obtain ⟨hb24, q24⟩ := bN hb5 hw24
      have sz24 := hw24.size
      have hvI_24 := hvI_5.below hw24 (by omega)
      have hvS_24 := hvS_5.below hw24 (by omega)
      have hvK_24 := hvK_5.below hw24 (by omega)
      clear hw24 hvI_5 hvS_5 hvK_5 r5_5 c5_5 z5_5 r13_5 c13_5 z13_5 r14_5 c14_5 z14_5 hb5
      go_wp2_with (at_builtin; refine atomL ?_)
      have nw5_W24_0 : (w.heap.size) ≠ W24.heap.size := by omega
      intro W25 e25
      have hb25 : Below w.heap.size w W25 := by rw [e25]; exact bt
      have q25 := hb25.size
      have R25 : IsRow W25 (w.heap.size) ∧ IsRow W25 (W24.heap.size) := by rw [e25]; simp [go_sem, r5_24, c5_24, n5_13, n5_14, nw5_W24_0, r13_24, r14_24]
      obtain ⟨r5_25, r72_25⟩ := R25
      have C25 := (⟨congrArg (blk · (w.heap.size)) e25, congrArg (blk · (W24.heap.size)) e25⟩ : _ ∧ _); simp [go_sem, r5_24, c5_24, n5_13, n5_14, nw5_W24_0, r13_24, r14_24] at C25
      obtain ⟨c5_25, c72_25⟩ := C25
      have z5_25 := isRow_lt r5_25; have z72_25 := isRow_lt r72_25
      have n5_72 : (w.heap.size) ≠ (W24.heap.size) := by omega
      have n72_5 : (W24.heap.size) ≠ (w.heap.size) := by omega
      have hvI_25 : VL W25 (w.heap.size + 1) (UI_2) (aI_2) (mI_2) (cI_2) (fI_2) := by rw [e25]; exact vtV
      have hvS_25 : VL W25 (w.heap.size + 2) (US_2) (aS_2) (mI_2) (cS_2) (fS_2) := by rw [e25]; exact vtV
      have hvK_25 : VL W25 (w.heap.size + 3) (UK_2) (aK_2) (mK_2) (cK_2) (fK_2) := by rw [e25]; exact vtV
      clear e25 nw5_W24_0 r5_24 c5_24 z5_24 hvI_24 hvS_24 hvK_24 hb24
      refine appendV _ rfl _ _ rfl hvK_25 (by omega) (by omega) rfl _ _ (srcG p (fI_2) (fS_2) l (fun t => F (i * 8 + t)) (ebas i) (mI_2)) rfl c72_25 HSm.out ?_
      intro aK_26 cK_26 W26 hg26 ha26 hvK_26
      obtain ⟨r5_26, c5_26⟩ := keepG hg26 (hvK_25.ne (by omega)) r5_25 c5_25
      have z5_26 := isRow_lt r5_26
      have hb26 := below_own hb25 hvK_25 hg26 (by omega) (by omega)
      have q26 := hb26.size
      have sz26 := hg26.size
      have hvI_26 := hvI_25.grown hg26 apIK_5
      have apIK_26 := apart_new apIK_5 hvI_25 (by omega) ha26
      have hvS_26 := hvS_25.grown hg26 (apart_symm apKS_5)
      have apSK_26 := apart_new (apart_symm apKS_5) hvS_25 (by omega) ha26
      clear hg26 ha26 r5_25 c5_25 z5_25 hvI_25 hvS_25 hvK_25 hb25
      go_wp2
      go_roundw
      case rel => exact ⟨i + 1, (aI_2), (cI_2), (UI_2), (mI_2), (fI_2), (aS_2), (cS_2), (US_2), (fS_2), (aK_26), (cK_26), (W26.heap.size), (mK_2 + 1), (addV (fK_2) (mK_2) (srcG p (fI_2) (fS_2) l (fun t => F (i * 8 + t)) (ebas i) (mI_2))), by omega, (by first | rfl | go_num | (simp; done)), (by first | rfl | go_num | (simp; done)), (by first | rfl | go_num | (simp; done)), by go_num, bt, ⟨by simp [go_sem, r5_26, c5_26], (by rw [E5_2.out]; first | exact c5_26 | (simp [go_sem, r5_26, c5_26]; done))⟩, vtV, bu, vtV, bu, vtV, bu, apIK_26, apIS_5, (apart_symm apSK_26), ⟨by omega, l, sol_ker (p2_of Hpr.out) hn hlt0 HS.out Hz.out⟩⟩
      case measure => simp [intOf]; try omega
  ·
   obtain rfl : n = i := by omega
   go_wp2_with fail
   go_ret3
   exact ⟨_, _, _, _, _, _, _, _, _, _, _, rfl, bt, (hvI_2).wider (by omega) (by omega), (hvS_2).wider (by omega) (by omega), (hvK_2).wider (by omega) (by omega), HX2.out⟩

/-- the kernel's list -/
theorem sol_tells {p : Int} {n : Nat} {A im so ke h : Nat → Nat → Int} {a b R : Nat} {l l' : Nat → Nat} (hn : n ≤ 8) (s : Sol p n A n a im so l b ke) (r : Red p 8 R h l') (e : SameSpan p 8 b ke R h) : Tells p 8 R h (KerOf p 8 n A) :=
  tells_iff (tells_span r e) fun x => sol_kernel hn s x
theorem sol_keR {p : Int} {n : Nat} {A im so ke : Nat → Nat → Int} {i a b : Nat} {l : Nat → Nat} (s : Sol p n A i a im so l b ke) : ∀ k, k < b → ∀ t, t < 8 → 0 ≤ ke k t ∧ ke k t < p := s.keR
theorem tells_rng {p : Int} {N m : Nat} {g : Nat → Nat → Int} {S : (Nat → Int) → Prop} (h : Tells p N m g S) : ∀ i, i < m → ∀ t, t < N → 0 ≤ g i t ∧ g i t < p := by
  obtain ⟨⟨l, r⟩, _⟩ := h
  exact r.rng
theorem tells_le {p : Int} {N m : Nat} {g : Nat → Nat → Int} {S : (Nat → Int) → Prop} (h : Tells p N m g S) : m ≤ N := by
  obtain ⟨⟨l, r⟩, _⟩ := h
  exact red_le r

set_option maxRecDepth 100000 in
set_option maxHeartbeats 1000000 in
theorem l01Kernel_any (p : Int) (n : Nat) (F : Nat → Int) (w : World) (hp : 0 < p) (hp' : p ≤ 255) (hpr : prime31 p = true) (hn : n ≤ 8) (hF : ∀ t, t < 64 → 0 ≤ F t ∧ F t < p) :
    Calls Tryz.prog 104 #[.int .i64 p, .int .i64 n, .agg (row 64 F)] w fun e w' => ∃ a m c g, e = .returned (.slice a m c) ∧ Below w.heap.size w w' ∧ VL w' w.heap.size w'.heap.size a m c g ∧ Tells p 8 m g (KerOf p 8 n (fun i t => F (i * 8 + t))) := by
 have Hpr := Lib.hid hpr; clear hpr
 have HF := Lib.hid hF; clear hF
 go_enter Tryz.func104, Tryz.ntmps104
 go_wp2_with fail
 refine atomC fun W1 e1 => ?_
 have hb1 : Below w.heap.size w W1 := by rw [e1]; exact bt
 have q1 := hb1.size
 clear e1
 refine (l01Solve_any p n F _ hp hp' Hpr.out hn HF.out).mono ?_; rintro _ W2 ⟨a1_2, mI_2, c1_2, fI_2, a2_2, c2_2, fS_2, a3_2, mK_2, c3_2, fK_2, rfl, hw2, hv1_2, hv2_2, hvK_2, hs2, l2, hS2⟩
 have sz2 := hw2.size
 obtain ⟨hb2, q2⟩ := bN hb1 hw2
 clear hw2 hb1
 have HS := Lib.hid hS2; clear hS2; clear hv1_2 hv2_2
 go_wp2_with fail
 refine (l01Reduce_any p _ _ _ _ _ _ _ hp hp' Hpr.out (by omega) (by omega) (by omega) (sol_keR HS.out) hvK_2).mono ?_; rintro _ W3 ⟨aR_3, mR_3, cR_3, fR_3, rfl, hw3, hvR_3, hr3, hs3⟩
 obtain ⟨hb3, q3⟩ := bN hb2 hw3
 have sz3 := hw3.size
 have hvK_3 := hvK_2.below hw3 (by omega)
 clear hw3 hvK_2 hb2
 obtain ⟨l9, hr9⟩ := hr3
 have HT := Lib.hid (sol_tells hn HS.out hr9 hs3); clear hr9 hs3
 go_wp2_with fail
 go_ret
 exact ⟨_, _, _, _, rfl, bt, (hvR_3).wider (by omega) (by omega), HT.out⟩

set_option maxRecDepth 100000 in
set_option maxHeartbeats 1000000 in
theorem l01Whole_any (n : Nat) (w : World) (hn : n ≤ 8) :
    Calls Tryz.prog 102 #[.int .i64 n] w fun e w' => ∃ a c, e = .returned (.slice a n c) ∧ Below w.heap.size w w' ∧ VL w' w.heap.size w'.heap.size a (n) c (ebas) := by
 go_enter Tryz.func102, Tryz.ntmps102
 go_wp2
 refine atomW fun W1 e1 => ?_
 have hb1 : Below w.heap.size w W1 := by rw [e1]; exact bt
 have q1 := hb1.size
 have r5_1 : IsRow W1 (w.heap.size) := by rw [e1]; simp [go_sem]
 have c5_1 := congrArg (fun x => blk x (w.heap.size)) e1; simp [go_sem] at c5_1
 have z5_1 := isRow_lt r5_1
 have hvS_1 := VL.empty (U := W1.heap.size) (Nat.le_refl _) z5_1 r5_1 c5_1 fun _ _ => 0
 have szS_1 := z5_1
 clear e1
 go_loopw [3, 4] (fun s3 s4 wr => ∃ i : Nat, ∃ aS_2 : Option Addr, ∃ cS_2 : Nat, ∃ US_2 : Nat, i ≤ n ∧ s3 = .slice aS_2 (i) cS_2 ∧ s4 = .int .i64 i ∧ Below w.heap.size w wr ∧ VL wr (w.heap.size) (US_2) (aS_2) (i) (cS_2) (ebas) ∧ ((w.heap.size) ≤ (US_2) ∧ (US_2) ≤ wr.heap.size)) (fun _ s4 _ => n - (intOf s4).toNat)
 case atStart => exact ⟨0, some ⟨w.heap.size, 0, none⟩, 0, W1.heap.size, by omega, (by first | rfl | (simp; done) | go_num), rfl, hb1, (hvS_1).same rfl fun k hk => by omega, (by omega)⟩
 case round =>
  obtain ⟨i, aS_2, cS_2, US_2, hle2, rfl, rfl, hb2, hvS_2, hUS_2⟩ := hrel
  obtain ⟨W2, rfl⟩ : ∃ W2 : World, W2 = wr := ⟨_, rfl⟩
  have q2 := hb2.size
  clear hb1 hvS_1
  by_cases hlt2 : i < n
  ·
   have i0_2 : (0 : Int) ≤ (i : Int) := by omega
   have i8_2 : (i : Int) < 8 := by omega
   have k8_2 : i < 8 := by omega
   have m8_2 : i * 8 + 8 ≤ 64 := by omega
   have m64_2 : i * 64 + 64 ≤ 512 := by omega
   have l1_2 : 10 + i * 64 + 64 ≤ 522 := by omega
   go_wp2_with fail
   refine (l01BasisAt i (by omega) _).mono ?_; rintro _ W3 ⟨rfl, hw3⟩
   obtain ⟨hb3, q3⟩ := bN hb2 hw3
   have sz3 := hw3.size
   have hvS_3 := hvS_2.below hw3 (by omega)
   clear hw3 hvS_2 hb2
   go_wp2_with (at_builtin; refine atomL ?_)
   intro W4 e4
   have hb4 : Below w.heap.size w W4 := by rw [e4]; exact bt
   have q4 := hb4.size
   have r14_4 : IsRow W4 (W3.heap.size) := by rw [e4]; simp [go_sem]
   have c14_4 := congrArg (fun x => blk x (W3.heap.size)) e4; simp [go_sem] at c14_4
   have z14_4 := isRow_lt r14_4
   have hvS_4 : VL W4 (w.heap.size) (US_2) (aS_2) (i) (cS_2) (ebas) := by rw [e4]; exact vtV
   clear e4 hvS_3 hb3
   refine appendV _ rfl _ _ rfl hvS_4 (by omega) (by omega) rfl _ _ (ebas i) rfl c14_4 (ebas_bytes i) ?_
   intro aS_5 cS_5 W5 hg5 ha5 hvS_5
   have hb5 := below_own hb4 hvS_4 hg5 (by omega) (by omega)
   have q5 := hb5.size
   have sz5 := hg5.size
   clear hg5 ha5 hvS_4 hb4
   go_wp2
   go_roundw
   case rel => exact ⟨i + 1, (aS_5), (cS_5), (W5.heap.size), by omega, (by first | rfl | go_num | (simp; done)), by go_num, bt, (hvS_5).same rfl (addV_last fun _ _ => rfl), bu⟩
   case measure => simp [intOf]; try omega
  ·
   obtain rfl : n = i := by omega
   go_wp2_with fail
   go_ret
   exact ⟨aS_2, cS_2, rfl, bt, (hvS_2).wider (by omega) (by omega)⟩

/-! ### meets -/
/-- the rows of the first list, reduced by the second -/
def rowsK (one : Nat → Nat → Int) (i : Nat) : Nat → Int := fun t => if t / 8 < i then one (t / 8) (t % 8) else 0
theorem rows_zero (one : Nat → Nat → Int) : row 64 zf = row 64 (rowsK one 0) := row_congr fun t _ => by unfold rowsK zf; rw [if_neg (by omega)]
theorem rows_set (one : Nat → Nat → Int) (i : Nat) (hi : i < 8) : lay (row 64 (rowsK one i)) (i * 8) (row 8 (one i)) = row 64 (rowsK one (i + 1)) := by
  rw [lay_row _ _ _ _ _ (by omega)]
  refine row_congr fun t ht => ?_
  unfold rowsK
  by_cases h : i * 8 ≤ t ∧ t < i * 8 + 8
  · rw [if_pos h, if_pos (by omega), show t / 8 = i by omega, show t - i * 8 = t % 8 by omega]
  · rw [if_neg h]
    by_cases h2 : t / 8 < i
    · rw [if_pos h2, if_pos (by omega)]
    · rw [if_neg h2, if_neg (by omega)]

/-- the first k rows of the first list, combined -/
def cmbK (p : Int) (one : Nat → Nat → Int) (c : Nat → Int) (k : Nat) : Nat → Int := fun t => sumTo (fun j => c j * one j t) k % p
theorem cmb_zero (p : Int) (one : Nat → Nat → Int) (c : Nat → Int) : row 8 zf = row 8 (cmbK p one c 0) := row_congr fun t _ => by unfold cmbK zf; simp [sumTo]
theorem cmb_step {p : Int} {one : Nat → Nat → Int} {c : Nat → Int} {k : Nat} : row 8 (addm p 0 8 (c k) (cmbK p one c k) (one k)) = row 8 (cmbK p one c (k + 1)) := addm_row fun t _ => by unfold cmbK; rw [Int.emod_add_emod, sumTo]
theorem cmb_range {p : Int} (hp : 0 < p) (one : Nat → Nat → Int) (c : Nat → Int) (k t : Nat) : 0 ≤ cmbK p one c k t ∧ cmbK p one c k t < p := ⟨Int.emod_nonneg _ (by omega), Int.emod_lt_of_pos _ hp⟩
theorem rows_range {p : Int} {one : Nat → Nat → Int} {m i : Nat} (hp : 0 < p) (hi : i ≤ m) (h : ∀ k, k < m → ∀ t, t < 8 → 0 ≤ one k t ∧ one k t < p) : ∀ t, t < 64 → 0 ≤ rowsK one i t ∧ rowsK one i t < p := fun t ht => by
  unfold rowsK
  split
  · exact h _ (by omega) _ (by omega)
  · omega
theorem ker_rows {p : Int} {m : Nat} {one : Nat → Nat → Int} {x : Nat → Int} : KerOf p 8 m (fun i t => rowsK one m (i * 8 + t)) x ↔ KerOf p 8 m one x := by
  have e : ∀ t, t < 8 → sumTo (fun i => x i * rowsK one m (i * 8 + t)) m = sumTo (fun i => x i * one i t) m := fun t ht => sumTo_congr m fun i hi => by
    unfold rowsK
    rw [show (i * 8 + t) / 8 = i by omega, show (i * 8 + t) % 8 = t by omega, if_pos hi]
  unfold KerOf
  constructor <;> rintro ⟨h1, h2⟩ <;> refine ⟨fun t ht => ?_, h2⟩ <;> have := h1 t ht <;> dsimp only at this ⊢
  · rw [← e t ht]; exact this
  · rw [e t ht]; exact this
theorem meet_more {p : Int} {m1 i a b : Nat} {one fK g h : Nat → Nat → Int} (h1 : SameSpan p 8 i (fun i => cmbK p one (fK i) m1) a g) (h2 : SameSpan p 8 (a + 1) (snocG g a (cmbK p one (fK i) m1)) b h) : SameSpan p 8 (i + 1) (fun i => cmbK p one (fK i) m1) b h :=
  same_trans (snoc_succ (g := fun i => cmbK p one (fK i) m1) (i := i)) (same_trans (snoc_congr h1) h2)
theorem meet_tells {p : Int} {m1 m2 mK mO : Nat} {one two fK fO : Nat → Nat → Int} {l2 lO : Nat → Nat} (hp : 0 < p) (h1 : m1 ≤ 8) (ho : ∀ i, i < m1 → ∀ t, t < 8 → 0 ≤ one i t ∧ one i t < p) (r : Red p 8 m2 two l2)
    (hT : Tells p 8 mK fK (KerOf p 8 m1 fun i t => rowsK (fun i => byG p two l2 (one i) m2) m1 (i * 8 + t))) (rO : Red p 8 mO fO lO) (hS : SameSpan p 8 mK (fun i => cmbK p one (fK i) m1) mO fO) :
    Tells p 8 mO fO (fun v => InSpan p 8 m1 one v ∧ InSpan p 8 m2 two v) := by
  refine tells_iff (tells_span rO hS) fun v => ⟨fun hv => ?_, fun hv => ?_⟩
  · have key : ∀ i, i < mK → InSpan p 8 m1 one (cmbK p one (fK i) m1) ∧ InSpan p 8 m2 two (cmbK p one (fK i) m1) := fun i hi => by
      have hk := ker_rows.1 ((hT.2 (fK i)).1 (span_self hi))
      refine ⟨⟨fK i, fun t _ => by unfold cmbK; rw [Int.emod_emod]⟩, ?_⟩
      refine span_congr ((meet_ker hp r.ech ho).1 hk.1) fun t _ => ?_
      unfold cmbK comb
      rw [Int.emod_emod]
    exact ⟨span_trans (fun i hi => (key i hi).1) hv, span_trans (fun i hi => (key i hi).2) hv⟩
  · obtain ⟨⟨c, hc⟩, h2⟩ := hv
    have e1 : ∀ t, t < 8 → v t % p = comb one m1 (fun j => if j < m1 then c j else 0) t % p := fun t ht => by
      rw [hc t ht]
      unfold comb
      congr 1
      exact sumTo_congr m1 fun j hj => by dsimp only; rw [if_pos hj]
    have h3 : InSpan p 8 m2 two (comb one m1 fun j => if j < m1 then c j else 0) := span_congr h2 fun t ht => (e1 t ht).symm
    have h4 := (meet_ker hp r.ech ho).2 h3
    have h5 : KerOf p 8 m1 (fun i => byG p two l2 (one i) m2) (fun j => if j < m1 then c j else 0) := ⟨h4, fun t h6 _ => by dsimp only; rw [if_neg (by omega)]; simp⟩
    obtain ⟨d, hd⟩ := (hT.2 _).2 (ker_rows.2 h5)
    refine ⟨d, fun t ht => ?_⟩
    rw [e1 t ht, comb_sum (A := one) (g := fK) (n := m1) (m := mK) (c := d) (fun j hj => hd j (by omega)) t]
    refine sum_mod p _ _ mK fun i _ => ?_
    unfold cmbK comb
    rw [Int.mul_emod, ← Int.emod_emod (sumTo _ _), ← Int.mul_emod]

set_option maxRecDepth 100000 in
set_option maxHeartbeats 2000000 in
theorem l01Meet_any (p : Int) (B1 U1 : Nat) (a1 : Option Addr) (m1 c1 : Nat) (one : Nat → Nat → Int) (B2 U2 : Nat) (a2 : Option Addr) (m2 c2 : Nat) (two : Nat → Nat → Int) (l2 : Nat → Nat) (w : World) (hp : 0 < p) (hp' : p ≤ 255) (hpr : prime31 p = true) (hm1 : m1 ≤ 8) (hU1 : U1 ≤ w.heap.size) (hBU1 : B1 ≤ U1) (hU2 : U2 ≤ w.heap.size) (hBU2 : B2 ≤ U2) (ho : ∀ i, i < m1 → ∀ t, t < 8 → 0 ≤ one i t ∧ one i t < p) (hv1 : VL w B1 U1 a1 m1 c1 one) (hv2 : VL w B2 U2 a2 m2 c2 two) (hr2 : Red p 8 m2 two l2) :
    Calls Tryz.prog 103 #[.int .i64 p, .slice a1 m1 c1, .slice a2 m2 c2] w fun e w' => ∃ a m c g, e = .returned (.slice a m c) ∧ Below w.heap.size w w' ∧ VL w' w.heap.size w'.heap.size a m c g ∧ Tells p 8 m g (fun v => InSpan p 8 m1 one v ∧ InSpan p 8 m2 two v) := by
 have Hpr := Lib.hid hpr; clear hpr
 have Ho := Lib.hid ho; clear ho
 have Hr2 := Lib.hid hr2; clear hr2
 have hm2 : m2 ≤ 8 := red_le Hr2.out
 go_enter Tryz.func103, Tryz.ntmps103
 go_wp2
 refine atomW fun W1 e1 => ?_
 have hb1 : Below w.heap.size w W1 := by rw [e1]; exact bt
 have q1 := hb1.size
 have R1 : IsRow W1 (w.heap.size) ∧ IsRow W1 (w.heap.size + 1) := by rw [e1]; simp [go_sem]
 obtain ⟨r14_1, r8_1⟩ := R1
 have C1 := (⟨congrArg (blk · (w.heap.size)) e1, congrArg (blk · (w.heap.size + 1)) e1⟩ : _ ∧ _); simp [go_sem] at C1
 obtain ⟨c14_1, c8_1⟩ := C1
 have z14_1 := isRow_lt r14_1; have z8_1 := isRow_lt r8_1
 have hv7_1 := VL.empty (U := w.heap.size + 1) (Nat.le_refl _) (by omega) r14_1 c14_1 fun _ _ => 0
 have sz7_1 := z14_1
 have hv1_1 : VL W1 (B1) (U1) (a1) (m1) (c1) (one) := by rw [e1]; exact vtV
 have hv2_1 : VL W1 (B2) (U2) (a2) (m2) (c2) (two) := by rw [e1]; exact vtV
 clear e1 hv1 hv2
 go_loopw [9] (fun s9 wr => ∃ i : Nat, i ≤ m1 ∧ s9 = .int .i64 i ∧ Below w.heap.size w wr ∧ (IsRow wr (w.heap.size + 1) ∧ blk wr (w.heap.size + 1) = row 64 (rowsK (fun i => byG p two l2 (one i) m2) i)) ∧ VL wr (B1) (U1) (a1) (m1) (c1) (one) ∧ ((B1) ≤ (U1) ∧ (U1) ≤ wr.heap.size) ∧ VL wr (B2) (U2) (a2) (m2) (c2) (two) ∧ ((B2) ≤ (U2) ∧ (U2) ≤ wr.heap.size) ∧ VL wr (w.heap.size) (w.heap.size + 1) (some ⟨w.heap.size, 0, none⟩) (0) (0) (fun _ _ => 0) ∧ ((w.heap.size) ≤ (w.heap.size + 1) ∧ (w.heap.size + 1) ≤ wr.heap.size)) (fun s9 _ => m1 - (intOf s9).toNat)
 case atStart => exact ⟨0, by omega, rfl, hb1, ⟨r8_1, c8_1.trans (rows_zero (fun i => byG p two l2 (one i) m2))⟩, hv1_1, (by omega), hv2_1, (by omega), hv7_1, (by omega)⟩
 case round =>
  obtain ⟨i, hle2, rfl, hb2, ⟨r8_2, c8_2⟩, hv1_2, hU1_2, hv2_2, hU2_2, hv7_2, hU7_2⟩ := hrel
  obtain ⟨W2, rfl⟩ : ∃ W2 : World, W2 = wr := ⟨_, rfl⟩
  have q2 := hb2.size
  have z8_2 := isRow_lt r8_2
  clear r8_1 c8_1 z8_1 hb1 hv1_1 hv2_1 hv7_1
  by_cases hlt2 : i < m1
  ·
   have i0_2 : (0 : Int) ≤ (i : Int) := by omega
   have i8_2 : (i : Int) < 8 := by omega
   have k8_2 : i < 8 := by omega
   have m8_2 : i * 8 + 8 ≤ 64 := by omega
   have m64_2 : i * 64 + 64 ≤ 512 := by omega
   have l1_2 : 10 + i * 64 + 64 ≤ 522 := by omega
   obtain ⟨g1_3, F1_3, ea1_3, gB1_3, gU1_3, r1x_3, hc1_3, hm1_3, c1x_3, hFb1_3, hF1_3⟩ := hv1_2.some (by omega)
   cases ea1_3
   have HF1_3 := Lib.hid hF1_3; clear hF1_3
   have HB1_3 := Lib.hid hFb1_3; clear hFb1_3
   have z1x_3 := isRow_lt r1x_3
   have n8_1x : (w.heap.size + 1) ≠ (g1_3) := by omega
   have n1x_8 : (g1_3) ≠ (w.heap.size + 1) := by omega
   have HR1 : Hid (row 8 (fun t => F1_3 (i * 8 + t)) = row 8 (one i)) := Lib.hid (row_congr fun t ht => HF1_3.out i (by omega) t ht)
   have hrow := HR1.out
   have hc1x : i * 8 + 8 ≤ c1 * 8 := by omega
   have HOi : Hid (∀ t, t < 8 → 0 ≤ one i t ∧ one i t < p) := Lib.hid (Ho.out i hlt2)
   go_wp2_with fail
   refine (l01By_any p (one i) B2 U2 a2 m2 c2 two l2 _ hp hp' (by omega) (by omega) (by omega) HOi.out hv2_2 Hr2.out.ech).mono ?_; rintro _ W4 ⟨rfl, hw4⟩
   obtain ⟨r8_4, c8_4, z8_4⟩ := keepZ hw4 z8_2 r8_2 c8_2
   obtain ⟨r1x_4, c1x_4, z1x_4⟩ := keepZ hw4 z1x_3 r1x_3 c1x_3
   obtain ⟨hb4, q4⟩ := bN hb2 hw4
   have sz4 := hw4.size
   have hv1_4 := hv1_2.below hw4 (by omega)
   have hv2_4 := hv2_2.below hw4 (by omega)
   have hv7_4 := hv7_2.below hw4 (by omega)
   clear hw4 hv1_2 hv2_2 hv7_2 r8_2 c8_2 z8_2 r1x_3 c1x_3 z1x_3 hb2
   go_wp2
   go_roundw
   case rel => exact ⟨i + 1, by omega, by go_num, bt, ⟨by simp [go_sem, r8_4, c8_4, n8_1x, r1x_4, c1x_4, n1x_8], (by first | (rw [blk_setRow _ _ _ _ r8_4, if_pos rfl]; exact rows_set (fun i => byG p two l2 (one i) m2) i (by omega)) | exact (c8_4).trans (rows_set (fun i => byG p two l2 (one i) m2) i (by omega)) | (simp [go_sem, r8_4, c8_4, n8_1x, r1x_4, c1x_4, n1x_8]; exact rows_set (fun i => byG p two l2 (one i) m2) i (by omega)))⟩, vtV, bu, vtV, bu, vtV, bu⟩
   case measure => simp [intOf]; try omega
  ·
   obtain rfl : m1 = i := by omega
   have HRR : Hid (∀ t, t < 64 → 0 ≤ rowsK (fun i => byG p two l2 (one i) m2) m1 t ∧ rowsK (fun i => byG p two l2 (one i) m2) m1 t < p) := Lib.hid (rows_range hp (Nat.le_refl _) fun k hk => by_range hp (Ho.out k hk) m2)
   go_wp2_with fail
   refine (l01Kernel_any p m1 (rowsK (fun i => byG p two l2 (one i) m2) m1) _ hp hp' Hpr.out hm1 HRR.out).mono ?_; rintro _ W5 ⟨aK_5, mK_5, cK_5, fK_5, rfl, hw5, hvK_5, hT5⟩
   obtain ⟨hb5, q5⟩ := bN hb2 hw5
   have sz5 := hw5.size
   have hv1_5 := hv1_2.below hw5 (by omega)
   have hv2_5 := hv2_2.below hw5 (by omega)
   have hv7_5 := hv7_2.below hw5 (by omega)
   clear hw5 hv1_2 hv2_2 hv7_2 hb2
   have HT := Lib.hid hT5; clear hT5
   have hmK := tells_le HT.out
   have HKR : Hid (∀ i, i < mK_5 → ∀ t, t < 8 → 0 ≤ fK_5 i t ∧ fK_5 i t < p) := Lib.hid (tells_rng HT.out)
   go_wp2
   go_loopw [7, 11] (fun s7 s11 wr => ∃ i : Nat, ∃ a7_6 : Option Addr, ∃ c7_6 : Nat, ∃ U7_6 : Nat, ∃ m7_6 : Nat, ∃ f7_6 : Nat → Nat → Int, i ≤ mK_5 ∧ s7 = .slice a7_6 (m7_6) c7_6 ∧ s11 = .int .i64 i ∧ Below w.heap.size w wr ∧ VL wr (B1) (U1) (a1) (m1) (c1) (one) ∧ ((B1) ≤ (U1) ∧ (U1) ≤ wr.heap.size) ∧ VL wr (B2) (U2) (a2) (m2) (c2) (two) ∧ ((B2) ≤ (U2) ∧ (U2) ≤ wr.heap.size) ∧ VL wr (w.heap.size) (U7_6) (a7_6) (m7_6) (c7_6) (f7_6) ∧ ((w.heap.size) ≤ (U7_6) ∧ (U7_6) ≤ wr.heap.size) ∧ VL wr (W2.heap.size) (W5.heap.size) (aK_5) (mK_5) (cK_5) (fK_5) ∧ ((W2.heap.size) ≤ (W5.heap.size) ∧ (W5.heap.size) ≤ wr.heap.size) ∧ (∃ l', Red p 8 (m7_6) (f7_6) l') ∧ SameSpan p 8 i (fun i => cmbK p one (fK_5 i) m1) (m7_6) (f7_6)) (fun _ s11 _ => mK_5 - (intOf s11).toNat)
   case atStart => exact ⟨0, some ⟨w.heap.size, 0, none⟩, 0, w.heap.size + 1, 0, fun _ _ => 0, by omega, (by first | rfl | (simp; done) | go_num), rfl, hb5, hv1_5, (by omega), hv2_5, (by omega), hv7_5, (by omega), hvK_5, (by omega), ⟨⟨_, red_none⟩, same_none⟩⟩
   case round =>
    obtain ⟨i, a7_6, c7_6, U7_6, m7_6, f7_6, hle6, rfl, rfl, hb6, hv1_6, hU1_6, hv2_6, hU2_6, hv7_6, hU7_6, hvK_6, hUK_6, hx6⟩ := hrel
    obtain ⟨W6, rfl⟩ : ∃ W6 : World, W6 = wr := ⟨_, rfl⟩
    have q6 := hb6.size
    have HX6 := Lib.hid hx6; clear hx6
    clear hb5 hv1_5 hv2_5 hv7_5 hvK_5
    by_cases hlt6 : i < mK_5
    ·
     obtain ⟨l7, hl7⟩ := HX6.out.1
     have HL := Lib.hid hl7; clear hl7
     have HXo := HX6
     have hltK := hlt6
     have HCR : Hid (∀ t, t < 8 → 0 ≤ cmbK p one (fK_5 i) m1 t ∧ cmbK p one (fK_5 i) m1 t < p) := Lib.hid fun t _ => cmb_range hp _ _ _ _
     go_wp2
     refine atomW fun W7 e7 => ?_
     have hb7 : Below w.heap.size w W7 := by rw [e7]; exact bt
     have q7 := hb7.size
     have r12_7 : IsRow W7 (W6.heap.size) := by rw [e7]; simp [go_sem]
     have c12_7 := congrArg (fun x => blk x (W6.heap.size)) e7; simp [go_sem] at c12_7
     have z12_7 := isRow_lt r12_7
     have hv1_7 : VL W7 (B1) (U1) (a1) (m1) (c1) (one) := by rw [e7]; exact vtV
     have hv2_7 : VL W7 (B2) (U2) (a2) (m2) (c2) (two) := by rw [e7]; exact vtV
     have hv7_7 : VL W7 (w.heap.size) (U7_6) (a7_6) (m7_6) (c7_6) (f7_6) := by rw [e7]; exact vtV
     have hvK_7 : VL W7 (W2.heap.size) (W5.heap.size) (aK_5) (mK_5) (cK_5) (fK_5) := by rw [e7]; exact vtV
     clear e7 hv1_6 hv2_6 hv7_6 hvK_6 hb6
     go_loopw [13] (fun s13 wr => ∃ k : Nat, k ≤ m1 ∧ s13 = .int .i64 k ∧ Below w.heap.size w wr ∧ (IsRow wr (W6.heap.size) ∧ blk wr (W6.heap.size) = row 8 (cmbK p one (fK_5 i) k)) ∧ VL wr (B1) (U1) (a1) (m1) (c1) (one) ∧ ((B1) ≤ (U1) ∧ (U1) ≤ wr.heap.size) ∧ VL wr (B2) (U2) (a2) (m2) (c2) (two) ∧ ((B2) ≤ (U2) ∧ (U2) ≤ wr.heap.size) ∧ VL wr (w.heap.size) (U7_6) (a7_6) (m7_6) (c7_6) (f7_6) ∧ ((w.heap.size) ≤ (U7_6) ∧ (U7_6) ≤ wr.heap.size) ∧ VL wr (W2.heap.size) (W5.heap.size) (aK_5) (mK_5) (cK_5) (fK_5) ∧ ((W2.heap.size) ≤ (W5.heap.size) ∧ (W5.heap.size) ≤ wr.heap.size)) (fun s13 _ => m1 - (intOf s13).toNat)
     case atStart => exact ⟨0, by omega, rfl, hb7, ⟨r12_7, c12_7.trans (cmb_zero p one _)⟩, hv1_7, (by omega), hv2_7, (by omega), hv7_7, (by omega), hvK_7, (by omega)⟩
     case round =>
      obtain ⟨k, hle8, rfl, hb8, ⟨r12_8, c12_8⟩, hv1_8, hU1_8, hv2_8, hU2_8, hv7_8, hU7_8, hvK_8, hUK_8⟩ := hrel
      obtain ⟨W8, rfl⟩ : ∃ W8 : World, W8 = wr := ⟨_, rfl⟩
      have q8 := hb8.size
      have z12_8 := isRow_lt r12_8
      clear r12_7 c12_7 z12_7 hb7 hv1_7 hv2_7 hv7_7 hvK_7
      by_cases hlt8 : k < m1
      ·
       have i0_8 : (0 : Int) ≤ (k : Int) := by omega
       have i8_8 : (k : Int) < 8 := by omega
       have k8_8 : k < 8 := by omega
       have m8_8 : k * 8 + 8 ≤ 64 := by omega
       have m64_8 : k * 64 + 64 ≤ 512 := by omega
       have l1_8 : 10 + k * 64 + 64 ≤ 522 := by omega
       obtain ⟨g1_9, F1_9, ea1_9, gB1_9, gU1_9, r1x_9, hc1_9, hm1_9, c1x_9, hFb1_9, hF1_9⟩ := hv1_8.some (by omega)
       cases ea1_9
       have HF1_9 := Lib.hid hF1_9; clear hF1_9
       have HB1_9 := Lib.hid hFb1_9; clear hFb1_9
       have z1x_9 := isRow_lt r1x_9
       have n12_1x : (W6.heap.size) ≠ (g1_9) := by omega
       have n1x_12 : (g1_9) ≠ (W6.heap.size) := by omega
       obtain ⟨gK_10, FK_10, eaK_10, gBK_10, gUK_10, rKx_10, hcK_10, hmK_10, cKx_10, hFbK_10, hFK_10⟩ := hvK_8.some (by omega)
       subst eaK_10
       have HFK_10 := Lib.hid hFK_10; clear hFK_10
       have HBK_10 := Lib.hid hFbK_10; clear hFbK_10
       have zKx_10 := isRow_lt rKx_10
       have n12_Kx : (W6.heap.size) ≠ (gK_10) := by omega
       have n1x_Kx : (g1_9) ≠ (gK_10) := by omega
       have nKx_12 : (gK_10) ≠ (W6.heap.size) := by omega
       have nKx_1x : (gK_10) ≠ (g1_9) := by omega
       have HR1 : Hid (row 8 (fun t => F1_9 (k * 8 + t)) = row 8 (one k)) := Lib.hid (row_congr fun t ht => HF1_9.out k (by omega) t ht)
       have hrow := HR1.out
       have hc1x : k * 8 + 8 ≤ c1 * 8 := by omega
       have HOi : Hid (∀ t, t < 8 → 0 ≤ one k t ∧ one k t < p) := Lib.hid (Ho.out k hlt8)
       have HRK : Hid (∀ t, t < 8 → FK_10 (i * 8 + t) = fK_5 i t) := Lib.hid fun t ht => HFK_10.out i (by omega) t ht
       have hck : i * 8 + 8 ≤ cK_5 * 8 := by omega
       have hk8 : i * 8 + k < cK_5 * 8 := by omega
       have hkv := HRK.out k (by omega)
       have hkr := HKR.out i hltK k (by omega)
       have hkr1 := hkr.1
       have hkr2 := hkr.2
       clear hkr
       have q0 : IntKind.i64.wrap (fK_5 i k) = fK_5 i k := IntWalk.i64_in _ (by omega)
       have HCb : Hid (Bytes 8 (cmbK p one (fK_5 i) k)) := Lib.hid fun t _ => by have := cmb_range hp one (fK_5 i) k t; omega
       have HOb : Hid (Bytes 8 (one k)) := Lib.hid (lt_bytes hp' HOi.out)
       go_wp2
       refine wp_quiet_tail 14 (Below W8.heap.size W8) (by kernel_rfl) (by kernel_rfl) (Below.refl _ _).drew ?_
       simp only [List.take_succ_cons, List.take_zero, List.drop_succ_cons, List.drop_zero]
       iterate 13 (refine q_plain rfl ?_; apply Exists.intro; refine ⟨fun W hW => ?_, ?_⟩; (focus (obtain ⟨x12, y12⟩ := keepB hW z12_8 r12_8 c12_8; obtain ⟨x1x, y1x⟩ := keepB hW z1x_9 r1x_9 c1x_9; obtain ⟨xKx, yKx⟩ := keepB hW zKx_10 rKx_10 cKx_10; go_simp; first | done | rfl)); simp only [Act.put, List.setIfInBounds_toArray, List.set_cons_zero, List.set_cons_succ])
       (refine q_plain rfl ?_; apply Exists.intro; refine ⟨fun W hW => ?_, ?_⟩; (focus (obtain ⟨x12, y12⟩ := keepB hW z12_8 r12_8 c12_8; obtain ⟨x1x, y1x⟩ := keepB hW z1x_9 r1x_9 c1x_9; obtain ⟨xKx, yKx⟩ := keepB hW zKx_10 rKx_10 cKx_10; go_simp; (go_at_call 57; exact (l01Add_any _ _ _ _ _ hp hp' (by omega) (by omega) HCb.out HOb.out).mono fun e w2 ⟨he, hw2⟩ => ⟨he, hW.trans (hw2.mono hW.size)⟩))); simp only [Act.put, List.setIfInBounds_toArray, List.set_cons_zero, List.set_cons_succ])
       refine wpQuiet_nil ?_
       intro W11 hw11
       obtain ⟨r12_11, c12_11, z12_11⟩ := keepZ hw11 z12_8 r12_8 c12_8
       obtain ⟨r1x_11, c1x_11, z1x_11⟩ := keepZ hw11 z1x_9 r1x_9 c1x_9
       obtain ⟨rKx_11, cKx_11, zKx_11⟩ := keepZ hw11 zKx_10 rKx_10 cKx_10
       obtain ⟨hb11, q11⟩ := bN hb8 hw11
       have sz11 := hw11.size
       have hv1_11 := hv1_8.below hw11 (by omega)
       have hv2_11 := hv2_8.below hw11 (by omega)
       have hv7_11 := hv7_8.below hw11 (by omega)
       have hvK_11 := hvK_8.below hw11 (by omega)
       clear hw11 hv1_8 hv2_8 hv7_8 hvK_8 r12_8 c12_8 z12_8 r1x_9 c1x_9 z1x_9 rKx_10 cKx_10 zKx_10 hb8
       go_wp2
       go_roundw
       case rel => exact ⟨k + 1, by omega, by go_num, bt, ⟨by simp [go_sem, r12_11, c12_11, n12_1x, n12_Kx, r1x_11, c1x_11, n1x_12, n1x_Kx, rKx_11, cKx_11, nKx_12, nKx_1x], (by first | (rw [blk_setRow _ _ _ _ r12_11, if_pos rfl]; exact cmb_step) | exact (c12_11).trans (cmb_step) | (simp [go_sem, r12_11, c12_11, n12_1x, n12_Kx, r1x_11, c1x_11, n1x_12, n1x_Kx, rKx_11, cKx_11, nKx_12, nKx_1x]; exact cmb_step))⟩, vtV, bu, vtV, bu, vtV, bu, vtV, bu⟩
       case measure => simp [intOf]; try omega
      ·
       obtain rfl : m1 = k := by omega
       go_wp2_with fail
       refine (l01Put_any p (cmbK p one (fK_5 i) m1) _ _ _ _ _ _ _ _ hp hp' Hpr.out (by omega) (by omega) HCR.out hv7_8 HL.out).mono ?_; rintro _ W12 ⟨a7_12, m7_12, c7_12, f7_12, rfl, hw12, hv7_12, hr12, hs12⟩
       obtain ⟨hb12, q12⟩ := bN hb8 hw12
       have sz12 := hw12.size
       have hv1_12 := hv1_8.below hw12 (by omega)
       have hv2_12 := hv2_8.below hw12 (by omega)
       have hvK_12 := hvK_8.below hw12 (by omega)
       clear hw12 hv1_8 hv2_8 hvK_8 hb8
       have HRr := Lib.hid hr12; clear hr12
       have HSs := Lib.hid hs12; clear hs12
       go_wp2
       go_roundw
       case rel => exact ⟨i + 1, (a7_12), (c7_12), (W12.heap.size), (m7_12), (f7_12), by omega, (by first | rfl | go_num | (simp; done)), by go_num, bt, vtV, bu, vtV, bu, vtV, bu, vtV, bu, ⟨HRr.out, meet_more HXo.out.2 HSs.out⟩⟩
       case measure => simp [intOf]; try omega
    ·
     obtain rfl : mK_5 = i := by omega
     go_wp2_with fail
     go_ret
     obtain ⟨⟨lO, hlO⟩, hsO⟩ := HX6.out
     exact ⟨_, _, _, _, rfl, bt, (hv7_6).wider (by omega) (by omega), meet_tells hp hm1 Ho.out Hr2.out HT.out hlO hsO⟩

end Go.Proofs.YtjpdpnplnelgcaaGreat
