/- Kernels by the program: rows with marks behind them, reduced. -/
import Derived.Test.YtfmhgfnadgaiaaaGreatL4
import Derived.Test.YtfmhgfnadgaiaaaGreatL6
namespace Go.Proofs.YtfmhgfnadgaiaaaGreat
open Go.RowKit
set_option linter.unusedSimpArgs false
set_option linter.unusedVariables false
attribute [local irreducible] wpQuiet wpQE

theorem lead_cut {l : Nat → Nat} {N : Nat} : ∀ R, (∀ i j, i < j → j < R → l i < l j) → ∃ a, a ≤ R ∧ (∀ i, i < a → l i < N) ∧ ∀ i, a ≤ i → i < R → N ≤ l i
  | 0, _ => ⟨0, Nat.le_refl _, fun _ h => by omega, fun _ _ h => by omega⟩
  | R + 1, h => by
    obtain ⟨a, h1, h2, h3⟩ := lead_cut R fun i j hij hj => h i j hij (by omega)
    by_cases e : a = R
    · subst e
      by_cases hl : l a < N
      · exact ⟨a + 1, Nat.le_refl _, fun i hi => by
          by_cases e : i = a
          · rw [e]; exact hl
          · exact h2 i (by omega), fun i h4 h5 => by omega⟩
      · exact ⟨a, by omega, h2, fun i h4 h5 => by
          obtain rfl : i = a := by omega
          omega⟩
    · refine ⟨a, by omega, h2, fun i h4 h5 => ?_⟩
      by_cases e2 : i = R
      · have := h3 a (Nat.le_refl _) (by omega)
        have := h a i (by omega) (by omega)
        omega
      · exact h3 i h4 (by omega)
theorem cat_mark {N i : Nat} {f : Nat → Int} {g : Nat → Nat → Int} (h : ∀ t, t < N → f t = g i t) (t : Nat) : catF N f (ebas i) t = markG N g i t := by
  unfold catF markG
  split
  · exact h t (by assumption)
  · rfl
theorem mark_range {p : Int} {m N : Nat} {g : Nat → Nat → Int} (hp : 2 ≤ p) (h : ∀ i, i < m → ∀ t, t < N → 0 ≤ g i t ∧ g i t < p) : ∀ i, i < m → ∀ t, t < N + 8 → 0 ≤ markG N g i t ∧ markG N g i t < p := fun i hi t ht => by
  unfold markG
  split
  · exact h i hi t (by assumption)
  · exact ebas_range hp _ _
theorem flPart {w : World} {B U b m N R : Nat} {g : Nat → Nat → Int} {G C : Nat → Nat} {F : Nat → Nat → Int} (h4 : FL w B U b 0 m N g G C F) (h : R ≤ m) : FL w B U b 0 R N g G C F :=
  ⟨h4.base, h4.top, h4.row, fun i hi => h4.cell i (by omega), fun i hi => h4.gB i (by omega), fun i j hi hj => h4.inj i j (by omega) (by omega), fun i hi => h4.isr i (by omega), fun i hi => h4.blk i (by omega), fun i hi => h4.len i (by omega), fun i hi => h4.bytes i (by omega), fun i hi => h4.val i (by omega)⟩
theorem ker_add {j a0 N : Nat} {h : Nat → Nat → Int} {f : Nat → Int} (ha : a0 ≤ j) (hv : ∀ t, t < N + 8 → f t = h j t) : ∀ k, k < j - a0 + 1 → ∀ t, t < 8 → addV (fun i t => h (a0 + i) (N + t)) (j - a0) (fun t => f (N + t)) k t = h (a0 + k) (N + t) := fun k hk t ht => by
  unfold addV
  split
  · rfl
  · dsimp only
    rw [hv _ (by omega), show a0 + k = j by omega]
theorem row_cut {n m off : Nat} (f : Nat → Int) (h : off + m ≤ n) : (row n f).extract off (off + m) = row m fun t => f (off + t) := by
  apply Array.ext_getElem?
  intro i
  rw [Array.getElem?_extract, row_size]
  by_cases hi : i < m
  · rw [if_pos (by omega), row_get? _ _ _ hi, row_get? _ _ _ (by omega)]
  · rw [if_neg (by omega), row_get_none _ _ i (by omega)]

set_option maxRecDepth 100000 in
set_option maxHeartbeats 1000000 in
theorem reduceMarked_any (p : Int) (B U : Nat) (a : Option Addr) (m c N : Nat) (g : Nat → Nat → Int) (w : World) (hp : 0 < p) (hp' : p ≤ 255) (hpr : prime31 p = true) (hm0 : 0 < m) (hm : m ≤ 8) (hN0 : 0 < N) (hN : N ≤ 400) (hU : U ≤ w.heap.size) (hg : ∀ i, i < m → ∀ t, t < N → 0 ≤ g i t ∧ g i t < p) (hL : RL w B U a m c N g) :
    Calls Tryz.prog 176 #[.int .i64 p, .slice a m c] w fun e w' => ∃ R G' C' F' h l, e = .returned (.slice (some ⟨w.heap.size, 0, none⟩) R m) ∧ Below w.heap.size w w' ∧ FL w' w.heap.size w'.heap.size w.heap.size 0 R (N + 8) h G' C' F' ∧ Red p (N + 8) R h l ∧ SameSpan p (N + 8) m (markG N g) R h := by
 have Hpr := Lib.hid hpr; clear hpr
 have Hg := Lib.hid hg; clear hg
 obtain ⟨b, G, C, F, rfl, hF, hmc, hcm⟩ := hL.some hm0
 have hmk := run_make_row' (P := Tryz.prog) 126 121 (.slice none 0 0) 24 sliceBs infoBs rfl .i64 .i64 m (by omega) (by omega)
 have hBU : B ≤ U := by have := hF.base; have := hF.top; omega
 go_enter Tryz.func176, Tryz.ntmps176
 go_wp2
 refine atomW fun W1 e1 => ?_
 have hb1 : Below w.heap.size w W1 := by rw [e1]; exact bt
 have q1 := hb1.size
 have r11_1 : IsRow W1 (w.heap.size) := by rw [e1]; simp [go_sem]
 have c11_1 := congrArg (fun x => blk x (w.heap.size)) e1; simp [go_sem] at c11_1
 have z11_1 := isRow_lt r11_1
 have hvF_1 : FL W1 B U b 0 m N g G C F := by rw [e1]; (repeat (first | exact hF | refine FL.alloc ?_ _ | refine FL.drew ?_ | refine FL.setRow ?_ (by omega) _))
 clear e1 hF
 go_loopw [14] (fun s14 wr => ∃ i : Nat, ∃ U1 : Nat, ∃ G1 : Nat → Nat, ∃ C1 : Nat → Nat, ∃ F1 : Nat → Nat → Int, i ≤ m ∧ s14 = .int .i64 i ∧ Below w.heap.size w wr ∧ FL wr B U b 0 m N g G C F ∧ ((B) ≤ (U) ∧ (U) ≤ wr.heap.size) ∧ FL wr w.heap.size U1 w.heap.size 0 i (N + 8) (markG N g) G1 C1 F1 ∧ ((w.heap.size) ≤ (U1) ∧ (U1) ≤ wr.heap.size) ∧ (blk wr w.heap.size).size = m) (fun s14 _ => m - (intOf s14).toNat)
 case atStart => exact ⟨0, W1.heap.size, (fun _ => 0), (fun _ => 0), (fun _ _ => 0), by omega, rfl, hb1, hvF_1, (by omega), (FL.none (Nat.le_refl _) (by omega) r11_1), (by omega), by rw [c11_1]; exact made_size _ _⟩
 case round =>
  obtain ⟨i, U1, G1, C1, F1, hle2, rfl, hb2, hvF_2, hUF_2, hvM_2, hUM_2, hx2⟩ := hrel
  obtain ⟨W2, rfl⟩ : ∃ W2 : World, W2 = wr := ⟨_, rfl⟩
  have q2 := hb2.size
  have HX2 := Lib.hid hx2; clear hx2
  clear hb1 hvF_1
  by_cases hlt2 : i < m
  ·
   have hx0 := hvF_2.cell i hlt2
   rw [Nat.zero_add] at hx0
   have hNC := hvF_2.len i hlt2
   have hGb := (hvF_2.gB i hlt2).2.2
   have hGu := (hvF_2.gB i hlt2).2.1
   have hbt := hvF_2.top
   have HXb : Hid (Bytes (C i) (F i)) := Lib.hid (hvF_2.bytes i hlt2)
   have HXv : Hid (∀ t, t < N → F i t = g i t) := Lib.hid (hvF_2.val i hlt2)
   have hsz := HX2.out
   obtain ⟨xo, hxo⟩ : ∃ x, blk W2 w.heap.size = x := ⟨_, rfl⟩
   obtain ⟨xb, hxb⟩ : ∃ x, blk W2 b = x := ⟨_, rfl⟩
   rw [hxb] at hx0
   rw [hxo] at hsz
   have ro_3 : IsRow W2 (w.heap.size) := hvM_2.row
   have co_3 := (hxo)
   have zo_3 := isRow_lt ro_3
   have rb_4 : IsRow W2 (b) := hvF_2.row
   have cb_4 := (hxb)
   have zb_4 := isRow_lt rb_4
   have rx_5 : IsRow W2 (G i) := hvF_2.isr i hlt2
   have cx_5 := (hvF_2.blk i hlt2)
   have zx_5 := isRow_lt rx_5
   have no_b : (w.heap.size) ≠ (b) := by omega
   have no_x : (w.heap.size) ≠ (G i) := by omega
   have nb_o : (b) ≠ (w.heap.size) := by omega
   have nb_x : (b) ≠ (G i) := by omega
   have nx_o : (G i) ≠ (w.heap.size) := by omega
   have nx_b : (G i) ≠ (b) := by omega
   go_wp2_with fail
   refine (basisAt i (by omega) _).mono ?_; rintro _ W6 ⟨rfl, hw6⟩
   obtain ⟨ro_6, co_6, zo_6⟩ := keepZ hw6 zo_3 ro_3 co_3
   obtain ⟨rb_6, cb_6, zb_6⟩ := keepZ hw6 zb_4 rb_4 cb_4
   obtain ⟨rx_6, cx_6, zx_6⟩ := keepZ hw6 zx_5 rx_5 cx_5
   obtain ⟨hb6, q6⟩ := bN hb2 hw6
   have sz6 := hw6.size
   have hvF_6 := hvF_2.below hw6 (by omega)
   have hvM_6 := hvM_2.below hw6 (by omega)
   clear hw6 hvF_2 hvM_2 ro_3 co_3 zo_3 rb_4 cb_4 zb_4 rx_5 cx_5 zx_5 hb2
   go_wp2_with fail
   have nwo_W6_0 : (w.heap.size) ≠ W6.heap.size := by omega
   have nwo_W6_1 : (w.heap.size) ≠ W6.heap.size + 1 := by omega
   have nwb_W6_0 : (b) ≠ W6.heap.size := by omega
   have nwb_W6_1 : (b) ≠ W6.heap.size + 1 := by omega
   have nwx_W6_0 : (G i) ≠ W6.heap.size := by omega
   have nwx_W6_1 : (G i) ≠ W6.heap.size + 1 := by omega
   refine atomC fun W7 e7 => ?_
   have hb7 : Below w.heap.size w W7 := by rw [e7]; exact bt
   have q7 := hb7.size
   have R7 : IsRow W7 (w.heap.size) ∧ IsRow W7 (b) ∧ IsRow W7 (G i) ∧ IsRow W7 (W6.heap.size) ∧ IsRow W7 (W6.heap.size + 1) := by rw [e7]; simp [go_sem, ro_6, co_6, no_b, no_x, rb_6, cb_6, nb_o, nb_x, rx_6, cx_6, nx_o, nx_b, nwo_W6_0, nwo_W6_1, nwb_W6_0, nwb_W6_1, nwx_W6_0, nwx_W6_1]
   obtain ⟨ro_7, rb_7, rx_7, r8_7, r25_7⟩ := R7
   have C7 := (⟨congrArg (blk · (w.heap.size)) e7, congrArg (blk · (b)) e7, congrArg (blk · (G i)) e7, congrArg (blk · (W6.heap.size)) e7, congrArg (blk · (W6.heap.size + 1)) e7⟩ : _ ∧ _ ∧ _ ∧ _ ∧ _); simp [go_sem, ro_6, co_6, no_b, no_x, rb_6, cb_6, nb_o, nb_x, rx_6, cx_6, nx_o, nx_b, nwo_W6_0, nwo_W6_1, nwb_W6_0, nwb_W6_1, nwx_W6_0, nwx_W6_1] at C7
   obtain ⟨co_7, cb_7, cx_7, c8_7, c25_7⟩ := C7
   have zo_7 := isRow_lt ro_7; have zb_7 := isRow_lt rb_7; have zx_7 := isRow_lt rx_7; have z8_7 := isRow_lt r8_7; have z25_7 := isRow_lt r25_7
   have no_8 : (w.heap.size) ≠ (W6.heap.size) := by omega
   have no_25 : (w.heap.size) ≠ (W6.heap.size + 1) := by omega
   have nb_8 : (b) ≠ (W6.heap.size) := by omega
   have nb_25 : (b) ≠ (W6.heap.size + 1) := by omega
   have nx_8 : (G i) ≠ (W6.heap.size) := by omega
   have nx_25 : (G i) ≠ (W6.heap.size + 1) := by omega
   have n8_o : (W6.heap.size) ≠ (w.heap.size) := by omega
   have n8_b : (W6.heap.size) ≠ (b) := by omega
   have n8_x : (W6.heap.size) ≠ (G i) := by omega
   have n25_o : (W6.heap.size + 1) ≠ (w.heap.size) := by omega
   have n25_b : (W6.heap.size + 1) ≠ (b) := by omega
   have n25_x : (W6.heap.size + 1) ≠ (G i) := by omega
   have hvF_7 : FL W7 B U b 0 m N g G C F := by rw [e7]; exact vtF
   have hvM_7 : FL W7 w.heap.size U1 w.heap.size 0 i (N + 8) (markG N g) G1 C1 F1 := by rw [e7]; exact vtF
   clear e7 nwo_W6_0 nwo_W6_1 nwb_W6_0 nwb_W6_1 nwx_W6_0 nwx_W6_1 ro_6 co_6 zo_6 rb_6 cb_6 zb_6 rx_6 cx_6 zx_6 hvF_6 hvM_6 hb6
   have ltKon8 : (w.heap.size) < W7.heap.size := zo_7
   have ltKbn8 : (b) < W7.heap.size := zb_7
   have ltKxn8 : (G i) < W7.heap.size := zx_7
   have ltK8n8 : (W6.heap.size) < W7.heap.size := z8_7
   have ltK25n8 : (W6.heap.size + 1) < W7.heap.size := z25_7
   refine (concat_any (W6.heap.size + 1) (G i) N (C i) (W6.heap.size) 8 8 (F i) (ebas i) _ r25_7 c25_7 rx_7 cx_7 HXb.out r8_7 c8_7 (ebas_bytes i) (by omega) (by omega) (by omega) (by omega) hNC (by omega)).mono ?_; rintro _ W8 ⟨aK_8, cK_8, rfl, hw8, hvK_8⟩
   obtain ⟨ro_8, co_8, zo_8⟩ := keepZ hw8 zo_7 ro_7 co_7
   obtain ⟨rb_8, cb_8, zb_8⟩ := keepZ hw8 zb_7 rb_7 cb_7
   obtain ⟨rx_8, cx_8, zx_8⟩ := keepZ hw8 zx_7 rx_7 cx_7
   obtain ⟨r8_8, c8_8, z8_8⟩ := keepZ hw8 z8_7 r8_7 c8_7
   obtain ⟨r25_8, c25_8, z25_8⟩ := keepZ hw8 z25_7 r25_7 c25_7
   obtain ⟨hb8, q8⟩ := bN hb7 hw8
   have sz8 := hw8.size
   have hvF_8 := hvF_7.below hw8 (by omega)
   have hvM_8 := hvM_7.below hw8 (by omega)
   clear hw8 hvF_7 hvM_7 ro_7 co_7 zo_7 rb_7 cb_7 zb_7 rx_7 cx_7 zx_7 r8_7 c8_7 z8_7 r25_7 c25_7 z25_7 hb7
   obtain ⟨gK_9, FK_9, eaK_9, gBK_9, gUK_9, rKx_9, hcK_9, hmK_9, cKx_9, hFbK_9, hFK_9⟩ := hvK_8.some (by omega)
   subst eaK_9
   have HFK_9 := Lib.hid hFK_9; clear hFK_9
   have HBK_9 := Lib.hid hFbK_9; clear hFbK_9
   have zKx_9 := isRow_lt rKx_9
   have no_Kx : (w.heap.size) ≠ (gK_9) := by omega
   have nb_Kx : (b) ≠ (gK_9) := by omega
   have nx_Kx : (G i) ≠ (gK_9) := by omega
   have n8_Kx : (W6.heap.size) ≠ (gK_9) := by omega
   have n25_Kx : (W6.heap.size + 1) ≠ (gK_9) := by omega
   have nKx_o : (gK_9) ≠ (w.heap.size) := by omega
   have nKx_b : (gK_9) ≠ (b) := by omega
   have nKx_x : (gK_9) ≠ (G i) := by omega
   have nKx_8 : (gK_9) ≠ (W6.heap.size) := by omega
   have nKx_25 : (gK_9) ≠ (W6.heap.size + 1) := by omega
   go_wp2
   go_roundw
   case rel => exact ⟨i + 1, (W8.heap.size), ((setN G1 i gK_9)), ((setN C1 i cK_8)), ((setF F1 i FK_9)), by omega, by go_num, bt, vtF, bu, (flSnoc hvM_8 (by rw [co_8]; exact hsz) hlt2 (by omega) rKx_9 cKx_9 HBK_9.out (by omega) (fun t ht => (HFK_9.out t ht 0 (by omega)).trans (cat_mark HXv.out t)) (fun x hx hne => by simp [setRow_other _ _ _ _ hne]) (by simp [World.setRow]) (by simp [go_sem, ro_8, co_8, no_b, no_x, no_8, no_25, no_Kx, rb_8, cb_8, nb_o, nb_x, nb_8, nb_25, nb_Kx, rx_8, cx_8, nx_o, nx_b, nx_8, nx_25, nx_Kx, r8_8, c8_8, n8_o, n8_b, n8_x, n8_Kx, r25_8, c25_8, n25_o, n25_b, n25_x, n25_Kx, rKx_9, cKx_9, nKx_o, nKx_b, nKx_x, nKx_8, nKx_25]) (by simp [go_sem, ro_8, co_8, no_b, no_x, no_8, no_25, no_Kx, rb_8, cb_8, nb_o, nb_x, nb_8, nb_25, nb_Kx, rx_8, cx_8, nx_o, nx_b, nx_8, nx_25, nx_Kx, r8_8, c8_8, n8_o, n8_b, n8_x, n8_Kx, r25_8, c25_8, n25_o, n25_b, n25_x, n25_Kx, rKx_9, cKx_9, nKx_o, nKx_b, nKx_x, nKx_8, nKx_25])).1, bu, (by first | (simp [go_sem, ro_8, co_8, no_b, no_x, no_8, no_25, no_Kx, rb_8, cb_8, nb_o, nb_x, nb_8, nb_25, nb_Kx, rx_8, cx_8, nx_o, nx_b, nx_8, nx_25, nx_Kx, r8_8, c8_8, n8_o, n8_b, n8_x, n8_Kx, r25_8, c25_8, n25_o, n25_b, n25_x, n25_Kx, rKx_9, cKx_9, nKx_o, nKx_b, nKx_x, nKx_8, nKx_25]; done) | (simp [go_sem, ro_8, co_8, no_b, no_x, no_8, no_25, no_Kx, rb_8, cb_8, nb_o, nb_x, nb_8, nb_25, nb_Kx, rx_8, cx_8, nx_o, nx_b, nx_8, nx_25, nx_Kx, r8_8, c8_8, n8_o, n8_b, n8_x, n8_Kx, r25_8, c25_8, n25_o, n25_b, n25_x, n25_Kx, rKx_9, cKx_9, nKx_o, nKx_b, nKx_x, nKx_8, nKx_25]; exact hsz))⟩
   case measure => simp [intOf]; try omega
  ·
   obtain rfl : m = i := by omega
   go_wp2_with fail
   refine (reduceRows_any p w.heap.size U1 w.heap.size m (N + 8) m (markG N g) G1 C1 F1 _ hp hp' Hpr.out (by omega) (by omega) (by omega) (mark_range (p2_of Hpr.out) Hg.out) (by omega) (by omega) hvM_2).mono ?_; rintro _ W10 ⟨R2, rfl, hw10, hR2, l2, h2, G2, C2, F2, hvM_10, hRd, hSm⟩
   have hb10 := hb2.trans (hw10.mono (by omega))
   have q10 := hb10.size
   have sz10 := hw10.size
   have hvF_10 := hvF_2.below hw10 (by omega)
   clear hw10 hvM_2 hvF_2 hb2
   go_wp2_with fail
   go_ret
   exact ⟨R2, G2, C2, F2, h2, l2, rfl, bt, (flPart hvM_10 hR2).wide (by omega) (by omega), hRd, hSm⟩



set_option maxRecDepth 100000 in
set_option maxHeartbeats 1000000 in
theorem kernelOf_any (p : Int) (B U : Nat) (a : Option Addr) (m c N : Nat) (g : Nat → Nat → Int) (w : World) (hp : 0 < p) (hp' : p ≤ 255) (hpr : prime31 p = true) (hm0 : 0 < m) (hm : m ≤ 8) (hN0 : 0 < N) (hN : N ≤ 400) (hU : U ≤ w.heap.size) (hg : ∀ i, i < m → ∀ t, t < N → 0 ≤ g i t ∧ g i t < p) (hL : RL w B U a m c N g) :
    Calls Tryz.prog 146 #[.int .i64 p, .slice a m c] w fun e w' => ∃ a' m' c' g', e = .returned (.slice a' m' c') ∧ Below w.heap.size w w' ∧ VL w' w.heap.size w'.heap.size a' m' c' g' ∧ Tells p 8 m' g' (KerOf p N m g) := by
 have Hpr := Lib.hid hpr; clear hpr
 have Hg := Lib.hid hg; clear hg
 have hBU : B ≤ U := by obtain ⟨b, G, C, F, _, hF, _⟩ := hL.some hm0; have := hF.base; have := hF.top; omega
 go_enter Tryz.func146, Tryz.ntmps146
 go_wp2_with fail
 refine atomC fun W1 e1 => ?_
 have hb1 : Below w.heap.size w W1 := by rw [e1]; exact bt
 have q1 := hb1.size
 have hvL_1 : RL W1 (B) (U) (a) (m) (c) (N) (g) := by rw [e1]; (repeat (first | exact hL | refine RL.alloc ?_ _ | refine RL.drew ?_ | refine RL.setRow ?_ (by omega) _))
 clear e1 hL
 refine (reduceMarked_any p _ _ _ m _ N g _ hp hp' Hpr.out hm0 hm hN0 hN (by omega) Hg.out hvL_1).mono ?_; rintro _ W2 ⟨R2, G2, C2, F2, h2, l2, rfl, hw2, hvM_2, hRd, hSm⟩
 obtain ⟨hb2, q2⟩ := bN hb1 hw2
 have sz2 := hw2.size
 have hvL_2 := hvL_1.below hw2 (by omega)
 clear hw2 hvL_1 hb1
 obtain ⟨a0, ha0, hlo, hhi⟩ := lead_cut (N := N) R2 hRd.inc
 have HRd := Lib.hid hRd; clear hRd
 have HSm := Lib.hid hSm; clear hSm
 have Hlo := Lib.hid hlo; clear hlo
 have Hhi := Lib.hid hhi; clear hhi
 have hR9 := red_le HRd.out
 go_wp2
 go_loopw [5, 13] (fun s5 s13 wr => ∃ j : Nat, ∃ aS_3 : Option Addr, ∃ cS_3 : Nat, ∃ US_3 : Nat, j ≤ R2 ∧ s5 = .slice aS_3 ((j - a0)) cS_3 ∧ s13 = .int .i64 j ∧ Below w.heap.size w wr ∧ FL wr W1.heap.size W2.heap.size W1.heap.size 0 R2 (N + 8) h2 G2 C2 F2 ∧ ((W1.heap.size) ≤ (W2.heap.size) ∧ (W2.heap.size) ≤ wr.heap.size) ∧ VL wr (W2.heap.size) (US_3) (aS_3) ((j - a0)) (cS_3) ((fun i t => h2 (a0 + i) (N + t))) ∧ ((W2.heap.size) ≤ (US_3) ∧ (US_3) ≤ wr.heap.size)) (fun _ s13 _ => R2 - (intOf s13).toNat)
 case atStart => exact ⟨0, none, 0, W2.heap.size, by omega, (by rw [Nat.zero_sub]), rfl, hb2, hvM_2, (by omega), VL.nilOf (Nat.zero_sub a0), (by omega)⟩
 case round =>
  obtain ⟨j, aS_3, cS_3, US_3, hle3, rfl, rfl, hb3, hvM_3, hUM_3, hvS_3, hUS_3⟩ := hrel
  obtain ⟨W3, rfl⟩ : ∃ W3 : World, W3 = wr := ⟨_, rfl⟩
  have q3 := hb3.size
  clear hb2 hvM_2 hvL_2
  by_cases hlt3 : j < R2
  ·
   by_cases hja : j < a0
   ·
    have hx0 := hvM_3.cell j hlt3
    rw [Nat.zero_add] at hx0
    have hNC := hvM_3.len j hlt3
    have hGb := (hvM_3.gB j hlt3).2.2
    have hGu := (hvM_3.gB j hlt3).2.1
    have hbt := hvM_3.top
    have HXb : Hid (Bytes (C2 j) (F2 j)) := Lib.hid (hvM_3.bytes j hlt3)
    have HXv : Hid (∀ t, t < N + 8 → F2 j t = h2 j t) := Lib.hid (hvM_3.val j hlt3)
    obtain ⟨xo, hxo⟩ : ∃ x, blk W3 W1.heap.size = x := ⟨_, rfl⟩
    rw [hxo] at hx0
    have q0 : IntKind.i64.wrap (((N + 8 : Nat) : Int) - 8) = N := by rw [IntWalk.i64_in _ (by omega)]; omega
    have hlN := Hlo.out j hja
    have Hz : Hid (∀ t, t < l2 j → F2 j t = 0) := Lib.hid fun t ht => by rw [HXv.out t (by omega)]; exact HRd.out.low j hlt3 t ht
    have hne : F2 j (l2 j) ≠ 0 := by rw [HXv.out _ (by omega), HRd.out.one j hlt3]; exact one_ne
    have ro_4 : IsRow W3 (W1.heap.size) := hvM_3.row
    have co_4 := (hxo)
    have zo_4 := isRow_lt ro_4
    have rx_5 : IsRow W3 (G2 j) := hvM_3.isr j hlt3
    have cx_5 := (hvM_3.blk j hlt3)
    have zx_5 := isRow_lt rx_5
    have no_x : (W1.heap.size) ≠ (G2 j) := by omega
    have nx_o : (G2 j) ≠ (W1.heap.size) := by omega
    go_wp2_with fail
    refine (contains_yes (G2 j) N (C2 j) (C2 j) (l2 j) (F2 j) _ rx_5 cx_5 (by omega) (by omega) hlN Hz.out hne).mono ?_; rintro _ W6 ⟨rfl, hw6⟩
    obtain ⟨ro_6, co_6, zo_6⟩ := keepZ hw6 zo_4 ro_4 co_4
    obtain ⟨rx_6, cx_6, zx_6⟩ := keepZ hw6 zx_5 rx_5 cx_5
    obtain ⟨hb6, q6⟩ := bN hb3 hw6
    have sz6 := hw6.size
    have hvM_6 := hvM_3.below hw6 (by omega)
    have hvS_6 := hvS_3.below hw6 (by omega)
    clear hw6 hvM_3 hvS_3 ro_4 co_4 zo_4 rx_5 cx_5 zx_5 hb3
    go_wp2
    go_roundw
    case rel => exact ⟨j + 1, (aS_3), (cS_3), (US_3), by omega, (by rw [show j + 1 - a0 = j - a0 by omega]), by go_num, bt, vtF, bu, (hvS_6).same (by omega) fun i hi => by omega, bu⟩
    case measure => simp [intOf]; try omega
   ·
    have hx0 := hvM_3.cell j hlt3
    rw [Nat.zero_add] at hx0
    have hNC := hvM_3.len j hlt3
    have hGb := (hvM_3.gB j hlt3).2.2
    have hGu := (hvM_3.gB j hlt3).2.1
    have hbt := hvM_3.top
    have HXb : Hid (Bytes (C2 j) (F2 j)) := Lib.hid (hvM_3.bytes j hlt3)
    have HXv : Hid (∀ t, t < N + 8 → F2 j t = h2 j t) := Lib.hid (hvM_3.val j hlt3)
    obtain ⟨xo, hxo⟩ : ∃ x, blk W3 W1.heap.size = x := ⟨_, rfl⟩
    rw [hxo] at hx0
    have q0 : IntKind.i64.wrap (((N + 8 : Nat) : Int) - 8) = N := by rw [IntWalk.i64_in _ (by omega)]; omega
    have hlj := Hhi.out j (by omega) hlt3
    have Hz : Hid (∀ t, t < N → F2 j t = 0) := Lib.hid fun t ht => by rw [HXv.out t (by omega)]; exact HRd.out.low j hlt3 t (by omega)
    have HU : Hid (Bytes 8 (fun t => F2 j (N + t))) := Lib.hid fun t ht => HXb.out _ (by omega)
    have hat := fun w0 : World => run_arrayAt (P := Tryz.prog) w0 29 5 8 (some ⟨G2 j, N, none⟩) 8 (C2 j - N) (by kernel_rfl) (by omega)
    have hext := row_cut (F2 j) hNC
    have hN8 : N + 8 - N = 8 := by omega
    have ro_7 : IsRow W3 (W1.heap.size) := hvM_3.row
    have co_7 := (hxo)
    have zo_7 := isRow_lt ro_7
    have rx_8 : IsRow W3 (G2 j) := hvM_3.isr j hlt3
    have cx_8 := (hvM_3.blk j hlt3)
    have zx_8 := isRow_lt rx_8
    have no_x : (W1.heap.size) ≠ (G2 j) := by omega
    have nx_o : (G2 j) ≠ (W1.heap.size) := by omega
    go_wp2_with fail
    refine (contains_no (G2 j) N (C2 j) (C2 j) (F2 j) _ rx_8 cx_8 (by omega) (by omega) Hz.out).mono ?_; rintro _ W9 ⟨rfl, hw9⟩
    obtain ⟨ro_9, co_9, zo_9⟩ := keepZ hw9 zo_7 ro_7 co_7
    obtain ⟨rx_9, cx_9, zx_9⟩ := keepZ hw9 zx_8 rx_8 cx_8
    obtain ⟨hb9, q9⟩ := bN hb3 hw9
    have sz9 := hw9.size
    have hvM_9 := hvM_3.below hw9 (by omega)
    have hvS_9 := hvS_3.below hw9 (by omega)
    clear hw9 hvM_3 hvS_3 ro_7 co_7 zo_7 rx_8 cx_8 zx_8 hb3
    go_wp2_with (at_builtin; refine atomL ?_)
    have nwo_W9_0 : (W1.heap.size) ≠ W9.heap.size := by omega
    have nwx_W9_0 : (G2 j) ≠ W9.heap.size := by omega
    intro W10 e10
    have hb10 : Below w.heap.size w W10 := by rw [e10]; exact bt
    have q10 := hb10.size
    have R10 : IsRow W10 (W1.heap.size) ∧ IsRow W10 (G2 j) ∧ IsRow W10 (W9.heap.size) := by rw [e10]; simp [go_sem, ro_9, co_9, no_x, rx_9, cx_9, nx_o, nwo_W9_0, nwx_W9_0]
    obtain ⟨ro_10, rx_10, r32_10⟩ := R10
    have C10 := (⟨congrArg (blk · (W1.heap.size)) e10, congrArg (blk · (G2 j)) e10, congrArg (blk · (W9.heap.size)) e10⟩ : _ ∧ _ ∧ _); simp [go_sem, ro_9, co_9, no_x, rx_9, cx_9, nx_o, nwo_W9_0, nwx_W9_0] at C10
    obtain ⟨co_10, cx_10, c32_10⟩ := C10
    have zo_10 := isRow_lt ro_10; have zx_10 := isRow_lt rx_10; have z32_10 := isRow_lt r32_10
    have no_32 : (W1.heap.size) ≠ (W9.heap.size) := by omega
    have nx_32 : (G2 j) ≠ (W9.heap.size) := by omega
    have n32_o : (W9.heap.size) ≠ (W1.heap.size) := by omega
    have n32_x : (W9.heap.size) ≠ (G2 j) := by omega
    have hvM_10 : FL W10 W1.heap.size W2.heap.size W1.heap.size 0 R2 (N + 8) h2 G2 C2 F2 := by rw [e10]; exact vtF
    have hvS_10 : VL W10 (W2.heap.size) (US_3) (aS_3) ((j - a0)) (cS_3) ((fun i t => h2 (a0 + i) (N + t))) := by rw [e10]; exact vtV
    clear e10 nwo_W9_0 nwx_W9_0 ro_9 co_9 zo_9 rx_9 cx_9 zx_9 hvM_9 hvS_9 hb9
    refine appendV _ rfl _ _ rfl hvS_10 (by omega) (by omega) rfl _ _ ((fun t => F2 j (N + t))) rfl c32_10 HU.out ?_
    intro aS_11 cS_11 W11 hg11 ha11 hvS_11
    obtain ⟨ro_11, co_11⟩ := keepG hg11 (hvS_10.ne (by omega)) ro_10 co_10
    have zo_11 := isRow_lt ro_11
    obtain ⟨rx_11, cx_11⟩ := keepG hg11 (hvS_10.ne (by omega)) rx_10 cx_10
    have zx_11 := isRow_lt rx_11
    have hb11 := below_own hb10 hvS_10 hg11 (by omega) (by omega)
    have q11 := hb11.size
    have sz11 := hg11.size
    have hvM_11 := hvM_10.grown hg11 fun k e => Nat.le_trans (by omega) (hvS_10.own e)
    clear hg11 ha11 ro_10 co_10 zo_10 rx_10 cx_10 zx_10 hvM_10 hvS_10 hb10
    go_wp2
    go_roundw
    case rel => exact ⟨j + 1, (aS_11), (cS_11), (W11.heap.size), by omega, (by rw [show j + 1 - a0 = j - a0 + 1 by omega]), by go_num, bt, vtF, bu, (hvS_11).same (by omega) (ker_add (by omega) HXv.out), bu⟩
    case measure => simp [intOf]; try omega
  ·
   obtain rfl : R2 = j := by omega
   go_wp2_with fail
   go_ret
   exact ⟨_, _, _, _, rfl, bt, (hvS_3).wider (by omega) (by omega), mark_kernel HRd.out hm HSm.out a0 ha0 Hlo.out Hhi.out⟩

end Go.Proofs.YtfmhgfnadgaiaaaGreat
