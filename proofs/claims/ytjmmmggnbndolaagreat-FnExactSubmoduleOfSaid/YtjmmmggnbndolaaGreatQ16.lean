/- Reduced lists of vectors by the program. -/
import Derived.Test.YtjmmmggnbndolaaGreatL3
import Derived.Deep.OwnRows
import Derived.Laws.Cover3
namespace Go.Proofs.YtjmmmggnbndolaaGreat
open Go.RowKit
set_option linter.unusedSimpArgs false
set_option linter.unusedVariables false
attribute [local irreducible] wpQuiet wpQE

theorem FL.grown {w w' : World} {row : Option Nat} {B U b off m N : Nat} {g : Nat → Nat → Int} {G C : Nat → Nat} {F : Nat → Nat → Int} (h : FL w B U b off m N g G C F) (hg : w.grownBy w' row) (hk : ∀ k, row = some k → U ≤ k) : FL w' B U b off m N g G C F :=
  h.of fun x _ h2 hr => hg.block x (isRow_lt hr) fun e => by have := hk x e.symm; omega
theorem VL.own {w : World} {B U k : Nat} {a : Option Addr} {m c : Nat} {f : Nat → Nat → Int} (h : VL w B U a m c f) (e : ownB a = Option.some k) : B ≤ k := by
  rcases h with ⟨rfl, _⟩ | ⟨g, F, rfl, h2, _⟩
  · cases e
  · have : g = k := by simpa [ownB] using e
    omega
theorem BL.own {w : World} {B U k : Nat} {a : Option Addr} {m c : Nat} {f : Nat → Nat → Int} (h : BL w B U a m c f) (e : ownB a = Option.some k) : B ≤ k := by
  rcases h with ⟨rfl, _⟩ | ⟨g, F, rfl, h2, _⟩
  · cases e
  · have : g = k := by simpa [ownB] using e
    omega
theorem FL.none {w : World} {B U b N : Nat} {g : Nat → Nat → Int} {G C : Nat → Nat} {F : Nat → Nat → Int} (hB : B ≤ b) (hU : b < U) (hr : IsRow w b) : FL w B U b 0 0 N g G C F :=
  ⟨hB, hU, hr, fun i hi => by omega, fun i hi => by omega, fun i j hi => by omega, fun i hi => by omega, fun i hi => by omega, fun i hi => by omega, fun i hi => by omega, fun i hi => by omega⟩
/-- one row more -/
theorem flSnoc {w w' : World} {B U b i M N y c : Nat} {g : Nat → Nat → Int} {G C : Nat → Nat} {F : Nat → Nat → Int} {f : Nat → Int} (h : FL w B U b 0 i N g G C F) (hs : (blk w b).size = M) (hi : i < M) (hU : U ≤ y) (hy : IsRow w y) (hc : blk w y = row c f) (hb : Bytes c f) (hN : N ≤ c) (hv : ∀ t, t < N → f t = g i t)
    (hw : ∀ x, x < w.heap.size → x ≠ b → w'.heap[x]? = w.heap[x]?) (hz : w.heap.size ≤ w'.heap.size) (hr : IsRow w' b) (hcc : blk w' b = (blk w b).setIfInBounds i (.slice (some ⟨y, 0, none⟩) N c)) : FL w' B w.heap.size b 0 (i + 1) N g (setN G i y) (setN C i c) (setF F i f) ∧ (blk w' b).size = M := by
  have keep : ∀ x, x ≠ b → IsRow w x → IsRow w' x ∧ blk w' x = blk w x := fun x hx hxr => by
    have e := hw x (isRow_lt hxr) hx
    constructor
    · unfold IsRow; rw [e]; exact hxr
    · unfold blk; rw [e]
  have hbt := h.top
  have hbb := h.base
  have hyb : y ≠ b := by omega
  have hyl := isRow_lt hy
  refine ⟨⟨h.base, isRow_lt h.row, hr, fun k hk => ?_, fun k hk => ?_, fun k l hk hl hkl => ?_, fun k hk => ?_, fun k hk => ?_, fun k hk => ?_, fun k hk => ?_, fun k hk t ht => ?_⟩, by rw [hcc, Array.size_setIfInBounds]; exact hs⟩
  · rw [hcc, Nat.zero_add, Array.getElem?_setIfInBounds]
    unfold setN
    by_cases e : k = i
    · subst e; rw [if_pos rfl, if_pos (by omega), if_pos rfl, if_pos rfl]
    · rw [if_neg (Ne.symm e), if_neg e, if_neg e]
      have := h.cell k (by omega)
      rwa [Nat.zero_add] at this
  · unfold setN
    by_cases e : k = i
    · rw [if_pos e]; exact ⟨by omega, by omega, hyb⟩
    · rw [if_neg e]
      have := h.gB k (by omega)
      have := isRow_lt (h.isr k (by omega))
      exact ⟨by omega, by omega, by omega⟩
  · unfold setN
    by_cases e : k = i
    · by_cases e2 : l = i
      · omega
      · rw [if_pos e, if_neg e2]
        have := (h.gB l (by omega)).2.1
        omega
    · by_cases e2 : l = i
      · rw [if_neg e, if_pos e2]
        have := (h.gB k (by omega)).2.1
        omega
      · rw [if_neg e, if_neg e2]; exact h.inj k l (by omega) (by omega) hkl
  · unfold setN
    by_cases e : k = i
    · rw [if_pos e]; exact (keep y hyb hy).1
    · rw [if_neg e]; exact (keep _ (h.gB k (by omega)).2.2 (h.isr k (by omega))).1
  · unfold setN setF
    by_cases e : k = i
    · rw [if_pos e, if_pos e, if_pos e, (keep y hyb hy).2]; exact hc
    · rw [if_neg e, if_neg e, if_neg e, (keep _ (h.gB k (by omega)).2.2 (h.isr k (by omega))).2]; exact h.blk k (by omega)
  · unfold setN
    by_cases e : k = i
    · rw [if_pos e]; exact hN
    · rw [if_neg e]; exact h.len k (by omega)
  · unfold setN setF
    by_cases e : k = i
    · rw [if_pos e, if_pos e]; exact hb
    · rw [if_neg e, if_neg e]; exact h.bytes k (by omega)
  · unfold setF
    by_cases e : k = i
    · rw [if_pos e, hv t ht, e]
    · rw [if_neg e]; exact h.val k (by omega) t ht
/-- the reduction, told by the reduced list -/
theorem reduceRows_at (p : Int) (B U b m N cap R : Nat) (g h : Nat → Nat → Int) (l : Nat → Nat) (G C : Nat → Nat) (F : Nat → Nat → Int) (w : World) (hp : 0 < p) (hp' : p ≤ 255) (hpr : prime31 p = true) (hm : m ≤ 1000000) (hmc : m ≤ cap) (hN : N ≤ 1000) (hg : ∀ i, i < m → ∀ t, t < N → 0 ≤ g i t ∧ g i t < p) (hBw : B ≤ w.heap.size) (hUw : U ≤ w.heap.size) (hR : Red p N R h l) (hS : SameSpan p N m g R h) (hF : FL w B U b 0 m N g G C F) :
    Calls Tryz.prog 75 #[.int .i64 p, .slice (some ⟨b, 0, none⟩) m cap] w fun e w' => e = .returned (.slice (some ⟨b, 0, none⟩) R cap) ∧ Below B w w' ∧ ∃ G C F, FL w' B U b 0 R N h G C F :=
  (reduceRows_any p B U b m N cap g G C F w hp hp' hpr hm hmc hN hg hBw hUw hF).mono fun e w' hh => by
    obtain ⟨r, rfl, h2, h3, l', g', G', C', F', h4, h5, h6⟩ := hh
    have h2p : 2 ≤ p := by
      unfold prime31 at hpr
      simp only [Bool.and_eq_true, decide_eq_true_eq] at hpr
      exact hpr.1.1
    obtain ⟨rfl, e⟩ := red_unique h2p h5 hR (same_trans (same_symm h6) hS)
    refine ⟨rfl, h2, G', C', F', ?_⟩
    exact ⟨h4.base, h4.top, h4.row, fun i hi => h4.cell i (by omega), fun i hi => h4.gB i (by omega), fun i j hi hj => h4.inj i j (by omega) (by omega), fun i hi => h4.isr i (by omega), fun i hi => h4.blk i (by omega), fun i hi => h4.len i (by omega), fun i hi => h4.bytes i (by omega), fun i hi t ht => (h4.val i (by omega) t ht).trans (e i hi t ht)⟩

theorem row_take {n m : Nat} (f : Nat → Int) (h : m ≤ n) : (row n f).extract 0 m = row m f := by
  apply Array.ext
  · rw [Array.size_extract, row_size, row_size]; omega
  · intro i h1 h2
    rw [row_size] at h2
    simp [row]
theorem made_size (z : Value) (n : Nat) : (madeCells #[z] n).size = n := size_madeCells _ _
theorem addV_last {h : Nat → Nat → Int} {i : Nat} {u : Nat → Int} (e : ∀ t, t < 8 → u t = h i t) : ∀ k, k < i + 1 → ∀ t, t < 8 → addV h i u k t = h k t := fun k hk t ht => by
  by_cases h1 : k < i
  · rw [addV_old h1]
  · obtain rfl : k = i := by omega
    rw [addV_new]; exact e t ht

set_option maxRecDepth 100000 in
set_option maxHeartbeats 1000000 in
theorem reduceVectors_any (p : Int) (B U : Nat) (a : Option Addr) (m c R : Nat) (g h : Nat → Nat → Int) (l : Nat → Nat) (w : World) (hp : 0 < p) (hp' : p ≤ 255) (hpr : prime31 p = true) (hm : m ≤ 1000000) (hU : U ≤ w.heap.size) (hBU : B ≤ U) (hg : ∀ i, i < m → ∀ t, t < 8 → 0 ≤ g i t ∧ g i t < p) (hR : Red p 8 R h l) (hS : SameSpan p 8 m g R h) (hL : VL w B U a m c g) :
    Calls Tryz.prog 47 #[.int .i64 p, .slice a m c] w fun e w' => ∃ a c, e = .returned (.slice a R c) ∧ Below w.heap.size w w' ∧ VL w' w.heap.size w'.heap.size a (R) c (h) := by
 have Hpr := Lib.hid hpr; clear hpr
 have Hg := Lib.hid hg; clear hg
 have HR := Lib.hid hR; clear hR
 have HS := Lib.hid hS; clear hS
 have hR8 : R ≤ 8 := red_le HR.out
 have hmk := run_make_row' (P := Tryz.prog) 114 115 (.slice none 0 0) 24 sliceBs infoBs rfl .i64 .i64 m (by omega) (by omega)
 go_enter Tryz.func47, Tryz.ntmps47
 go_wp2
 refine atomW fun W1 e1 => ?_
 have hb1 : Below w.heap.size w W1 := by rw [e1]; exact bt
 have q1 := hb1.size
 have r13_1 : IsRow W1 (w.heap.size) := by rw [e1]; simp [go_sem]
 have c13_1 := congrArg (fun x => blk x (w.heap.size)) e1; simp [go_sem] at c13_1
 have z13_1 := isRow_lt r13_1
 have hvL_1 : VL W1 (B) (U) (a) (m) (c) (g) := by rw [e1]; (repeat (first | exact hL | refine VL.alloc ?_ _ | refine VL.drew ?_ | refine VL.setRow ?_ (by omega) _))
 clear e1 hL
 go_loopw [16] (fun s16 wr => ∃ i : Nat, ∃ U1 : Nat, ∃ G1 : Nat → Nat, ∃ C1 : Nat → Nat, ∃ F1 : Nat → Nat → Int, i ≤ m ∧ s16 = .int .i64 i ∧ Below w.heap.size w wr ∧ VL wr (B) (U) (a) (m) (c) (g) ∧ ((B) ≤ (U) ∧ (U) ≤ wr.heap.size) ∧ FL wr w.heap.size U1 w.heap.size 0 i 8 g G1 C1 F1 ∧ ((w.heap.size) ≤ (U1) ∧ (U1) ≤ wr.heap.size) ∧ (blk wr w.heap.size).size = m) (fun s16 _ => m - (intOf s16).toNat)
 case atStart => exact ⟨0, W1.heap.size, (fun _ => 0), (fun _ => 0), (fun _ _ => 0), by omega, rfl, hb1, hvL_1, (by omega), (FL.none (Nat.le_refl _) (by omega) r13_1), (by omega), by rw [c13_1]; exact made_size _ _⟩
 case round =>
  obtain ⟨i, U1, G1, C1, F1, hle2, rfl, hb2, hvL_2, hUL_2, hvF_2, hUF_2, hx2⟩ := hrel
  obtain ⟨W2, rfl⟩ : ∃ W2 : World, W2 = wr := ⟨_, rfl⟩
  have q2 := hb2.size
  have HX2 := Lib.hid hx2; clear hx2
  clear hb1 hvL_1
  by_cases hlt2 : i < m
  ·
   obtain ⟨gL_3, FL_3, eaL_3, gBL_3, gUL_3, rLx_3, hcL_3, hmL_3, cLx_3, hFbL_3, hFL_3⟩ := hvL_2.some (by omega)
   cases eaL_3
   have HFL_3 := Lib.hid hFL_3; clear hFL_3
   have HBL_3 := Lib.hid hFbL_3; clear hFbL_3
   have zLx_3 := isRow_lt rLx_3
   have HRW : Hid (row 8 (fun t => FL_3 (i * 8 + t)) = row 8 (g i)) := Lib.hid (row_congr fun t ht => HFL_3.out i (by omega) t ht)
   have hrow := HRW.out
   have HGB : Hid (Bytes 8 (g i)) := Lib.hid fun t ht => by have := Hg.out i hlt2 t ht; omega
   have hc1 : i * 8 + 8 ≤ c * 8 := by omega
   have hsz := HX2.out
   have ro_4 : IsRow W2 (w.heap.size) := hvF_2.row
   have co_4 := (rfl : blk W2 w.heap.size = blk W2 w.heap.size)
   have zo_4 := isRow_lt ro_4
   have nLx_o : (gL_3) ≠ (w.heap.size) := by omega
   have no_Lx : (w.heap.size) ≠ (gL_3) := by omega
   go_wp2_with fail
   have nwLx_W2_0 : (gL_3) ≠ W2.heap.size := by omega
   have nwo_W2_0 : (w.heap.size) ≠ W2.heap.size := by omega
   refine atomC fun W5 e5 => ?_
   have hb5 : Below w.heap.size w W5 := by rw [e5]; exact bt
   have q5 := hb5.size
   have R5 : IsRow W5 (gL_3) ∧ IsRow W5 (w.heap.size) ∧ IsRow W5 (W2.heap.size) := by rw [e5]; simp [go_sem, rLx_3, cLx_3, nLx_o, ro_4, co_4, no_Lx, nwLx_W2_0, nwo_W2_0]
   obtain ⟨rLx_5, ro_5, r7_5⟩ := R5
   have C5 := (⟨congrArg (blk · (gL_3)) e5, congrArg (blk · (w.heap.size)) e5, congrArg (blk · (W2.heap.size)) e5⟩ : _ ∧ _ ∧ _); simp [go_sem, rLx_3, cLx_3, nLx_o, ro_4, co_4, no_Lx, nwLx_W2_0, nwo_W2_0] at C5
   obtain ⟨cLx_5, co_5, c7_5⟩ := C5
   have zLx_5 := isRow_lt rLx_5; have zo_5 := isRow_lt ro_5; have z7_5 := isRow_lt r7_5
   have nLx_7 : (gL_3) ≠ (W2.heap.size) := by omega
   have no_7 : (w.heap.size) ≠ (W2.heap.size) := by omega
   have n7_Lx : (W2.heap.size) ≠ (gL_3) := by omega
   have n7_o : (W2.heap.size) ≠ (w.heap.size) := by omega
   have hvL_5 : VL W5 (B) (U) (some ⟨gL_3, 0, none⟩) (m) (c) (g) := by rw [e5]; exact vtV
   have hvF_5 : FL W5 w.heap.size U1 w.heap.size 0 i 8 g G1 C1 F1 := by rw [e5]; exact vtF
   clear e5 nwLx_W2_0 nwo_W2_0 rLx_3 cLx_3 zLx_3 ro_4 co_4 zo_4 hvL_2 hvF_2 hb2
   have ltKLxn6 : (gL_3) < W5.heap.size := zLx_5
   have ltKon6 : (w.heap.size) < W5.heap.size := zo_5
   have ltK7n6 : (W2.heap.size) < W5.heap.size := z7_5
   refine (clone_any _ 8 8 (g i) _ (by omega) (by omega) r7_5 c7_5 HGB.out).mono ?_; rintro _ W6 ⟨aK_6, cK_6, rfl, hw6, hvK_6⟩
   obtain ⟨rLx_6, cLx_6, zLx_6⟩ := keepZ hw6 zLx_5 rLx_5 cLx_5
   obtain ⟨ro_6, co_6, zo_6⟩ := keepZ hw6 zo_5 ro_5 co_5
   obtain ⟨r7_6, c7_6, z7_6⟩ := keepZ hw6 z7_5 r7_5 c7_5
   obtain ⟨hb6, q6⟩ := bN hb5 hw6
   have sz6 := hw6.size
   have hvL_6 := hvL_5.below hw6 (by omega)
   have hvF_6 := hvF_5.below hw6 (by omega)
   clear hw6 hvL_5 hvF_5 rLx_5 cLx_5 zLx_5 ro_5 co_5 zo_5 r7_5 c7_5 z7_5 hb5
   obtain ⟨gK_7, FK_7, eaK_7, gBK_7, gUK_7, rKx_7, hcK_7, hmK_7, cKx_7, hFbK_7, hFK_7⟩ := hvK_6.some (by omega)
   subst eaK_7
   have HFK_7 := Lib.hid hFK_7; clear hFK_7
   have HBK_7 := Lib.hid hFbK_7; clear hFbK_7
   have zKx_7 := isRow_lt rKx_7
   have nLx_Kx : (gL_3) ≠ (gK_7) := by omega
   have no_Kx : (w.heap.size) ≠ (gK_7) := by omega
   have n7_Kx : (W2.heap.size) ≠ (gK_7) := by omega
   have nKx_Lx : (gK_7) ≠ (gL_3) := by omega
   have nKx_o : (gK_7) ≠ (w.heap.size) := by omega
   have nKx_7 : (gK_7) ≠ (W2.heap.size) := by omega
   go_wp2
   go_roundw
   case rel => exact ⟨i + 1, (W6.heap.size), ((setN G1 i gK_7)), ((setN C1 i cK_6)), ((setF F1 i FK_7)), by omega, by go_num, bt, vtV, bu, (flSnoc hvF_6 (by rw [co_6]; exact hsz) hlt2 (by omega) rKx_7 cKx_7 HBK_7.out (by omega) (fun t ht => HFK_7.out t ht 0 (by omega)) (fun x hx hne => by simp [setRow_other _ _ _ _ hne]) (by simp [World.setRow]) (by simp [go_sem, rLx_6, cLx_6, nLx_o, nLx_7, nLx_Kx, ro_6, co_6, no_Lx, no_7, no_Kx, r7_6, c7_6, n7_Lx, n7_o, n7_Kx, rKx_7, cKx_7, nKx_Lx, nKx_o, nKx_7]) (by simp [go_sem, rLx_6, cLx_6, nLx_o, nLx_7, nLx_Kx, ro_6, co_6, no_Lx, no_7, no_Kx, r7_6, c7_6, n7_Lx, n7_o, n7_Kx, rKx_7, cKx_7, nKx_Lx, nKx_o, nKx_7])).1, bu, (by first | (simp [go_sem, rLx_6, cLx_6, nLx_o, nLx_7, nLx_Kx, ro_6, co_6, no_Lx, no_7, no_Kx, r7_6, c7_6, n7_Lx, n7_o, n7_Kx, rKx_7, cKx_7, nKx_Lx, nKx_o, nKx_7]; done) | (simp [go_sem, rLx_6, cLx_6, nLx_o, nLx_7, nLx_Kx, ro_6, co_6, no_Lx, no_7, no_Kx, r7_6, c7_6, n7_Lx, n7_o, n7_Kx, rKx_7, cKx_7, nKx_Lx, nKx_o, nKx_7]; exact hsz))⟩
   case measure => simp [intOf]; try omega
  ·
   obtain rfl : m = i := by omega
   go_wp2_with fail
   refine (reduceRows_at p w.heap.size U1 w.heap.size m 8 m R g h l G1 C1 F1 _ hp hp' Hpr.out hm (by omega) (by omega) Hg.out (by omega) (by omega) HR.out HS.out hvF_2).mono ?_; rintro _ W8 ⟨rfl, hw8, G2, C2, F2, hvF_8⟩
   have hb8 := hb2.trans (hw8.mono (by omega))
   have q8 := hb8.size
   have sz8 := hw8.size
   have hvL_8 := hvL_2.below hw8 (by omega)
   clear hw8 hvF_2 hvL_2 hb2
   go_wp2
   go_loopw [8, 31] (fun s8 s31 wr => ∃ j : Nat, ∃ aS_9 : Option Addr, ∃ cS_9 : Nat, ∃ US_9 : Nat, j ≤ R ∧ s8 = .slice aS_9 (j) cS_9 ∧ s31 = .int .i64 j ∧ Below w.heap.size w wr ∧ FL wr w.heap.size U1 w.heap.size 0 R 8 h G2 C2 F2 ∧ ((w.heap.size) ≤ (U1) ∧ (U1) ≤ wr.heap.size) ∧ VL wr (W8.heap.size) (US_9) (aS_9) (j) (cS_9) (h) ∧ ((W8.heap.size) ≤ (US_9) ∧ (US_9) ≤ wr.heap.size)) (fun _ s31 _ => R - (intOf s31).toNat)
   case atStart => exact ⟨0, none, 0, W8.heap.size, by omega, (by first | rfl | (simp; done) | go_num), rfl, hb8, hvF_8, (by omega), VL.nil _ _ _ _, (by omega)⟩
   case round =>
    obtain ⟨j, aS_9, cS_9, US_9, hle9, rfl, rfl, hb9, hvF_9, hUF_9, hvS_9, hUS_9⟩ := hrel
    obtain ⟨W9, rfl⟩ : ∃ W9 : World, W9 = wr := ⟨_, rfl⟩
    have q9 := hb9.size
    clear hb8 hvF_8 hvL_8
    by_cases hlt9 : j < R
    ·
     have hx0 := hvF_9.cell j hlt9
     rw [Nat.zero_add] at hx0
     have hN8 := hvF_9.len j hlt9
     have hGb := (hvF_9.gB j hlt9).2.2
     have hGu := (hvF_9.gB j hlt9).2.1
     have hbt := hvF_9.top
     have hat := fun w0 : World => run_arrayAt (P := Tryz.prog) w0 32 5 8 (some ⟨G2 j, 0, none⟩) 8 (C2 j) (by kernel_rfl) (by omega)
     have HF2b : Hid (Bytes 8 (F2 j)) := Lib.hid fun t ht => hvF_9.bytes j hlt9 t (by omega)
     have HF2v : Hid (∀ t, t < 8 → F2 j t = h j t) := Lib.hid (hvF_9.val j hlt9)
     have hext := row_take (F2 j) hN8
     have ro_10 : IsRow W9 (w.heap.size) := hvF_9.row
     have co_10 := (rfl : blk W9 w.heap.size = blk W9 w.heap.size)
     have zo_10 := isRow_lt ro_10
     have rx_11 : IsRow W9 (G2 j) := hvF_9.isr j hlt9
     have cx_11 := (hvF_9.blk j hlt9)
     have zx_11 := isRow_lt rx_11
     have no_x : (w.heap.size) ≠ (G2 j) := by omega
     have nx_o : (G2 j) ≠ (w.heap.size) := by omega
     go_wp2_with (at_builtin; refine atomL ?_)
     have nwo_W9_0 : (w.heap.size) ≠ W9.heap.size := by omega
     have nwx_W9_0 : (G2 j) ≠ W9.heap.size := by omega
     intro W12 e12
     have hb12 : Below w.heap.size w W12 := by rw [e12]; exact bt
     have q12 := hb12.size
     have R12 : IsRow W12 (w.heap.size) ∧ IsRow W12 (G2 j) ∧ IsRow W12 (W9.heap.size) := by rw [e12]; simp [go_sem, ro_10, co_10, no_x, rx_11, cx_11, nx_o, nwo_W9_0, nwx_W9_0]
     obtain ⟨ro_12, rx_12, r39_12⟩ := R12
     have C12 := (⟨congrArg (blk · (w.heap.size)) e12, congrArg (blk · (G2 j)) e12, congrArg (blk · (W9.heap.size)) e12⟩ : _ ∧ _ ∧ _); simp [go_sem, ro_10, co_10, no_x, rx_11, cx_11, nx_o, nwo_W9_0, nwx_W9_0] at C12
     obtain ⟨co_12, cx_12, c39_12⟩ := C12
     have zo_12 := isRow_lt ro_12; have zx_12 := isRow_lt rx_12; have z39_12 := isRow_lt r39_12
     have no_39 : (w.heap.size) ≠ (W9.heap.size) := by omega
     have nx_39 : (G2 j) ≠ (W9.heap.size) := by omega
     have n39_o : (W9.heap.size) ≠ (w.heap.size) := by omega
     have n39_x : (W9.heap.size) ≠ (G2 j) := by omega
     have hvF_12 : FL W12 w.heap.size U1 w.heap.size 0 R 8 h G2 C2 F2 := by rw [e12]; exact vtF
     have hvS_12 : VL W12 (W8.heap.size) (US_9) (aS_9) (j) (cS_9) (h) := by rw [e12]; exact vtV
     clear e12 nwo_W9_0 nwx_W9_0 ro_10 co_10 zo_10 rx_11 cx_11 zx_11 hvF_9 hvS_9 hb9
     refine appendV _ rfl _ _ rfl hvS_12 (by omega) (by omega) rfl _ _ (F2 j) rfl c39_12 HF2b.out ?_
     intro aS_13 cS_13 W13 hg13 ha13 hvS_13
     obtain ⟨ro_13, co_13⟩ := keepG hg13 (hvS_12.ne (by omega)) ro_12 co_12
     have zo_13 := isRow_lt ro_13
     obtain ⟨rx_13, cx_13⟩ := keepG hg13 (hvS_12.ne (by omega)) rx_12 cx_12
     have zx_13 := isRow_lt rx_13
     have hb13 := below_own hb12 hvS_12 hg13 (by omega) (by omega)
     have q13 := hb13.size
     have sz13 := hg13.size
     have hvF_13 := hvF_12.grown hg13 fun k e => Nat.le_trans (by omega) (hvS_12.own e)
     clear hg13 ha13 ro_12 co_12 zo_12 rx_12 cx_12 zx_12 hvF_12 hvS_12 hb12
     go_wp2
     go_roundw
     case rel => exact ⟨j + 1, (aS_13), (cS_13), (W13.heap.size), by omega, (by first | rfl | go_num | (simp; done)), by go_num, bt, vtF, bu, (hvS_13).same rfl (addV_last HF2v.out), bu⟩
     case measure => simp [intOf]; try omega
    ·
     obtain rfl : R = j := by omega
     go_wp2_with fail
     go_ret
     exact ⟨aS_9, cS_9, rfl, bt, (hvS_9).wider (by omega) (by omega)⟩

end Go.Proofs.YtjmmmggnbndolaaGreat
