/- Lists of vectors as values: the laws' eqVectorS, markVectorS, heldVectorS; what a function that returns a list of vectors leaves. -/
import Derived.Test.YtjmmmggnbndolaaGreatGen
import Derived.Test.YtjmmmggnbndolaaGreatEqs
import Derived.Test.YtjmmmggnbndolaaGreatSl
namespace Go.Proofs.YtjmmmggnbndolaaGreat
open Go.RowKit
set_option linter.unusedSimpArgs false
set_option linter.unusedVariables false
attribute [local irreducible] wpQuiet wpQE

@[go_sem ↓] theorem xbuild0 (ρ : Operand → Value) (dst : Option Tmp) (ty : TypeId) (pos : String) (after : Array Edge) (guard : Option (Nat × Bool)) (w : World) :
    (execOp ρ ⟨dst, .buildSlice 29 0 #[], ty, pos, after, guard⟩).run Tryz.prog w = .ok (.value (.slice (some ⟨w.heap.size, 0, none⟩) 0 0)) (w.alloc (.cells (row 0 zf) 32)) := by kernel_rfl
theorem eqVector_eq {v u : Nat → Int} (h : row 8 v = row 8 u) (w : World) : Calls Tryz.prog 39 #[.agg (row 8 v), .agg (row 8 u)] w fun e w' => e = .returned (.bool true) ∧ Below w.heap.size w w' := by
  rw [h]; exact eqVector_same u w
/-- the first k bytes are c, c + 1, .., the others as in F -/
def mkF (c : Int) (F : Nat → Int) (k : Nat) : Nat → Int := fun t => if t < k then (c + t) % 256 else F t
theorem mk_zero (c : Int) (F : Nat → Int) (m : Nat) : row m F = row m (mkF c F 0) := row_congr fun t _ => by unfold mkF; rw [if_neg (by omega)]
theorem mk_upd (c : Int) (F : Nat → Int) (k m : Nat) (y : Int) (hy : y = (c + k) % 256) : row m (upd (mkF c F k) k y) = row m (mkF c F (k + 1)) := row_congr fun t _ => by
  unfold upd mkF
  by_cases h : t = k
  · subst h; rw [if_pos rfl, if_pos (by omega), hy]
  · rw [if_neg h]
    by_cases h2 : t < k
    · rw [if_pos h2, if_pos (by omega)]
    · rw [if_neg h2, if_neg (by omega)]
theorem mk_row (c : Int) (F : Nat → Int) (i m : Nat) : row m (mkF c F (i * 8 + 8)) = row m (mkF c F ((i + 1) * 8 + 0)) := by rw [show (i + 1) * 8 + 0 = i * 8 + 8 by omega]

set_option maxRecDepth 100000 in
set_option maxHeartbeats 1000000 in
theorem eqVectorS_some (g m c g' c' : Nat) (F F' : Nat → Int) (w : World) (hm : m ≤ 1000000) (hc : m ≤ c) (hr : IsRow w g) (hb : blk w g = row (c * 8) F) (hc' : m ≤ c') (hr' : IsRow w g') (hb' : blk w g' = row (c' * 8) F') (hE : ∀ t, t < m * 8 → F t = F' t) :
    Calls Tryz.prog 14 #[.slice (some ⟨g, 0, none⟩) m c, .slice (some ⟨g', 0, none⟩) m c'] w fun e w' => e = .returned (.bool true) ∧ Below w.heap.size w w' := by
 have HE := Lib.hid hE; clear hE
 have z1 := isRow_lt hr; have z2 := isRow_lt hr'
 go_enter Tryz.func14, Tryz.ntmps14
 go_wp2
 refine atomW fun W1 e1 => ?_
 have hb1 : Below w.heap.size w W1 := by rw [e1]; exact bt
 have q1 := hb1.size
 have R1 : IsRow W1 (g) ∧ IsRow W1 (g') := by rw [e1]; simp [go_sem, hr, hb, hr', hb']
 obtain ⟨ra_1, rb_1⟩ := R1
 have C1 := (⟨congrArg (blk · (g)) e1, congrArg (blk · (g')) e1⟩ : _ ∧ _); simp [go_sem, hr, hb, hr', hb'] at C1
 obtain ⟨ca_1, cb_1⟩ := C1
 have za_1 := isRow_lt ra_1; have zb_1 := isRow_lt rb_1
 clear e1 hr hb hr' hb'
 go_loopw [5] (fun s5 wr => ∃ i : Nat, i ≤ m ∧ s5 = .int .i64 i ∧ Below w.heap.size w wr ∧ (IsRow wr (g) ∧ blk wr (g) = blk W1 (g)) ∧ (IsRow wr (g') ∧ blk wr (g') = blk W1 (g'))) (fun s5 _ => m - (intOf s5).toNat)
 case atStart => exact ⟨0, by omega, rfl, hb1, ⟨ra_1, rfl⟩, ⟨rb_1, rfl⟩⟩
 case round =>
  obtain ⟨i, hle2, rfl, hb2, ⟨ra_2, ca_2⟩, ⟨rb_2, cb_2⟩⟩ := hrel
  obtain ⟨W2, rfl⟩ : ∃ W2 : World, W2 = wr := ⟨_, rfl⟩
  have q2 := hb2.size
  have Ea_2 := Lib.hid ca_1; replace ca_2 := ca_2.trans ca_1
  have za_2 := isRow_lt ra_2
  have Eb_2 := Lib.hid cb_1; replace cb_2 := cb_2.trans cb_1
  have zb_2 := isRow_lt rb_2
  clear ra_1 ca_1 za_1 rb_1 cb_1 zb_1 hb1
  by_cases hlt2 : i < m
  ·
   have l1 : i * 8 + 8 ≤ c * 8 := by omega
   have l2 : i * 8 + 8 ≤ c' * 8 := by omega
   have HV : Hid (row 8 (fun t => F (i * 8 + t)) = row 8 fun t => F' (i * 8 + t)) := Lib.hid (row_congr fun t ht => HE.out _ (by omega))
   go_wp2
   refine wp_quiet_all (Below W2.heap.size W2) (by kernel_rfl) (by kernel_rfl) (Below.refl _ _).drew ?_
   iterate 8 (refine q_plain rfl ?_; apply Exists.intro; refine ⟨fun W hW => ?_, ?_⟩; (focus (obtain ⟨xa, ya⟩ := keepB hW za_2 ra_2 ca_2; obtain ⟨xb, yb⟩ := keepB hW zb_2 rb_2 cb_2; go_simp; first | done | rfl)); simp only [Act.put, List.setIfInBounds_toArray, List.set_cons_zero, List.set_cons_succ])
   (refine q_plain rfl ?_; apply Exists.intro; refine ⟨fun W hW => ?_, ?_⟩; (focus (obtain ⟨xa, ya⟩ := keepB hW za_2 ra_2 ca_2; obtain ⟨xb, yb⟩ := keepB hW zb_2 rb_2 cb_2; go_simp; (go_at_call 39; exact (eqVector_eq HV.out _).mono fun e w2 ⟨he, hw2⟩ => ⟨he, hW.trans (hw2.mono hW.size)⟩))); simp only [Act.put, List.setIfInBounds_toArray, List.set_cons_zero, List.set_cons_succ])
   iterate 1 (refine q_plain rfl ?_; apply Exists.intro; refine ⟨fun W hW => ?_, ?_⟩; (focus (obtain ⟨xa, ya⟩ := keepB hW za_2 ra_2 ca_2; obtain ⟨xb, yb⟩ := keepB hW zb_2 rb_2 cb_2; go_simp; first | done | rfl)); simp only [Act.put, List.setIfInBounds_toArray, List.set_cons_zero, List.set_cons_succ])
   refine wpQuiet_nil ?_
   intro W3 hw3
   obtain ⟨ra_3, ca_3, za_3⟩ := keepZ hw3 za_2 ra_2 ca_2
   obtain ⟨rb_3, cb_3, zb_3⟩ := keepZ hw3 zb_2 rb_2 cb_2
   obtain ⟨hb3, q3⟩ := bN hb2 hw3
   clear hw3 ra_2 ca_2 za_2 rb_2 cb_2 zb_2 hb2
   go_wp2
   go_roundw
   case rel => exact ⟨i + 1, by omega, by go_num, bt, ⟨by simp [go_sem, ra_3, ca_3, rb_3, cb_3], (by rw [Ea_2.out]; first | exact ca_3 | (simp [go_sem, ra_3, ca_3, rb_3, cb_3]; done))⟩, ⟨by simp [go_sem, ra_3, ca_3, rb_3, cb_3], (by rw [Eb_2.out]; first | exact cb_3 | (simp [go_sem, ra_3, ca_3, rb_3, cb_3]; done))⟩⟩
   case measure => simp [intOf]; try omega
  ·
   obtain rfl : m = i := by omega
   go_wp2_with fail
   go_ret
   exact ⟨rfl, bt⟩

set_option maxRecDepth 100000 in
theorem eqVectorS_zero (a b : Option Addr) (c c' : Nat) (w : World) : Calls Tryz.prog 14 #[.slice a 0 c, .slice b 0 c'] w fun e w' => e = .returned (.bool true) ∧ Below w.heap.size w w' := by
  go_enter Tryz.func14, Tryz.ntmps14
  go_wp2
  go_loopw [5] (fun i wr => i = .int .i64 0 ∧ wr = w) (fun i _ => 0 - (intOf i).toNat)
  case atStart => exact ⟨rfl, rfl⟩
  case round =>
    obtain ⟨rfl, rfl⟩ := hrel
    go_wp2
    go_ret
    exact ⟨rfl, Below.refl _ _⟩

set_option maxRecDepth 100000 in
set_option maxHeartbeats 1000000 in
theorem markVectorS_some (g m c : Nat) (F : Nat → Int) (q : Int) (w : World) (hm : m ≤ 1000000) (hc : m ≤ c) (hr : IsRow w g) (hb : blk w g = row (c * 8) F) (h0 : 0 ≤ q) (h1 : q ≤ 1000) :
    Calls Tryz.prog 15 #[.slice (some ⟨g, 0, none⟩) m c, .int .i64 q] w fun e w' => e = .returned (.int .i64 (q + (m * 8 + 0 : Nat))) ∧ Aside w.heap.size g w w' ∧ IsRow w' g ∧ blk w' g = row (c * 8) (mkF q F (m * 8 + 0)) := by
 have hbw := isRow_lt hr
 go_enter Tryz.func15, Tryz.ntmps15
 go_wp2
 refine atomW fun W1 e1 => ?_
 have hb1 : Aside w.heap.size g w W1 := by rw [e1]; (repeat (first | exact Aside.refl _ _ _ | refine Aside.alloc ?_ (by first | omega | (simp; try omega)) _ | refine Aside.self ?_ _ | refine Aside.setRow ?_ (by omega) _))
 have q1 := hb1.size
 have ra_1 : IsRow W1 (g) := by rw [e1]; simp [go_sem, hr, hb]
 have ca_1 := congrArg (fun x => blk x (g)) e1; simp [go_sem, hr, hb] at ca_1
 have za_1 := isRow_lt ra_1
 clear e1 hr hb
 go_loopw [1, 5] (fun s1 s5 wr => ∃ i : Nat, i ≤ m ∧ s1 = .int .i64 (q + (i * 8 + 0 : Nat)) ∧ s5 = .int .i64 i ∧ Aside w.heap.size g w wr ∧ (IsRow wr (g) ∧ blk wr (g) = row (c * 8) (mkF q F (i * 8 + 0)))) (fun _ s5 _ => m - (intOf s5).toNat)
 case atStart => exact ⟨0, by omega, (by first | rfl | (simp; done) | go_num), rfl, hb1, ⟨ra_1, ca_1.trans (mk_zero q F _)⟩⟩
 case round =>
  obtain ⟨i, hle2, rfl, rfl, hb2, ⟨ra_2, ca_2⟩⟩ := hrel
  obtain ⟨W2, rfl⟩ : ∃ W2 : World, W2 = wr := ⟨_, rfl⟩
  have q2 := hb2.size
  have za_2 := isRow_lt ra_2
  clear ra_1 ca_1 za_1 hb1
  by_cases hlt2 : i < m
  ·
   go_wp2
   go_loopw [1, 6] (fun s1 s6 wr => ∃ j : Nat, j ≤ 8 ∧ s1 = .int .i64 (q + (i * 8 + j : Nat)) ∧ s6 = .int .i64 j ∧ Aside w.heap.size g w wr ∧ (IsRow wr (g) ∧ blk wr (g) = row (c * 8) (mkF q F (i * 8 + j)))) (fun _ s6 _ => 8 - (intOf s6).toNat)
   case atStart => exact ⟨0, by omega, (by first | rfl | (simp; done) | go_num), rfl, hb2, ⟨ra_2, ca_2⟩⟩
   case round =>
    obtain ⟨j, hle3, rfl, rfl, hb3, ⟨ra_3, ca_3⟩⟩ := hrel
    obtain ⟨W3, rfl⟩ : ∃ W3 : World, W3 = wr := ⟨_, rfl⟩
    have q3 := hb3.size
    have za_3 := isRow_lt ra_3
    clear ra_2 ca_2 za_2 hb2
    by_cases hlt3 : j < 8
    ·
     have l1 : i * 8 + j < c * 8 := by omega
     have HU := Lib.hid (mk_upd q F (i * 8 + j) (c * 8) _ rfl)
     have w1 : IntKind.u8.wrap (q + ((i * 8 + j : Nat) : Int)) = (q + ((i * 8 + j : Nat) : Int)) % 256 := by rfl
     go_wp2
     go_roundw
     case rel => exact ⟨j + 1, by omega, (by first | rfl | go_num | (simp; done)), by go_num, (by (repeat (first | exact hb3 | exact Aside.refl _ _ _ | refine Aside.alloc ?_ (by first | omega | (simp; try omega)) _ | refine Aside.self ?_ _ | refine Aside.setRow ?_ (by omega) _))), ⟨by simp [go_sem, ra_3, ca_3], (by first | (rw [blk_setRow _ _ _ _ ra_3, if_pos rfl]; exact HU.out) | exact (ca_3).trans (HU.out) | (simp [go_sem, ra_3, ca_3]; exact HU.out))⟩⟩
     case measure => simp [intOf]; try omega
    ·
     obtain rfl : j = 8 := by omega
     go_wp2
     go_roundw
     case rel => exact ⟨i + 1, by omega, (by first | rfl | go_num | (simp; done)), by go_num, (by (repeat (first | exact hb3 | exact Aside.refl _ _ _ | refine Aside.alloc ?_ (by first | omega | (simp; try omega)) _ | refine Aside.self ?_ _ | refine Aside.setRow ?_ (by omega) _))), ⟨by simp [go_sem, ra_3, ca_3], (by first | exact (ca_3).trans (mk_row q F i _) | (simp [go_sem, ra_3, ca_3]; exact mk_row q F i _))⟩⟩
     case measure => simp [intOf]; try omega
  ·
   obtain rfl : m = i := by omega
   go_wp2_with fail
   go_wp2_with fail
   go_ret
   exact ⟨rfl, (by (repeat (first | exact hb2 | exact Aside.refl _ _ _ | refine Aside.alloc ?_ (by first | omega | (simp; try omega)) _ | refine Aside.self ?_ _ | refine Aside.setRow ?_ (by omega) _))), (by simp [go_sem, ra_2, ca_2]), (by first | exact ca_2 | simp [go_sem, ra_2, ca_2])⟩

set_option maxRecDepth 100000 in
set_option maxHeartbeats 1000000 in
theorem heldVectorS_some (g m c : Nat) (F : Nat → Int) (q : Int) (w : World) (hm : m ≤ 1000000) (hc : m ≤ c) (hr : IsRow w g) (hb : blk w g = row (c * 8) F) (h0 : 0 ≤ q) (h1 : q ≤ 1000) (hE : ∀ t, t < m * 8 → F t = (q + t) % 256) :
    Calls Tryz.prog 16 #[.slice (some ⟨g, 0, none⟩) m c, .int .i64 q] w fun e w' => e = .returned (.int .i64 (q + (m * 8 + 0 : Nat))) ∧ Below w.heap.size w w' := by
 have HE := Lib.hid hE; clear hE
 have hbw := isRow_lt hr
 go_enter Tryz.func16, Tryz.ntmps16
 go_wp2
 refine atomW fun W1 e1 => ?_
 have hb1 : Below w.heap.size w W1 := by rw [e1]; exact bt
 have q1 := hb1.size
 have ra_1 : IsRow W1 (g) := by rw [e1]; simp [go_sem, hr, hb]
 have ca_1 := congrArg (fun x => blk x (g)) e1; simp [go_sem, hr, hb] at ca_1
 have za_1 := isRow_lt ra_1
 clear e1 hr hb
 go_loopw [1, 5] (fun s1 s5 wr => ∃ i : Nat, i ≤ m ∧ s1 = .int .i64 (q + (i * 8 + 0 : Nat)) ∧ s5 = .int .i64 i ∧ Below w.heap.size w wr ∧ (IsRow wr (g) ∧ blk wr (g) = blk W1 (g))) (fun _ s5 _ => m - (intOf s5).toNat)
 case atStart => exact ⟨0, by omega, (by first | rfl | (simp; done) | go_num), rfl, hb1, ⟨ra_1, rfl⟩⟩
 case round =>
  obtain ⟨i, hle2, rfl, rfl, hb2, ⟨ra_2, ca_2⟩⟩ := hrel
  obtain ⟨W2, rfl⟩ : ∃ W2 : World, W2 = wr := ⟨_, rfl⟩
  have q2 := hb2.size
  have Ea_2 := Lib.hid ca_1; replace ca_2 := ca_2.trans ca_1
  have za_2 := isRow_lt ra_2
  clear ra_1 ca_1 za_1 hb1
  by_cases hlt2 : i < m
  ·
   go_wp2
   go_loopw [1, 6] (fun s1 s6 wr => ∃ j : Nat, j ≤ 8 ∧ s1 = .int .i64 (q + (i * 8 + j : Nat)) ∧ s6 = .int .i64 j ∧ Below w.heap.size w wr ∧ (IsRow wr (g) ∧ blk wr (g) = blk W2 (g))) (fun _ s6 _ => 8 - (intOf s6).toNat)
   case atStart => exact ⟨0, by omega, (by first | rfl | (simp; done) | go_num), rfl, hb2, ⟨ra_2, rfl⟩⟩
   case round =>
    obtain ⟨j, hle3, rfl, rfl, hb3, ⟨ra_3, ca_3⟩⟩ := hrel
    obtain ⟨W3, rfl⟩ : ∃ W3 : World, W3 = wr := ⟨_, rfl⟩
    have q3 := hb3.size
    have Ea_3 := Lib.hid ca_2; replace ca_3 := ca_3.trans ca_2
    have za_3 := isRow_lt ra_3
    clear ra_2 ca_2 za_2 hb2
    by_cases hlt3 : j < 8
    ·
     have l1 : i * 8 + j < c * 8 := by omega
     have w1 : IntKind.u8.wrap (q + ((i * 8 + j : Nat) : Int)) = (q + ((i * 8 + j : Nat) : Int)) % 256 := by rfl
     have e1 := HE.out (i * 8 + j) (by omega)
     go_wp2
     go_roundw
     case rel => exact ⟨j + 1, by omega, (by first | rfl | go_num | (simp; done)), by go_num, bt, ⟨by simp [go_sem, ra_3, ca_3], (by rw [Ea_3.out]; first | exact ca_3 | (simp [go_sem, ra_3, ca_3]; done))⟩⟩
     case measure => simp [intOf]; try omega
    ·
     obtain rfl : j = 8 := by omega
     have hz : q + ((i * 8 + 8 : Nat) : Int) = q + (((i + 1) * 8 + 0 : Nat) : Int) := by omega
     go_wp2
     go_roundw
     case rel => exact ⟨i + 1, by omega, (by first | rfl | go_num | (simp; done)), by go_num, bt, ⟨by simp [go_sem, ra_3, ca_3], (by rw [Ea_2.out]; first | exact ca_3 | (simp [go_sem, ra_3, ca_3]; done))⟩⟩
     case measure => simp [intOf]; try omega
  ·
   obtain rfl : m = i := by omega
   go_wp2_with fail
   go_ret
   exact ⟨rfl, bt⟩

set_option maxRecDepth 100000 in
theorem markVectorS_zero (a : Option Addr) (c : Nat) (q : Int) (w : World) : Calls Tryz.prog 15 #[.slice a 0 c, .int .i64 q] w fun e w' => e = .returned (.int .i64 q) ∧ w = w' := by
  go_enter Tryz.func15, Tryz.ntmps15
  go_wp2
  go_loopw [1, 5] (fun s i wr => s = .int .i64 q ∧ i = .int .i64 0 ∧ wr = w) (fun _ i _ => 0 - (intOf i).toNat)
  case atStart => exact ⟨rfl, rfl, rfl⟩
  case round =>
    obtain ⟨rfl, rfl, rfl⟩ := hrel
    go_wp2
    go_ret
    exact ⟨rfl, rfl⟩
set_option maxRecDepth 100000 in
theorem heldVectorS_zero (a : Option Addr) (c : Nat) (q : Int) (w : World) : Calls Tryz.prog 16 #[.slice a 0 c, .int .i64 q] w fun e w' => e = .returned (.int .i64 q) ∧ w = w' := by
  go_enter Tryz.func16, Tryz.ntmps16
  go_wp2
  go_loopw [1, 5] (fun s i wr => s = .int .i64 q ∧ i = .int .i64 0 ∧ wr = w) (fun _ i _ => 0 - (intOf i).toNat)
  case atStart => exact ⟨rfl, rfl, rfl⟩
  case round =>
    obtain ⟨rfl, rfl, rfl⟩ := hrel
    go_wp2
    go_ret
    exact ⟨rfl, rfl⟩

/-! ### lists of vectors as values -/
/-- the slice at a of length m and capacity c holds the m vectors f; its block, if it has one, lies in B .. U - 1 -/
def VL (w : World) (B U : Nat) (a : Option Addr) (m c : Nat) (f : Nat → Nat → Int) : Prop :=
  (a = none ∧ m = 0 ∧ c = 0) ∨ ∃ g F, a = some ⟨g, 0, none⟩ ∧ B ≤ g ∧ g < U ∧ IsRow w g ∧ m ≤ c ∧ c ≤ maxLen ∧ blk w g = row (c * 8) F ∧ Bytes (c * 8) F ∧ ∀ i, i < m → ∀ t, t < 8 → F (i * 8 + t) = f i t
def ownB (a : Option Addr) : Option Nat := a.map (·.block)
theorem VL.of {w w' : World} {B U : Nat} {a : Option Addr} {m c : Nat} {f : Nat → Nat → Int} (h : VL w B U a m c f) (k : ∀ g, B ≤ g → g < U → ownB a = some g → IsRow w g → w'.heap[g]? = w.heap[g]?) : VL w' B U a m c f := by
  rcases h with h | ⟨g, F, rfl, h2, h3, h4, h5, h8, h6, h9, h7⟩
  · exact .inl h
  · have e := k g h2 h3 rfl h4
    refine .inr ⟨g, F, rfl, h2, h3, ?_, h5, h8, ?_, h9, h7⟩
    · unfold IsRow; rw [e]; exact h4
    · unfold blk at h6 ⊢; rw [e]; exact h6
theorem VL.below {w w' : World} {B U X : Nat} {a : Option Addr} {m c : Nat} {f : Nat → Nat → Int} (h : VL w B U a m c f) (hw : Below X w w') (hU : U ≤ X) : VL w' B U a m c f := h.of fun g _ h2 _ _ => hw.block g (by omega)
theorem VL.alloc {w : World} {B U : Nat} {a : Option Addr} {m c : Nat} {f : Nat → Nat → Int} (h : VL w B U a m c f) (o : Obj) : VL (w.alloc o) B U a m c f := h.of fun g _ _ _ hr => Below.heap_alloc _ _ _ (isRow_lt hr)
theorem VL.drew {w : World} {B U : Nat} {a : Option Addr} {m c : Nat} {f : Nat → Nat → Int} (h : VL w B U a m c f) : VL w.drew B U a m c f := h.of fun _ _ _ _ _ => rfl
theorem VL.setRow {w : World} {B U : Nat} {a : Option Addr} {m c : Nat} {f : Nat → Nat → Int} (h : VL w B U a m c f) {b : Nat} (hb : b < B ∨ U ≤ b) (cs : Array Value) : VL (w.setRow b cs) B U a m c f := h.of fun g h1 h2 _ _ => setRow_other w b g cs (by omega)
theorem VL.aside {w w' : World} {B U X b : Nat} {a : Option Addr} {m c : Nat} {f : Nat → Nat → Int} (h : VL w B U a m c f) (hw : Aside X b w w') (hU : U ≤ X) (hb : b < B ∨ U ≤ b) : VL w' B U a m c f := h.of fun g h1 h2 _ _ => hw.block g (by omega) (by omega)
theorem vtV {w : World} {B U : Nat} {a : Option Addr} {m c : Nat} {f : Nat → Nat → Int} (h : VL w B U a m c f := by repeat (first | assumption | refine VL.alloc ?_ _ | refine VL.drew ?_ | refine VL.setRow ?_ (by omega) _)) : VL w B U a m c f := h
theorem VL.grown {w w' : World} {B U : Nat} {a b : Option Addr} {m c : Nat} {f : Nat → Nat → Int} (h : VL w B U a m c f) (hg : w.grownBy w' (ownB b)) (hne : ownB a = none ∨ ownB a ≠ ownB b) : VL w' B U a m c f := h.of fun g _ _ ha hr => hg.block g (isRow_lt hr) (by rcases hne with h0 | h0; (rw [h0] at ha; cases ha); rw [← ha]; exact h0)
theorem VL.ne {w : World} {B U b : Nat} {a : Option Addr} {m c : Nat} {f : Nat → Nat → Int} (h : VL w B U a m c f) (hb : b < B ∨ U ≤ b) : some b ≠ ownB a := by
  rcases h with ⟨rfl, _⟩ | ⟨g, F, rfl, h2, h3, _⟩
  · exact fun e => by cases e
  · exact fun e => by have : b = g := by simpa [ownB] using e
                      omega
theorem VL.same {w : World} {B U : Nat} {a : Option Addr} {m m' c : Nat} {f f' : Nat → Nat → Int} (h : VL w B U a m c f) (e : m = m') (hf : ∀ i, i < m → ∀ t, t < 8 → f i t = f' i t) : VL w B U a m' c f' := by
  subst e
  rcases h with h | ⟨g, F, rfl, h2, h3, h4, h5, h8, h6, h9, h7⟩
  · exact .inl h
  · exact .inr ⟨g, F, rfl, h2, h3, h4, h5, h8, h6, h9, fun i hi t ht => (h7 i hi t ht).trans (hf i hi t ht)⟩
theorem VL.wider {w : World} {B U B' U' : Nat} {a : Option Addr} {m c : Nat} {f : Nat → Nat → Int} (h : VL w B U a m c f) (hB : B' ≤ B) (hU : U ≤ U') : VL w B' U' a m c f := by
  rcases h with h | ⟨g, F, rfl, h2, h3, h4⟩
  · exact .inl h
  · exact .inr ⟨g, F, rfl, by omega, by omega, h4⟩
theorem VL.nil (w : World) (B U : Nat) (f : Nat → Nat → Int) : VL w B U none 0 0 f := .inl ⟨rfl, rfl, rfl⟩
theorem VL.nilOf {w : World} {B U m : Nat} {f : Nat → Nat → Int} (e : m = 0) : VL w B U none m 0 f := .inl ⟨rfl, e, rfl⟩
theorem VL.some {w : World} {B U : Nat} {a : Option Addr} {m c : Nat} {f : Nat → Nat → Int} (h : VL w B U a m c f) (hm : 0 < m) : ∃ g F, a = some ⟨g, 0, none⟩ ∧ B ≤ g ∧ g < U ∧ IsRow w g ∧ m ≤ c ∧ c ≤ maxLen ∧ blk w g = row (c * 8) F ∧ Bytes (c * 8) F ∧ ∀ i, i < m → ∀ t, t < 8 → F (i * 8 + t) = f i t := by
  rcases h with ⟨_, h, _⟩ | h
  · omega
  · exact h
theorem VL.empty {w : World} {B U g : Nat} (hB : B ≤ g) (hU : g < U) (hr : IsRow w g) (hc : blk w g = row 0 zf) (f : Nat → Nat → Int) : VL w B U (Option.some ⟨g, 0, none⟩) 0 0 f := .inr ⟨g, zf, rfl, hB, hU, hr, Nat.le_refl _, Nat.zero_le _, hc, fun i hi => by omega, fun i hi => by omega⟩
/-- what markVectorS leaves in a list -/
def mkL (q : Int) : Nat → Nat → Int := fun i t => (q + ((i * 8 + t : Nat) : Int)) % 256
theorem eqVectorS_any {w : World} {B U B' U' : Nat} {a a' : Option Addr} {m c c' : Nat} {f : Nat → Nat → Int} (hm : m ≤ 1000000) (h : VL w B U a m c f) (h' : VL w B' U' a' m c' f) :
    Calls Tryz.prog 14 #[.slice a m c, .slice a' m c'] w fun e w' => e = .returned (.bool true) ∧ Below w.heap.size w w' := by
  rcases Nat.eq_zero_or_pos m with rfl | h0
  · exact eqVectorS_zero a a' c c' w
  · obtain ⟨g, F, rfl, _, _, hr, hc, _, hb, _, hF⟩ := h.some h0
    obtain ⟨g', F', rfl, _, _, hr', hc', _, hb', _, hF'⟩ := h'.some h0
    refine eqVectorS_some g m c g' c' F F' w hm hc hr hb hc' hr' hb' fun t ht => ?_
    have e1 := hF (t / 8) (by omega) (t % 8) (by omega)
    have e2 := hF' (t / 8) (by omega) (t % 8) (by omega)
    rw [show t / 8 * 8 + t % 8 = t by omega] at e1 e2
    rw [e1, e2]
theorem mkF_bytes {q : Int} {F : Nat → Int} {k m : Nat} (hF : Bytes m F) : Bytes m (mkF q F k) := fun t ht => by
  unfold mkF
  split
  · omega
  · exact hF t ht
theorem markVectorS_any {w : World} {B U : Nat} {a : Option Addr} {m c : Nat} {f : Nat → Nat → Int} {q : Int} (hm : m ≤ 1000000) (h0 : 0 ≤ q) (h1 : q ≤ 1000) (hB : B ≤ w.heap.size) (h : VL w B U a m c f) :
    Calls Tryz.prog 15 #[.slice a m c, .int .i64 q] w fun e w' => e = .returned (.int .i64 (q + ((m * 8 : Nat) : Int))) ∧ Below B w w' ∧ VL w' B U a m c (mkL q) := by
  rcases Nat.eq_zero_or_pos m with rfl | hp
  · refine (markVectorS_zero a c q w).mono ?_
    rintro e w' ⟨rfl, rfl⟩
    exact ⟨by simp, Below.refl _ _, h.same rfl fun i hi => by omega⟩
  · obtain ⟨g, F, rfl, hg, hgU, hr, hc, hcm, hb, hFb, hF⟩ := h.some hp
    refine (markVectorS_some g m c F q w hm hc hr hb h0 h1).mono ?_
    rintro e w' ⟨rfl, hw, hr', hb'⟩
    refine ⟨rfl, ⟨hw.os, hw.tape, hw.output, hw.size, fun k hk => hw.block k (by omega) (by omega)⟩, .inr ⟨g, _, rfl, hg, hgU, hr', hc, hcm, hb', mkF_bytes hFb, fun i hi t ht => ?_⟩⟩
    unfold mkF mkL
    rw [if_pos (by omega)]
theorem heldVectorS_any {w : World} {B U : Nat} {a : Option Addr} {m c : Nat} {q : Int} (hm : m ≤ 1000000) (h0 : 0 ≤ q) (h1 : q ≤ 1000) (h : VL w B U a m c (mkL q)) :
    Calls Tryz.prog 16 #[.slice a m c, .int .i64 q] w fun e w' => e = .returned (.int .i64 (q + ((m * 8 : Nat) : Int))) ∧ Below w.heap.size w w' := by
  rcases Nat.eq_zero_or_pos m with rfl | hp
  · refine (heldVectorS_zero a c q w).mono ?_
    rintro e w' ⟨rfl, rfl⟩
    exact ⟨by simp, Below.refl _ _⟩
  · obtain ⟨g, F, rfl, hg, hgU, hr, hc, hcm, hb, hFb, hF⟩ := h.some hp
    refine (heldVectorS_some g m c F q w hm hc hr hb h0 h1 fun t ht => ?_).mono ?_
    · have e1 := hF (t / 8) (by omega) (t % 8) (by omega)
      rw [show t / 8 * 8 + t % 8 = t by omega] at e1
      rw [e1]
      unfold mkL
      rw [show t / 8 * 8 + t % 8 = t by omega]
    · rintro e w' ⟨rfl, hw⟩
      exact ⟨rfl, hw⟩

/-! ### append onto a list of vectors -/
/-- f with v behind the first n -/
def addV (f : Nat → Nat → Int) (n : Nat) (v : Nat → Int) : Nat → Nat → Int := fun i => if i < n then f i else v
theorem addV_old {f : Nat → Nat → Int} {n i : Nat} {v : Nat → Int} (h : i < n) : addV f n v i = f i := if_pos h
theorem addV_new {f : Nat → Nat → Int} {n : Nat} {v : Nat → Int} : addV f n v n = v := if_neg (Nat.lt_irrefl _)
theorem infoVec : (Tryz.prog.info? 32).map (fun i => (i.zero, i.size, i.bytes)) = some (some (.agg (row 8 zf)), 8, 8) := by rw [row_zeros]; kernel_rfl
theorem sliceVec : Tryz.prog.underlying 29 = some (.slice 32) := by kernel_rfl
theorem appendV (w : World) {ops : Array Oper} {rest : List Oper} {o : Oper} {A : Act} {Q : Exit → Act → World → Prop} (hgd : o.guard = none) (s x : Operand)
    (ho : o.op = .call { callee := .builtin .append, args := #[s, x], argTypes := #[29, 29] })
    {B U : Nat} {a : Option Addr} {m c : Nat} {f : Nat → Nat → Int} (h : VL w B U a m c f) (hB : B ≤ w.heap.size) (hm : m + 1 ≤ 1000000) (hv : A.eval s = .slice a m c)
    (sb c1 : Nat) (u : Nat → Int) (hx : A.eval x = .slice (some ⟨sb, 0, none⟩) 1 c1) (hsc : blk w sb = row 8 u) (hu : Bytes 8 u)
    (k : ∀ a' c' w', w.grownBy w' (ownB a) → (ownB a' = ownB a ∨ ∃ g, ownB a' = some g ∧ w.heap.size ≤ g) → VL w' B w'.heap.size a' (m + 1) c' (addV f m u) → wpList Tryz.prog ops Q rest (A.put o.dst (.slice a' (m + 1) c')) w') : wpList Tryz.prog ops Q (o :: rest) A w := by
  obtain ⟨i0, hi, hz0, hz1, hz2⟩ := info_parts infoVec
  rcases h with ⟨rfl, rfl, rfl⟩ | ⟨g, F, rfl, h2, h3, h4, h5, h8, h6, h9, h7⟩
  · refine wpList_bornB w hgd s x _ ho _ i0 _ 8 8 sliceVec hi hz0 hz1 hz2 rfl hv sb 0 1 c1 8 u hx hsc (by omega) hu (by omega) (by unfold maxLen; omega) (by omega) fun g' cap' F' w' hG => ?_
    refine k _ _ _ hG.by_ (.inr ⟨g', rfl, hG.new⟩) (.inr ⟨g', F', rfl, by have := hG.new; omega, isRow_lt hG.row, hG.row, hG.len, hG.max, hG.blk, hG.bytes, fun i hi t ht => ?_⟩)
    obtain rfl : i = 0 := by omega
    rw [addV_new, Nat.zero_mul, Nat.zero_add, hG.more t (by omega), Nat.zero_add]
  · refine wpList_growB w hgd s x _ ho _ i0 _ 8 8 sliceVec hi hz0 hz1 hz2 rfl g m c F hv h4 h5 h8 h6 h9 sb 0 1 c1 8 u hx hsc (by omega) hu (by unfold maxLen; omega) (by omega) fun g' cap' F' w' hG => ?_
    refine k _ _ _ hG.by_ (hG.new.elim (fun e => .inl (by rw [e])) fun e => .inr ⟨g', rfl, e⟩) (.inr ⟨g', F', rfl, by have := hG.new; omega, isRow_lt hG.row, hG.row, hG.len, hG.max, hG.blk, hG.bytes, fun i hi t ht => ?_⟩)
    by_cases h1 : i < m
    · rw [addV_old h1, hG.old _ (by omega)]
      exact h7 i h1 t ht
    · obtain rfl : i = m := by omega
      rw [addV_new, hG.more t (by omega), Nat.zero_add]
theorem below_own {n : Nat} {w0 w w' : World} {B U : Nat} {a : Option Addr} {m c : Nat} {f : Nat → Nat → Int} (hb : Below n w0 w) (h : VL w B U a m c f) (hg : w.grownBy w' (ownB a)) (hn : n ≤ w.heap.size) (hB : n ≤ B) : Below n w0 w' :=
  hb.grown hg hn fun k e => by
    rcases h with ⟨rfl, _⟩ | ⟨g, F, rfl, h2, _⟩
    · cases e
    · have : g = k := by simpa [ownB] using e
      omega
/-- two lists lie in different blocks -/
def ApartV (a b : Option Addr) : Prop := ownB a = none ∨ ownB a ≠ ownB b
theorem apart_symm {a b : Option Addr} (h : ApartV a b) : ApartV b a := by
  rcases h with h | h
  · by_cases hb : ownB b = none
    · exact .inl hb
    · exact .inr (by rw [h]; exact hb)
  · by_cases hb : ownB b = none
    · exact .inl hb
    · exact .inr (Ne.symm h)
theorem apart_range {w w' : World} {B U B' U' : Nat} {a b : Option Addr} {m c m' c' : Nat} {f f' : Nat → Nat → Int} (h : VL w B U a m c f) (h' : VL w' B' U' b m' c' f') (hU : U ≤ B') : ApartV a b := by
  rcases h with ⟨rfl, _⟩ | ⟨g, F, rfl, h2, h3, _⟩
  · exact .inl rfl
  · rcases h' with ⟨rfl, _⟩ | ⟨g', F', rfl, h2', h3', _⟩
    · exact .inr (fun e => by cases e)
    · exact .inr (fun e => by have : g = g' := by simpa [ownB] using e
                              omega)
theorem apart_new {w : World} {B U : Nat} {a a' b : Option Addr} {m c : Nat} {f : Nat → Nat → Int} (h : ApartV b a) (hb : VL w B U b m c f) (hU : U ≤ w.heap.size) (e : ownB a' = ownB a ∨ ∃ g, ownB a' = Option.some g ∧ w.heap.size ≤ g) : ApartV b a' := by
  rcases e with e | ⟨g, e, hg⟩
  · unfold ApartV; rw [e]; exact h
  · rcases hb with ⟨rfl, _⟩ | ⟨g2, F, rfl, _, h3, _⟩
    · exact .inl rfl
    · exact .inr (by rw [e]; exact fun x => by have : g2 = g := by simpa [ownB] using x
                                               omega)

end Go.Proofs.YtjmmmggnbndolaaGreat
