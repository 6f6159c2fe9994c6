/- Lists of numbers as values: the laws' eqInt64S, markInt64S, heldInt64S; append. -/
import Derived.Test.YtfdejhhgkpdfdaaL1
import Derived.Test.YtfdejhhgkpdfdaaP19
namespace Go.Proofs.Ytfdejhhgkpdfdaa
open Go.RowKit
set_option linter.unusedSimpArgs false
set_option linter.unusedVariables false
attribute [local irreducible] wpQuiet wpQE

set_option maxRecDepth 100000 in
set_option maxHeartbeats 1000000 in
theorem eqInt64S_some (g m c g' c' : Nat) (F F' : Nat → Int) (w : World) (hm : m ≤ 1000000) (hc : m ≤ c) (hr : IsRow w g) (hb : blk w g = nums c F) (hc' : m ≤ c') (hr' : IsRow w g') (hb' : blk w g' = nums c' F') (hE : ∀ t, t < m → F t = F' t) :
    Calls Try.prog 26 #[.slice (some ⟨g, 0, none⟩) m c, .slice (some ⟨g', 0, none⟩) m c'] w fun e w' => e = .returned (.bool true) ∧ Below w.heap.size w w' := by
  have HE := Lib.hid hE; clear hE
  have z1 := isRow_lt hr; have z2 := isRow_lt hr'
  go_enter Try.func26, Try.ntmps26
  go_wp2
  refine atomW fun W1 e1 => ?_
  have hb1 : Below w.heap.size w W1 := by rw [e1]; (repeat (first | exact Below.refl _ _ | refine Below.alloc ?_ (by first | omega | (simp; try omega)) _ | refine below_setRow ?_ (by omega) _ | refine Below.drew ?_))
  have q1 := hb1.size
  have R1 : IsRow W1 (g) ∧ IsRow W1 (g') := by rw [e1]; simp [go_sem, hr, hb, hr', hb']
  obtain ⟨ra_1, rb_1⟩ := R1
  have C1 := (⟨congrArg (blk · (g)) e1, congrArg (blk · (g')) e1⟩ : _ ∧ _); simp [go_sem, hr, hb, hr', hb'] at C1
  obtain ⟨ca_1, cb_1⟩ := C1
  have za_1 := isRow_lt ra_1; have zb_1 := isRow_lt rb_1
  clear e1 hr hb hr' hb'
  go_loopw [5] (fun s5 wr => ∃ i : Nat, i ≤ m ∧ s5 = .int .i64 i ∧ Below w.heap.size w wr ∧ (IsRow wr (g) ∧ blk wr (g) = blk W1 (g)) ∧ (IsRow wr (g') ∧ blk wr (g') = blk W1 (g'))) (fun s5 _ => m - (intOf s5).toNat)
  case atStart => exact ⟨0, by omega, rfl, hb1, ⟨ra_1, rfl⟩, ⟨rb_1, rfl⟩⟩
  case round =>
    obtain ⟨i, hle2, rfl, hb2, ⟨ra_2, ca_2⟩, ⟨rb_2, cb_2⟩⟩ := hrel
    obtain ⟨W2, rfl⟩ : ∃ W2 : World, W2 = wr := ⟨_, rfl⟩
    have q2 := hb2.size
    have Ea_2 := Lib.hid ca_1; replace ca_2 := ca_2.trans ca_1
    have za_2 := isRow_lt ra_2
    have Eb_2 := Lib.hid cb_1; replace cb_2 := cb_2.trans cb_1
    have zb_2 := isRow_lt rb_2
    clear ra_1 ca_1 za_1 rb_1 cb_1 zb_1 hb1
    by_cases hlt2 : i < m
    · skip
      have l1 : i < c := by omega
      have l2 : i < c' := by omega
      have hv1 : F i = F' i := HE.out i (by omega)
      go_wp2
      refine wp_quiet_all (Below W2.heap.size W2) (by kernel_rfl) (by kernel_rfl) (Below.refl _ _).drew ?_
      iterate 9 (refine q_plain rfl ?_; apply Exists.intro; refine ⟨fun W hW => ?_, ?_⟩; (focus (obtain ⟨xa, ya⟩ := keepB hW za_2 ra_2 ca_2; obtain ⟨xb, yb⟩ := keepB hW zb_2 rb_2 cb_2; go_simp; first | done | rfl)); simp only [Act.put, List.setIfInBounds_toArray, List.set_cons_zero, List.set_cons_succ])
      refine wpQuiet_nil ?_
      intro W3 hw3
      obtain ⟨ra_3, ca_3⟩ := keepB hw3 za_2 ra_2 ca_2
      have za_3 := isRow_lt ra_3
      obtain ⟨rb_3, cb_3⟩ := keepB hw3 zb_2 rb_2 cb_2
      have zb_3 := isRow_lt rb_3
      have hb3 := hb2.trans (hw3.mono hb2.size)
      have q3 := hb3.size
      clear hw3 ra_2 ca_2 za_2 rb_2 cb_2 zb_2 hb2
      go_wp2
      go_roundw
      case rel => exact ⟨i + 1, by omega, by go_num, (by (repeat (first | exact hb3 | exact Below.refl _ _ | refine Below.alloc ?_ (by first | omega | (simp; try omega)) _ | refine below_setRow ?_ (by omega) _ | refine Below.drew ?_))), ⟨by simp [go_sem, ra_3, ca_3, rb_3, cb_3], (by rw [Ea_2.out]; first | exact ca_3 | (simp [go_sem, ra_3, ca_3, rb_3, cb_3]; done))⟩, ⟨by simp [go_sem, ra_3, ca_3, rb_3, cb_3], (by rw [Eb_2.out]; first | exact cb_3 | (simp [go_sem, ra_3, ca_3, rb_3, cb_3]; done))⟩⟩
      case measure => simp [intOf]; try omega
    · skip
      obtain rfl : m = i := by omega
      go_wp2_with fail
      go_ret
      exact ⟨rfl, (by (repeat (first | exact hb2 | exact Below.refl _ _ | refine Below.alloc ?_ (by first | omega | (simp; try omega)) _ | refine below_setRow ?_ (by omega) _ | refine Below.drew ?_)))⟩

set_option maxRecDepth 100000 in
theorem eqInt64S_zero (a b : Option Addr) (c c' : Nat) (w : World) : Calls Try.prog 26 #[.slice a 0 c, .slice b 0 c'] w fun e w' => e = .returned (.bool true) ∧ Below w.heap.size w w' := by
  go_enter Try.func26, Try.ntmps26
  go_wp2
  go_loopw [5] (fun i wr => i = .int .i64 0 ∧ wr = w) (fun i _ => 0 - (intOf i).toNat)
  case atStart => exact ⟨rfl, rfl⟩
  case round =>
    obtain ⟨rfl, rfl⟩ := hrel
    go_wp2
    go_ret
    exact ⟨rfl, Below.refl _ _⟩

set_option maxRecDepth 100000 in
set_option maxHeartbeats 1000000 in
theorem markInt64S_some (g m c : Nat) (F : Nat → Int) (q : Int) (w : World) (hm : m ≤ 1000000) (hc : m ≤ c) (hr : IsRow w g) (hb : blk w g = nums c F) (h0 : 0 ≤ q) (h1 : q ≤ 1000) :
    Calls Try.prog 27 #[.slice (some ⟨g, 0, none⟩) m c, .int .i64 q] w fun e w' => e = .returned (.int .i64 (q + (m : Nat))) ∧ Aside w.heap.size g w w' ∧ IsRow w' g ∧ blk w' g = nums c (marked q F m) := by
  have hbw := isRow_lt hr
  go_enter Try.func27, Try.ntmps27
  go_wp2
  refine atomW fun W1 e1 => ?_
  have hb1 : Aside w.heap.size g w W1 := by rw [e1]; (repeat (first | exact Aside.refl _ _ _ | refine Aside.alloc ?_ (by first | omega | (simp; try omega)) _ | refine Aside.self ?_ _ | refine Aside.setRow ?_ (by omega) _))
  have q1 := hb1.size
  have ra_1 : IsRow W1 (g) := by rw [e1]; simp [go_sem, hr, hb]
  have ca_1 := congrArg (fun x => blk x (g)) e1; simp [go_sem, hr, hb] at ca_1
  have za_1 := isRow_lt ra_1
  clear e1 hr hb
  go_loopw [1, 5] (fun s1 s5 wr => ∃ i : Nat, i ≤ m ∧ s1 = .int .i64 (q + (i : Nat)) ∧ s5 = .int .i64 i ∧ Aside w.heap.size g w wr ∧ (IsRow wr (g) ∧ blk wr (g) = nums c (marked q F i))) (fun _ s5 _ => m - (intOf s5).toNat)
  case atStart => exact ⟨0, by omega, (by first | rfl | (simp; done) | go_num), rfl, hb1, ⟨ra_1, ca_1.trans (by rw [marked_zero])⟩⟩
  case round =>
    obtain ⟨i, hle2, rfl, rfl, hb2, ⟨ra_2, ca_2⟩⟩ := hrel
    obtain ⟨W2, rfl⟩ : ∃ W2 : World, W2 = wr := ⟨_, rfl⟩
    have q2 := hb2.size
    have za_2 := isRow_lt ra_2
    clear ra_1 ca_1 za_1 hb1
    by_cases hlt2 : i < m
    · skip
      have l1 : i < c := by omega
      have HU := Lib.hid (congrArg (nums c) (marked_succ q F i))
      go_wp2
      go_roundw
      case rel => exact ⟨i + 1, by omega, (by first | rfl | go_num | (simp; done)), by go_num, (by (repeat (first | exact hb2 | exact Aside.refl _ _ _ | refine Aside.alloc ?_ (by first | omega | (simp; try omega)) _ | refine Aside.self ?_ _ | refine Aside.setRow ?_ (by omega) _))), ⟨by simp [go_sem, ra_2, ca_2], (by first | (rw [blk_setRow _ _ _ _ ra_2, if_pos rfl]; exact HU.out) | exact (ca_2).trans (HU.out) | (simp [go_sem, ra_2, ca_2]; exact HU.out))⟩⟩
      case measure => simp [intOf]; try omega
    · skip
      obtain rfl : m = i := by omega
      go_wp2_with fail
      go_wp2_with fail
      go_ret
      exact ⟨rfl, (by (repeat (first | exact hb2 | exact Aside.refl _ _ _ | refine Aside.alloc ?_ (by first | omega | (simp; try omega)) _ | refine Aside.self ?_ _ | refine Aside.setRow ?_ (by omega) _))), (by simp [go_sem, ra_2, ca_2]), (by first | exact ca_2 | simp [go_sem, ra_2, ca_2])⟩

set_option maxRecDepth 100000 in
set_option maxHeartbeats 1000000 in
theorem heldInt64S_some (g m c : Nat) (F : Nat → Int) (q : Int) (w : World) (hm : m ≤ 1000000) (hc : m ≤ c) (hr : IsRow w g) (hb : blk w g = nums c F) (h0 : 0 ≤ q) (h1 : q ≤ 1000) (hE : ∀ t, t < m → F t = q + t) :
    Calls Try.prog 28 #[.slice (some ⟨g, 0, none⟩) m c, .int .i64 q] w fun e w' => e = .returned (.int .i64 (q + (m : Nat))) ∧ Below w.heap.size w w' := by
  have HE := Lib.hid hE; clear hE
  have hbw := isRow_lt hr
  go_enter Try.func28, Try.ntmps28
  go_wp2
  refine atomW fun W1 e1 => ?_
  have hb1 : Below w.heap.size w W1 := by rw [e1]; (repeat (first | exact Below.refl _ _ | refine Below.alloc ?_ (by first | omega | (simp; try omega)) _ | refine below_setRow ?_ (by omega) _ | refine Below.drew ?_))
  have q1 := hb1.size
  have ra_1 : IsRow W1 (g) := by rw [e1]; simp [go_sem, hr, hb]
  have ca_1 := congrArg (fun x => blk x (g)) e1; simp [go_sem, hr, hb] at ca_1
  have za_1 := isRow_lt ra_1
  clear e1 hr hb
  go_loopw [1, 5] (fun s1 s5 wr => ∃ i : Nat, i ≤ m ∧ s1 = .int .i64 (q + (i : Nat)) ∧ s5 = .int .i64 i ∧ Below w.heap.size w wr ∧ (IsRow wr (g) ∧ blk wr (g) = blk W1 (g))) (fun _ s5 _ => m - (intOf s5).toNat)
  case atStart => exact ⟨0, by omega, (by first | rfl | (simp; done) | go_num), rfl, hb1, ⟨ra_1, rfl⟩⟩
  case round =>
    obtain ⟨i, hle2, rfl, rfl, hb2, ⟨ra_2, ca_2⟩⟩ := hrel
    obtain ⟨W2, rfl⟩ : ∃ W2 : World, W2 = wr := ⟨_, rfl⟩
    have q2 := hb2.size
    have Ea_2 := Lib.hid ca_1; replace ca_2 := ca_2.trans ca_1
    have za_2 := isRow_lt ra_2
    clear ra_1 ca_1 za_1 hb1
    by_cases hlt2 : i < m
    · skip
      have l1 : i < c := by omega
      have e1 := HE.out i (by omega)
      go_wp2
      go_roundw
      case rel => exact ⟨i + 1, by omega, (by first | rfl | go_num | (simp; done)), by go_num, (by (repeat (first | exact hb2 | exact Below.refl _ _ | refine Below.alloc ?_ (by first | omega | (simp; try omega)) _ | refine below_setRow ?_ (by omega) _ | refine Below.drew ?_))), ⟨by simp [go_sem, ra_2, ca_2], (by rw [Ea_2.out]; first | exact ca_2 | (simp [go_sem, ra_2, ca_2]; done))⟩⟩
      case measure => simp [intOf]; try omega
    · skip
      obtain rfl : m = i := by omega
      go_wp2_with fail
      go_ret
      exact ⟨rfl, (by (repeat (first | exact hb2 | exact Below.refl _ _ | refine Below.alloc ?_ (by first | omega | (simp; try omega)) _ | refine below_setRow ?_ (by omega) _ | refine Below.drew ?_)))⟩

/-! ### lists of numbers as values -/
/-- the slice at a of length m and capacity c holds the m numbers f i 0; its block, if it has one, lies in B .. U - 1 -/
def NL (w : World) (B U : Nat) (a : Option Addr) (m c : Nat) (f : Nat → Nat → Int) : Prop :=
  (a = none ∧ m = 0 ∧ c = 0) ∨ ∃ g F, a = some ⟨g, 0, none⟩ ∧ B ≤ g ∧ g < U ∧ IsRow w g ∧ m ≤ c ∧ c ≤ maxLen ∧ blk w g = nums c F ∧ True ∧ ∀ i, i < m → ∀ t, t < 1 → F i = f i t
theorem NL.of {w w' : World} {B U : Nat} {a : Option Addr} {m c : Nat} {f : Nat → Nat → Int} (h : NL w B U a m c f) (k : ∀ g, B ≤ g → g < U → ownB a = some g → IsRow w g → w'.heap[g]? = w.heap[g]?) : NL w' B U a m c f := by
  rcases h with h | ⟨g, F, rfl, h2, h3, h4, h5, h8, h6, h9, h7⟩
  · exact .inl h
  · have e := k g h2 h3 rfl h4
    refine .inr ⟨g, F, rfl, h2, h3, ?_, h5, h8, ?_, h9, h7⟩
    · unfold IsRow; rw [e]; exact h4
    · unfold blk at h6 ⊢; rw [e]; exact h6
theorem NL.below {w w' : World} {B U X : Nat} {a : Option Addr} {m c : Nat} {f : Nat → Nat → Int} (h : NL w B U a m c f) (hw : Below X w w') (hU : U ≤ X) : NL w' B U a m c f := h.of fun g _ h2 _ _ => hw.block g (by omega)
theorem NL.alloc {w : World} {B U : Nat} {a : Option Addr} {m c : Nat} {f : Nat → Nat → Int} (h : NL w B U a m c f) (o : Obj) : NL (w.alloc o) B U a m c f := h.of fun g _ _ _ hr => Below.heap_alloc _ _ _ (isRow_lt hr)
theorem NL.drew {w : World} {B U : Nat} {a : Option Addr} {m c : Nat} {f : Nat → Nat → Int} (h : NL w B U a m c f) : NL w.drew B U a m c f := h.of fun _ _ _ _ _ => rfl
theorem NL.setRow {w : World} {B U : Nat} {a : Option Addr} {m c : Nat} {f : Nat → Nat → Int} (h : NL w B U a m c f) {b : Nat} (hb : b < B ∨ U ≤ b) (cs : Array Value) : NL (w.setRow b cs) B U a m c f := h.of fun g h1 h2 _ _ => setRow_other w b g cs (by omega)
theorem NL.aside {w w' : World} {B U X b : Nat} {a : Option Addr} {m c : Nat} {f : Nat → Nat → Int} (h : NL w B U a m c f) (hw : Aside X b w w') (hU : U ≤ X) (hb : b < B ∨ U ≤ b) : NL w' B U a m c f := h.of fun g h1 h2 _ _ => hw.block g (by omega) (by omega)
theorem NL.grown {w w' : World} {B U : Nat} {a b : Option Addr} {m c : Nat} {f : Nat → Nat → Int} (h : NL w B U a m c f) (hg : w.grownBy w' (ownB b)) (hne : ownB a = none ∨ ownB a ≠ ownB b) : NL w' B U a m c f := h.of fun g _ _ ha hr => hg.block g (isRow_lt hr) (by rcases hne with h0 | h0; (rw [h0] at ha; cases ha); rw [← ha]; exact h0)
theorem NL.ne {w : World} {B U b : Nat} {a : Option Addr} {m c : Nat} {f : Nat → Nat → Int} (h : NL w B U a m c f) (hb : b < B ∨ U ≤ b) : some b ≠ ownB a := by
  rcases h with ⟨rfl, _⟩ | ⟨g, F, rfl, h2, h3, _⟩
  · exact fun e => by cases e
  · exact fun e => by have : b = g := by simpa [ownB] using e
                      omega
theorem NL.same {w : World} {B U : Nat} {a : Option Addr} {m m' c : Nat} {f f' : Nat → Nat → Int} (h : NL w B U a m c f) (e : m = m') (hf : ∀ i, i < m → ∀ t, t < 1 → f i t = f' i t) : NL w B U a m' c f' := by
  subst e
  rcases h with h | ⟨g, F, rfl, h2, h3, h4, h5, h8, h6, h9, h7⟩
  · exact .inl h
  · exact .inr ⟨g, F, rfl, h2, h3, h4, h5, h8, h6, h9, fun i hi t ht => (h7 i hi t ht).trans (hf i hi t ht)⟩
theorem NL.wider {w : World} {B U B' U' : Nat} {a : Option Addr} {m c : Nat} {f : Nat → Nat → Int} (h : NL w B U a m c f) (hB : B' ≤ B) (hU : U ≤ U') : NL w B' U' a m c f := by
  rcases h with h | ⟨g, F, rfl, h2, h3, h4⟩
  · exact .inl h
  · exact .inr ⟨g, F, rfl, by omega, by omega, h4⟩
theorem NL.nil (w : World) (B U : Nat) (f : Nat → Nat → Int) : NL w B U none 0 0 f := .inl ⟨rfl, rfl, rfl⟩
theorem NL.nilOf {w : World} {B U m : Nat} {f : Nat → Nat → Int} (e : m = 0) : NL w B U none m 0 f := .inl ⟨rfl, e, rfl⟩
theorem NL.some {w : World} {B U : Nat} {a : Option Addr} {m c : Nat} {f : Nat → Nat → Int} (h : NL w B U a m c f) (hm : 0 < m) : ∃ g F, a = some ⟨g, 0, none⟩ ∧ B ≤ g ∧ g < U ∧ IsRow w g ∧ m ≤ c ∧ c ≤ maxLen ∧ blk w g = nums c F ∧ True ∧ ∀ i, i < m → ∀ t, t < 1 → F i = f i t := by
  rcases h with ⟨_, h, _⟩ | h
  · omega
  · exact h

set_option maxRecDepth 100000 in
theorem markInt64S_zero (a : Option Addr) (c : Nat) (q : Int) (w : World) : Calls Try.prog 27 #[.slice a 0 c, .int .i64 q] w fun e w' => e = .returned (.int .i64 q) ∧ w = w' := by
  go_enter Try.func27, Try.ntmps27
  go_wp2
  go_loopw [1, 5] (fun s i wr => s = .int .i64 q ∧ i = .int .i64 0 ∧ wr = w) (fun _ i _ => 0 - (intOf i).toNat)
  case atStart => exact ⟨rfl, rfl, rfl⟩
  case round =>
    obtain ⟨rfl, rfl, rfl⟩ := hrel
    go_wp2
    go_ret
    exact ⟨rfl, rfl⟩

set_option maxRecDepth 100000 in
theorem heldInt64S_zero (a : Option Addr) (c : Nat) (q : Int) (w : World) : Calls Try.prog 28 #[.slice a 0 c, .int .i64 q] w fun e w' => e = .returned (.int .i64 q) ∧ w = w' := by
  go_enter Try.func28, Try.ntmps28
  go_wp2
  go_loopw [1, 5] (fun s i wr => s = .int .i64 q ∧ i = .int .i64 0 ∧ wr = w) (fun _ i _ => 0 - (intOf i).toNat)
  case atStart => exact ⟨rfl, rfl, rfl⟩
  case round =>
    obtain ⟨rfl, rfl, rfl⟩ := hrel
    go_wp2
    go_ret
    exact ⟨rfl, rfl⟩

/-- what markInt64S leaves in a list -/
def mkN (q : Int) : Nat → Nat → Int := fun i _ => q + i
theorem eqInt64S_any {w : World} {B U B' U' : Nat} {a a' : Option Addr} {m c c' : Nat} {f : Nat → Nat → Int} (hm : m ≤ 1000000) (h : NL w B U a m c f) (h' : NL w B' U' a' m c' f) :
    Calls Try.prog 26 #[.slice a m c, .slice a' m c'] w fun e w' => e = .returned (.bool true) ∧ Below w.heap.size w w' := by
  rcases Nat.eq_zero_or_pos m with rfl | h0
  · exact eqInt64S_zero a a' c c' w
  · obtain ⟨g, F, rfl, _, _, hr, hc, _, hb, _, hF⟩ := h.some h0
    obtain ⟨g', F', rfl, _, _, hr', hc', _, hb', _, hF'⟩ := h'.some h0
    exact eqInt64S_some g m c g' c' F F' w hm hc hr hb hc' hr' hb' fun t ht => (hF t ht 0 (by omega)).trans (hF' t ht 0 (by omega)).symm
theorem markInt64S_all {w : World} {B U : Nat} {a : Option Addr} {m c : Nat} {f : Nat → Nat → Int} {q : Int} (hm : m ≤ 1000000) (h0 : 0 ≤ q) (h1 : q ≤ 1000) (hB : B ≤ w.heap.size) (h : NL w B U a m c f) :
    Calls Try.prog 27 #[.slice a m c, .int .i64 q] w fun e w' => e = .returned (.int .i64 (q + (m : Nat))) ∧ Below B w w' ∧ NL w' B U a m c (mkN q) := by
  rcases Nat.eq_zero_or_pos m with rfl | hp
  · refine (markInt64S_zero a c q w).mono ?_
    rintro e w' ⟨rfl, rfl⟩
    exact ⟨by simp, Below.refl _ _, h.same rfl fun i hi => by omega⟩
  · obtain ⟨g, F, rfl, hg, hgU, hr, hc, hcm, hb, hFb, hF⟩ := h.some hp
    refine (markInt64S_some g m c F q w hm hc hr hb h0 h1).mono ?_
    rintro e w' ⟨rfl, hw, hr', hb'⟩
    refine ⟨rfl, ⟨hw.os, hw.tape, hw.output, hw.size, fun k hk => hw.block k (by omega) (by omega)⟩, .inr ⟨g, _, rfl, hg, hgU, hr', hc, hcm, hb', trivial, fun i hi t ht => ?_⟩⟩
    unfold marked mkN
    rw [if_pos (by omega)]
theorem heldInt64S_all {w : World} {B U : Nat} {a : Option Addr} {m c : Nat} {q : Int} (hm : m ≤ 1000000) (h0 : 0 ≤ q) (h1 : q ≤ 1000) (h : NL w B U a m c (mkN q)) :
    Calls Try.prog 28 #[.slice a m c, .int .i64 q] w fun e w' => e = .returned (.int .i64 (q + (m : Nat))) ∧ Below w.heap.size w w' := by
  rcases Nat.eq_zero_or_pos m with rfl | hp
  · refine (heldInt64S_zero a c q w).mono ?_
    rintro e w' ⟨rfl, rfl⟩
    exact ⟨by simp, Below.refl _ _⟩
  · obtain ⟨g, F, rfl, hg, hgU, hr, hc, hcm, hb, hFb, hF⟩ := h.some hp
    exact heldInt64S_some g m c F q w hm hc hr hb h0 h1 fun t ht => hF t ht 0 (by omega)

end Go.Proofs.Ytfdejhhgkpdfdaa
