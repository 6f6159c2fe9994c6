/- Rows of bytes: scaled, exchanged, cleared; the reduction of rows by the program. -/
import Derived.Test.YtjmmmggnbndolaaGreatQ14
namespace Go.Proofs.YtjmmmggnbndolaaGreat
open Go.RowKit
set_option linter.unusedSimpArgs false
set_option linter.unusedVariables false
attribute [local irreducible] wpQuiet wpQE

/-! ### rows of bytes behind a block of slices -/
/-- block b holds from off on m slices of N bytes, row i in block G i, all blocks of the rows apart, in B .. U - 1; the bytes are those of g -/
structure FL (w : World) (B U b off m N : Nat) (g : Nat → Nat → Int) (G C : Nat → Nat) (F : Nat → Nat → Int) : Prop where
  base : B ≤ b
  top : b < U
  row : IsRow w b
  cell : ∀ i, i < m → (blk w b)[off + i]? = some (.slice (some ⟨G i, 0, none⟩) N (C i))
  gB : ∀ i, i < m → B ≤ G i ∧ G i < U ∧ G i ≠ b
  inj : ∀ i j, i < m → j < m → i ≠ j → G i ≠ G j
  isr : ∀ i, i < m → IsRow w (G i)
  blk : ∀ i, i < m → blk w (G i) = Go.Proofs.YtjmmmggnbndolaaGreat.row (C i) (F i)
  len : ∀ i, i < m → N ≤ C i
  bytes : ∀ i, i < m → Bytes (C i) (F i)
  val : ∀ i, i < m → ∀ t, t < N → F i t = g i t
theorem FL.below {w w' : World} {B U X b off m N : Nat} {g : Nat → Nat → Int} {G C : Nat → Nat} {F : Nat → Nat → Int} (h : FL w B U b off m N g G C F) (hw : Below X w w') (hU : U ≤ X) : FL w' B U b off m N g G C F :=
  ⟨h.base, h.top, (keepB hw (by have := h.top; omega) h.row rfl).1, fun i hi => by rw [(keepB hw (by have := h.top; omega) h.row rfl).2]; exact h.cell i hi, h.gB, h.inj, fun i hi => (keepB hw (by have := (h.gB i hi).2.1; omega) (h.isr i hi) rfl).1, fun i hi => by rw [(keepB hw (by have := (h.gB i hi).2.1; omega) (h.isr i hi) rfl).2]; exact h.blk i hi, h.len, h.bytes, h.val⟩
/-- row r is written -/
theorem FL.wrote {w w' : World} {B U b off m N r : Nat} {g : Nat → Nat → Int} {G C : Nat → Nat} {F : Nat → Nat → Int} {f : Nat → Int} (h : FL w B U b off m N g G C F) (hr : r < m) (hw : ∀ x, x < w.heap.size → x ≠ G r → w'.heap[x]? = w.heap[x]?) (hs : w.heap.size ≤ w'.heap.size) (hi : IsRow w' (G r)) (hc : Go.Proofs.YtjmmmggnbndolaaGreat.blk w' (G r) = Go.Proofs.YtjmmmggnbndolaaGreat.row (C r) f) (hb : Bytes (C r) f) :
    FL w' B U b off m N (fun i => if i = r then f else g i) G C (fun i => if i = r then f else F i) := by
  have keep : ∀ x, x ≠ G r → IsRow w x → IsRow w' x ∧ Go.Proofs.YtjmmmggnbndolaaGreat.blk w' x = Go.Proofs.YtjmmmggnbndolaaGreat.blk w x := fun x hx hxr => by
    have e := hw x (isRow_lt hxr) hx
    constructor
    · unfold IsRow; rw [e]; exact hxr
    · unfold Go.Proofs.YtjmmmggnbndolaaGreat.blk; rw [e]
  have hb0 := keep b (Ne.symm (h.gB r hr).2.2) h.row
  refine ⟨h.base, h.top, hb0.1, fun i hi => by rw [hb0.2]; exact h.cell i hi, h.gB, h.inj, fun i hi' => ?_, fun i hi' => ?_, h.len, fun i hi' => ?_, fun i hi' t ht => ?_⟩
  · by_cases e : i = r
    · rw [e]; exact hi
    · exact (keep (G i) (h.inj i r hi' hr e) (h.isr i hi')).1
  · by_cases e : i = r
    · rw [e, if_pos rfl]; exact hc
    · rw [if_neg e, (keep (G i) (h.inj i r hi' hr e) (h.isr i hi')).2]; exact h.blk i hi'
  · by_cases e : i = r
    · rw [e, if_pos rfl]; exact hb
    · rw [if_neg e]; exact h.bytes i hi'
  · by_cases e : i = r
    · rw [if_pos e, if_pos e]
    · rw [if_neg e, if_neg e]; exact h.val i hi' t ht
theorem FL.same {w : World} {B U b off m N : Nat} {g g' : Nat → Nat → Int} {G C : Nat → Nat} {F : Nat → Nat → Int} (h : FL w B U b off m N g G C F) (e : ∀ i, i < m → ∀ t, t < N → g i t = g' i t) : FL w B U b off m N g' G C F :=
  ⟨h.base, h.top, h.row, h.cell, h.gB, h.inj, h.isr, h.blk, h.len, h.bytes, fun i hi t ht => (h.val i hi t ht).trans (e i hi t ht)⟩
theorem FL.of {w w' : World} {B U b off m N : Nat} {g : Nat → Nat → Int} {G C : Nat → Nat} {F : Nat → Nat → Int} (h : FL w B U b off m N g G C F) (k : ∀ x, B ≤ x → x < U → IsRow w x → w'.heap[x]? = w.heap[x]?) : FL w' B U b off m N g G C F := by
  have keep : ∀ x, B ≤ x → x < U → IsRow w x → IsRow w' x ∧ Go.Proofs.YtjmmmggnbndolaaGreat.blk w' x = Go.Proofs.YtjmmmggnbndolaaGreat.blk w x := fun x h1 h2 h3 => by
    have e := k x h1 h2 h3
    constructor
    · unfold IsRow; rw [e]; exact h3
    · unfold Go.Proofs.YtjmmmggnbndolaaGreat.blk; rw [e]
  have hb := keep b h.base h.top h.row
  exact ⟨h.base, h.top, hb.1, fun i hi => by rw [hb.2]; exact h.cell i hi, h.gB, h.inj, fun i hi => (keep _ (h.gB i hi).1 (h.gB i hi).2.1 (h.isr i hi)).1, fun i hi => by rw [(keep _ (h.gB i hi).1 (h.gB i hi).2.1 (h.isr i hi)).2]; exact h.blk i hi, h.len, h.bytes, h.val⟩
theorem FL.alloc {w : World} {B U b off m N : Nat} {g : Nat → Nat → Int} {G C : Nat → Nat} {F : Nat → Nat → Int} (h : FL w B U b off m N g G C F) (o : Obj) : FL (w.alloc o) B U b off m N g G C F := h.of fun x _ _ hr => Below.heap_alloc _ _ _ (isRow_lt hr)
theorem FL.drew {w : World} {B U b off m N : Nat} {g : Nat → Nat → Int} {G C : Nat → Nat} {F : Nat → Nat → Int} (h : FL w B U b off m N g G C F) : FL w.drew B U b off m N g G C F := h.of fun _ _ _ _ => rfl
theorem FL.setRow {w : World} {B U b off m N : Nat} {g : Nat → Nat → Int} {G C : Nat → Nat} {F : Nat → Nat → Int} (h : FL w B U b off m N g G C F) {x : Nat} (hx : x < B ∨ U ≤ x) (cs : Array Value) : FL (w.setRow x cs) B U b off m N g G C F := h.of fun y h1 h2 _ => setRow_other w x y cs (by omega)
theorem vtF {w : World} {B U b off m N : Nat} {g : Nat → Nat → Int} {G C : Nat → Nat} {F : Nat → Nat → Int} (h : FL w B U b off m N g G C F := by repeat (first | assumption | refine FL.alloc ?_ _ | refine FL.drew ?_ | refine FL.setRow ?_ (by omega) _)) : FL w B U b off m N g G C F := h

set_option maxRecDepth 100000 in
set_option maxHeartbeats 1000000 in
theorem negativeNumber_any (p x : Int) (w : World) (hp : 0 < p) (hp' : p ≤ 255) (hx0 : 0 ≤ x) (hx1 : x < p) :
    Calls Tryz.prog 133 #[.int .i64 p, .int .u8 x] w fun e w' => e = .returned (.int .u8 (-x % p)) ∧ w = w' := by
 have q0 : IntKind.i64.wrap x = x := IntWalk.i64_in _ (by omega)
 have q1 : IntKind.i64.wrap (p - x) = p - x := IntWalk.i64_in _ (by omega)
 have t1 : (p - x).tmod p = (p - x) % p := Int.tmod_eq_emod_of_nonneg (by omega)
 have p0 : ¬ p = 0 := by omega
 have b1 := Int.emod_nonneg (-x) (show p ≠ 0 by omega)
 have b2 := Int.emod_lt_of_pos (-x) hp
 have w1 : IntKind.u8.wrap (-x % p) = -x % p := IntWalk.u8_in _ (by omega)
 go_enter Tryz.func133, Tryz.ntmps133
 go_wp2_with fail
 go_ret
 exact ⟨rfl, rfl⟩

/-- the first k bytes scaled -/
def scK (p c : Int) (f : Nat → Int) (k : Nat) : Nat → Int := fun t => if t < k then c * f t % p else f t
theorem sc_zero (p c : Int) (f : Nat → Int) (n : Nat) : row n f = row n (scK p c f 0) := row_congr fun t _ => by unfold scK; rw [if_neg (by omega)]
theorem sc_upd (p c : Int) (f : Nat → Int) (k n : Nat) (y : Int) (hy : y = c * f k % p) : row n (upd (scK p c f k) k y) = row n (scK p c f (k + 1)) := row_congr fun t _ => by
  unfold upd scK
  by_cases h : t = k
  · subst h; rw [if_pos rfl, if_pos (by omega), hy]
  · rw [if_neg h]
    by_cases h2 : t < k
    · rw [if_pos h2, if_pos (by omega)]
    · rw [if_neg h2, if_neg (by omega)]
theorem sc_at (p c : Int) (f : Nat → Int) (k : Nat) : scK p c f k k = f k := by unfold scK; rw [if_neg (by omega)]
theorem sc_bytes {p c : Int} (hp : 0 < p) (hp' : p ≤ 255) {f : Nat → Int} {n k : Nat} (hf : Bytes n f) : Bytes n (scK p c f k) := fun t ht => by
  unfold scK
  split
  · have h1 := Int.emod_nonneg (c * f t) (show p ≠ 0 by omega)
    have h2 := Int.emod_lt_of_pos (c * f t) hp
    omega
  · exact hf t ht

set_option maxRecDepth 100000 in
set_option maxHeartbeats 1000000 in
theorem scaleRow_any (p c : Int) (b N cap : Nat) (f : Nat → Int) (w : World) (hp : 0 < p) (hp' : p ≤ 255) (hc : 0 ≤ c) (hc' : c ≤ 255) (hN : N ≤ cap) (hm : N ≤ 1000) (hr : IsRow w b) (hb : blk w b = row cap f) (hf : Bytes cap f) :
    Calls Tryz.prog 131 #[.int .i64 p, .slice (some ⟨b, 0, none⟩) N cap, .int .u8 c] w fun e w' => e = .returned (.tuple #[]) ∧ Aside w.heap.size b w w' ∧ IsRow w' b ∧ blk w' b = row cap (scK p c f N) := by
 have Hf := Lib.hid hf; clear hf
 have hbw := isRow_lt hr
 go_enter Tryz.func131, Tryz.ntmps131
 go_wp2
 refine atomW fun W1 e1 => ?_
 have hb1 : Aside w.heap.size b w W1 := by rw [e1]; (repeat (first | exact Aside.refl _ _ _ | refine Aside.alloc ?_ (by first | omega | (simp; try omega)) _ | refine Aside.self ?_ _ | refine Aside.setRow ?_ (by omega) _))
 have q1 := hb1.size
 have rx_1 : IsRow W1 (b) := by rw [e1]; simp [go_sem, hr, hb]
 have cx_1 := congrArg (fun x => blk x (b)) e1; simp [go_sem, hr, hb] at cx_1
 have zx_1 := isRow_lt rx_1
 clear e1 hr hb
 go_loopw [10] (fun s10 wr => ∃ t : Nat, t ≤ N ∧ s10 = .int .i64 t ∧ Aside w.heap.size b w wr ∧ (IsRow wr (b) ∧ blk wr (b) = row cap (scK p c f t))) (fun s10 _ => N - (intOf s10).toNat)
 case atStart => exact ⟨0, by omega, rfl, hb1, ⟨rx_1, cx_1.trans (sc_zero p c f cap)⟩⟩
 case round =>
  obtain ⟨t, hle2, rfl, hb2, ⟨rx_2, cx_2⟩⟩ := hrel
  obtain ⟨W2, rfl⟩ : ∃ W2 : World, W2 = wr := ⟨_, rfl⟩
  have q2 := hb2.size
  have zx_2 := isRow_lt rx_2
  clear rx_1 cx_1 zx_1 hb1
  by_cases hlt2 : t < N
  ·
   have l1 : t < cap := by omega
   have e1 := sc_at p c f t
   have HU := Lib.hid (sc_upd p c f t cap _ rfl)
   go_wp2_with fail
   refine (timesNumber_any p c (f t) _ hp hp' hc hc' (Hf.out t (by omega)).1 (Hf.out t (by omega)).2).mono ?_; rintro _ _ ⟨rfl, rfl⟩
   go_wp2
   go_roundw
   case rel => exact ⟨t + 1, by omega, by go_num, (by (repeat (first | exact hb2 | exact Aside.refl _ _ _ | refine Aside.alloc ?_ (by first | omega | (simp; try omega)) _ | refine Aside.self ?_ _ | refine Aside.setRow ?_ (by omega) _))), ⟨by simp [go_sem, rx_2, cx_2], (by first | (rw [blk_setRow _ _ _ _ rx_2, if_pos rfl]; exact HU.out) | exact (cx_2).trans (HU.out) | (simp [go_sem, rx_2, cx_2]; exact HU.out))⟩⟩
   case measure => simp [intOf]; try omega
  ·
   obtain rfl : N = t := by omega
   go_wp2_with fail
   (try simp only [Exit.inBlock, Exit.then]); first | (refine bodyPost_end (results_none rfl _ _ _) rfl ⟨rfl, (by (repeat (first | exact hb2 | exact Aside.refl _ _ _ | refine Aside.alloc ?_ (by first | omega | (simp; try omega)) _ | refine Aside.self ?_ _ | refine Aside.setRow ?_ (by omega) _))), ?_, ?_⟩) | (refine bodyPost_ret (results_none rfl _ _ _) rfl ⟨rfl, (by (repeat (first | exact hb2 | exact Aside.refl _ _ _ | refine Aside.alloc ?_ (by first | omega | (simp; try omega)) _ | refine Aside.self ?_ _ | refine Aside.setRow ?_ (by omega) _))), ?_, ?_⟩)
   · simp [go_sem, rx_2, cx_2]
   · first | exact cx_2 | simp [go_sem, rx_2, cx_2]

theorem neg_sub (p x : Int) : (p - x) % p = -x % p := by simp
theorem Below.asideB {B X b : Nat} {w a c : World} (h : Below B w a) (k : Aside X b a c) (hX : B ≤ X) (hb : B ≤ b) : Below B w c := h.trans ⟨k.os, k.tape, k.output, k.size, fun i hi => k.block i (by omega) (by omega)⟩
/-- the row of g with c times the row r added -/
theorem elim_succ {p : Int} {g : Nat → Nat → Int} {r k : Nat} {c : Nat → Int} (h : k ≠ r) : elimG p g r (k + 1) c = fun i => if i = k then (fun t => (g k t + c k * g r t) % p) else elimG p g r k c i := by
  funext i
  unfold elimG
  by_cases e : i = k
  · subst e; rw [if_pos ⟨by omega, h⟩, if_pos rfl]
  · rw [if_neg e]
    by_cases h2 : i < k ∧ i ≠ r
    · rw [if_pos h2, if_pos ⟨by omega, h2.2⟩]
    · rw [if_neg h2, if_neg (by omega)]
theorem elim_skip {p : Int} {g : Nat → Nat → Int} {r : Nat} {c : Nat → Int} : elimG p g r (r + 1) c = elimG p g r r c := by
  funext i
  unfold elimG
  by_cases h2 : i < r ∧ i ≠ r
  · rw [if_pos h2, if_pos ⟨by omega, h2.2⟩]
  · rw [if_neg h2, if_neg (by omega)]
theorem elim_none {p : Int} {g : Nat → Nat → Int} {r : Nat} {c : Nat → Int} : elimG p g r 0 c = g := by
  funext i
  unfold elimG
  rw [if_neg (by omega)]
theorem elim_self {p : Int} {g : Nat → Nat → Int} {r k : Nat} {c : Nat → Int} : elimG p g r k c k = g k := by
  unfold elimG; rw [if_neg (by omega)]

/-- the row i of the walk is written: c times the row f is added to it -/
theorem flAdded {W : World} {B U b m N i : Nat} {p c : Int} {g : Nat → Nat → Int} {G C : Nat → Nat} {F : Nat → Nat → Int} {f : Nat → Int} (hp : 0 < p) (hp' : p ≤ 255) (h : FL W B U b 0 m N g G C F) (hi : i < m) :
    FL (W.setRow (G i) (row (C i) (addm p 0 N c (F i) f))) B U b 0 m N (fun j => if j = i then addm p 0 N c (F i) f else g j) G C (fun j => if j = i then addm p 0 N c (F i) f else F j) :=
  h.wrote hi (fun x _ hne => setRow_other W (G i) x _ hne) (by simp [World.setRow]) (by rw [isRow_setRow]; exact h.isr i hi) (by rw [blk_setRow _ _ _ _ (h.isr i hi), if_pos rfl]) fun t ht => by
    unfold addm
    split
    · have h1 := Int.emod_nonneg (F i t + c * f (t - 0)) (show p ≠ 0 by omega)
      have h2 := Int.emod_lt_of_pos (F i t + c * f (t - 0)) hp
      omega
    · exact h.bytes i hi t ht
theorem clear_step {p I : Int} {m N i r q : Nat} {g : Nat → Nat → Int} {F1 : Nat → Int} {fS : Nat → Int} (hir : i ≠ r) (h1 : ∀ t, t < N → F1 t = elimG p (scaleG p g r I) r i (negc p (scaleG p g r I) q) i t) (h2 : ∀ t, t < N → fS t = scaleG p g r I r t) :
    ∀ j, j < m → ∀ t, t < N → (if j = i then addm p 0 N (-g i q % p) F1 fS else elimG p (scaleG p g r I) r i (negc p (scaleG p g r I) q) j) t = elimG p (scaleG p g r I) r (i + 1) (negc p (scaleG p g r I) q) j t := fun j _ t ht => by
  rw [elim_succ hir]
  dsimp only
  by_cases e : j = i
  · rw [if_pos e, if_pos e]
    have e2 : scaleG p g r I i = g i := by unfold scaleG; rw [if_neg hir]
    have e3 : negc p (scaleG p g r I) q i = -g i q % p := by unfold negc; rw [e2, neg_sub]
    unfold addm
    rw [if_pos (by omega), Nat.sub_zero, h1 t ht, h2 t ht, elim_self, e3]
  · rw [if_neg e, if_neg e]

set_option maxRecDepth 100000 in
set_option maxHeartbeats 1000000 in
theorem clearPlace_any (p : Int) (B U b m N cap r q : Nat) (g : Nat → Nat → Int) (G C : Nat → Nat) (F : Nat → Nat → Int) (w : World) (hp : 0 < p) (hp' : p ≤ 255) (hpr : prime31 p = true) (hm : m ≤ 1000000) (hN : N ≤ 1000) (hr : r < m) (hq : q < N) (hg : ∀ i, i < m → ∀ t, t < N → 0 ≤ g i t ∧ g i t < p) (hne : g r q ≠ 0) (hBw : B ≤ w.heap.size) (hUw : U ≤ w.heap.size) (hF : FL w B U b 0 m N g G C F) :
    Calls Tryz.prog 105 #[.int .i64 p, .slice (some ⟨b, 0, none⟩) m cap, .int .i64 r, .int .i64 q] w fun e w' => e = .returned (.tuple #[]) ∧ Below B w w' ∧ ∃ F', FL w' B U b 0 m N (elimG p (scaleG p g r ((invN p (g r q) : Nat) : Int)) r m (negc p (scaleG p g r ((invN p (g r q) : Nat) : Int)) q)) G C F' := by
 have Hpr := Lib.hid hpr; clear hpr
 have Hg := Lib.hid hg; clear hg
 have HF := Lib.hid hF; clear hF
 have hbr := HF.out.row; have hbw := isRow_lt hbr
 have hfr := HF.out.isr r hr
 have hfb := HF.out.blk r hr
 have hgb := (HF.out.gB r hr).2.2
 have hBg := (HF.out.gB r hr).1
 have hBb := HF.out.base
 have hNC := HF.out.len r hr
 have hqC0 : q < C r := by omega
 have HBf := Lib.hid (HF.out.bytes r hr)
 have he := HF.out.cell r hr
 rw [Nat.zero_add] at he
 have hfq : F r q = g r q := HF.out.val r hr q hq
 have hgq := Hg.out r hr q hq
 have hgq1 := hgq.2
 have hgq0 : 0 < g r q := by omega
 clear hgq
 obtain ⟨i1, i2, i3⟩ := invN_spec Hpr.out hgq0 hgq1
 have HI3 := Lib.hid i3; clear i3
 have hp31 : p ≤ 31 := by
  have := Hpr.out
  unfold prime31 at this
  simp only [Bool.and_eq_true, decide_eq_true_eq] at this
  exact this.1.2
 have HS : Hid (∀ t, t < N → scK p ((invN p (g r q) : Nat) : Int) (F r) N t = scaleG p g r ((invN p (g r q) : Nat) : Int) r t) := Lib.hid fun t ht => by
  unfold scK scaleG
  rw [if_pos ht, if_pos rfl, HF.out.val r hr t ht]
 have HSb := Lib.hid (sc_bytes (c := ((invN p (g r q) : Nat) : Int)) (k := N) hp hp' HBf.out)
 have hBU : B ≤ U := by have := HF.out.top; omega
 have hFw := HF.out
 go_enter Tryz.func105, Tryz.ntmps105
 go_wp2_with fail
 refine atomC fun W1 e1 => ?_
 have hb1 : Below B w W1 := by rw [e1]; exact bt
 have q1 := hb1.size
 have R1 : IsRow W1 (b) ∧ IsRow W1 (G r) := by rw [e1]; simp [go_sem, hbr, (rfl : blk w b = blk w b), hfr, hfb]
 obtain ⟨ro_1, rf_1⟩ := R1
 have C1 := (⟨congrArg (blk · (b)) e1, congrArg (blk · (G r)) e1⟩ : _ ∧ _); simp [go_sem, hbr, (rfl : blk w b = blk w b), hfr, hfb] at C1
 obtain ⟨co_1, cf_1⟩ := C1
 have zo_1 := isRow_lt ro_1; have zf_1 := isRow_lt rf_1
 have no_f : (b) ≠ (G r) := by omega
 have nf_o : (G r) ≠ (b) := by omega
 have hvF_1 : FL W1 B U b 0 m N g G C F := by rw [e1]; (repeat (first | exact hFw | refine FL.alloc ?_ _ | refine FL.drew ?_ | refine FL.setRow ?_ (by omega) _))
 clear e1 hbr hfr hfb hFw
 refine (inverseNumber_any p (g r q) _ Hpr.out hgq0 hgq1).mono ?_; rintro _ W2 ⟨rfl, hw2⟩
 obtain ⟨ro_2, co_2, zo_2⟩ := keepZ hw2 zo_1 ro_1 co_1
 obtain ⟨rf_2, cf_2, zf_2⟩ := keepZ hw2 zf_1 rf_1 cf_1
 have hb2 := hb1.trans (hw2.mono (by omega))
 have q2 := hb2.size
 have sz2 := hw2.size
 have hvF_2 := hvF_1.below hw2 (by omega)
 clear hw2 hvF_1 ro_1 co_1 zo_1 rf_1 cf_1 zf_1 hb1
 go_wp2_with fail
 refine (scaleRow_any p ((invN p (g r q) : Nat) : Int) (G r) N (C r) (F r) _ hp hp' (by omega) (by omega) hNC hN rf_2 cf_2 HBf.out).mono ?_; rintro _ W3 ⟨rfl, hw3, rf_3, cf_3⟩
 obtain ⟨ro_3, co_3⟩ := keepA hw3 zo_2 (by first | assumption | (simp; done) | omega) ro_2 co_2
 have zo_3 := isRow_lt ro_3
 have zf_3 := isRow_lt rf_3
 have hvF_3 := FL.wrote hvF_2 hr (fun x hx hne => hw3.block x hx hne) hw3.size rf_3 cf_3 HSb.out
 have hb3 := Below.asideB hb2 hw3 (by omega) (by omega)
 have q3 := hb3.size
 clear hw3 hvF_2 ro_2 co_2 zo_2 rf_2 cf_2 zf_2 hb2
 go_wp2
 go_loopw [26] (fun s26 wr => ∃ i : Nat, i ≤ m ∧ s26 = .int .i64 i ∧ Below B w wr ∧ (IsRow wr (b) ∧ blk wr (b) = blk W3 (b)) ∧ (IsRow wr (G r) ∧ blk wr (G r) = blk W3 (G r)) ∧ ∃ F', FL wr B U b 0 m N (elimG p (scaleG p g r ((invN p (g r q) : Nat) : Int)) r i (negc p (scaleG p g r ((invN p (g r q) : Nat) : Int)) q)) G C F') (fun s26 _ => m - (intOf s26).toNat)
 case atStart => exact ⟨0, by omega, rfl, hb3, ⟨ro_3, rfl⟩, ⟨rf_3, rfl⟩, ⟨_, hvF_3.same fun j hj t ht => by rw [elim_none]; by_cases e : j = r; (subst e; rw [if_pos rfl]; exact HS.out t ht); (rw [if_neg e]; unfold scaleG; rw [if_neg e])⟩⟩
 case round =>
  obtain ⟨i, hle4, rfl, hb4, ⟨ro_4, co_4⟩, ⟨rf_4, cf_4⟩, hx4⟩ := hrel
  obtain ⟨W4, rfl⟩ : ∃ W4 : World, W4 = wr := ⟨_, rfl⟩
  have q4 := hb4.size
  have HX4 := Lib.hid hx4; clear hx4
  have Eo_4 := Lib.hid co_3; replace co_4 := co_4.trans co_3
  have zo_4 := isRow_lt ro_4
  have Ef_4 := Lib.hid cf_3; replace cf_4 := cf_4.trans cf_3
  have zf_4 := isRow_lt rf_4
  clear ro_3 co_3 zo_3 rf_3 cf_3 zf_3 hb3 hvF_3
  by_cases hlt4 : i < m
  ·
   by_cases hir : i = r
   ·
    have hx0 : (blk w b)[i]? = some (.slice (some ⟨G i, 0, none⟩) N (C i)) := by rw [hir]; exact he
    have hnri : (((i : Nat) : Int) == ((r : Nat) : Int)) = true := by simp; omega
    have HIR := Lib.hid hir
    go_wp2
    go_roundw
    case rel => exact ⟨i + 1, by omega, by go_num, bt, ⟨by simp [go_sem, ro_4, co_4, no_f, rf_4, cf_4, nf_o], (by rw [Eo_4.out]; first | exact co_4 | (simp [go_sem, ro_4, co_4, no_f, rf_4, cf_4, nf_o]; done))⟩, ⟨by simp [go_sem, ro_4, co_4, no_f, rf_4, cf_4, nf_o], (by rw [Ef_4.out]; first | exact cf_4 | (simp [go_sem, ro_4, co_4, no_f, rf_4, cf_4, nf_o]; done))⟩, (by obtain ⟨F1, hF1⟩ := HX4.out; exact ⟨F1, hF1.same fun j hj t ht => by rw [HIR.out, elim_skip]⟩)⟩
    case measure => simp [intOf]; try omega
   ·
    obtain ⟨F1, hF1⟩ := HX4.out
    have hx0 := hF1.cell i hlt4
    rw [Nat.zero_add, co_4] at hx0
    have hNi := hF1.len i hlt4
    have hGne := hF1.inj i r hlt4 hr hir
    have hGb := (hF1.gB i hlt4).2.2
    have hBi := (hF1.gB i hlt4).1
    have hxr := hF1.isr i hlt4
    have hxc := hF1.blk i hlt4
    have hv0 : ∀ t, t < N → F1 i t = g i t := fun t ht => by rw [hF1.val i hlt4 t ht, elim_self]; unfold scaleG; rw [if_neg hir]
    have hxq : F1 i q = g i q := hv0 q hq
    have hgi := Hg.out i hlt4 q hq
    have hiq0 := hgi.1
    have hiq1 := hgi.2
    clear hgi
    have nb1 := Int.emod_nonneg (-g i q) (show p ≠ 0 by omega)
    have nb2 := Int.emod_lt_of_pos (-g i q) hp
    have Hfr : Hid (∀ j, 0 ≤ j → j < 0 + N → 0 ≤ F1 i j ∧ F1 i j < p) := Lib.hid fun j _ hj => by rw [hv0 j (by omega)]; exact Hg.out i hlt4 j (by omega)
    clear hv0
    have HF1 := Lib.hid hF1; clear hF1
    have hqC : q < C i := by omega
    have hnri : (((i : Nat) : Int) == ((r : Nat) : Int)) = false := by simp; omega
    have rx_5 : IsRow W4 (G i) := hxr
    have cx_5 := (hxc)
    have zx_5 := isRow_lt rx_5
    have no_x : (b) ≠ (G i) := by omega
    have nf_x : (G r) ≠ (G i) := by omega
    have nx_o : (G i) ≠ (b) := by omega
    have nx_f : (G i) ≠ (G r) := by omega
    go_wp2_with fail
    refine (negativeNumber_any p (g i q) _ hp hp' hiq0 hiq1).mono ?_; rintro _ _ ⟨rfl, rfl⟩
    go_wp2_with fail
    refine (addMultiple_any p (-g i q % p) (G i) 0 (C i) N (C i) (C r) (G r) 0 (F1 i) (scK p ((invN p (g r q) : Nat) : Int) (F r) N) _ hp hp' nb1 (by omega) rx_5 cx_5 (by omega) (by omega) Hfr.out (fun j hj => ⟨by rw [cf_4, row_get? _ _ _ (by omega), Nat.zero_add], (HSb.out j (by omega)).1, (HSb.out j (by omega)).2⟩) (Ne.symm hGne)).mono ?_; rintro _ _ ⟨rfl, rfl⟩
    go_wp2
    go_roundw
    case rel => exact ⟨i + 1, by omega, by go_num, bt, ⟨by simp [go_sem, ro_4, co_4, no_f, no_x, rf_4, cf_4, nf_o, nf_x, rx_5, cx_5, nx_o, nx_f], (by rw [Eo_4.out]; first | exact co_4 | (simp [go_sem, ro_4, co_4, no_f, no_x, rf_4, cf_4, nf_o, nf_x, rx_5, cx_5, nx_o, nx_f]; done))⟩, ⟨by simp [go_sem, ro_4, co_4, no_f, no_x, rf_4, cf_4, nf_o, nf_x, rx_5, cx_5, nx_o, nx_f], (by rw [Ef_4.out]; first | exact cf_4 | (simp [go_sem, ro_4, co_4, no_f, no_x, rf_4, cf_4, nf_o, nf_x, rx_5, cx_5, nx_o, nx_f]; done))⟩, ⟨_, (flAdded hp hp' HF1.out hlt4).same (clear_step hir (HF1.out.val i hlt4) HS.out)⟩⟩
    case measure => simp [intOf]; try omega
  ·
   obtain rfl : m = i := by omega
   go_wp2_with fail
   (try simp only [Exit.inBlock, Exit.then]); refine bodyPost_end (results_none rfl _ _ _) rfl ⟨rfl, bt, HX4.out⟩

/-- two places of a family exchanged -/
def swapN (G : Nat → Nat) (r s : Nat) : Nat → Nat := fun i => if i = r then G s else if i = s then G r else G i
theorem swap_cases {r s i m : Nat} (hr : r < m) (hs : s < m) (hi : i < m) : ∃ j, j < m ∧ (∀ G : Nat → Nat, swapN G r s i = G j) ∧ (∀ g : Nat → Nat → Int, swapG g r s i = g j) ∧ ((i = r ∧ j = s) ∨ (i ≠ r ∧ i = s ∧ j = r) ∨ (i ≠ r ∧ i ≠ s ∧ j = i)) := by
  by_cases h : i = r
  · exact ⟨s, hs, fun G => by unfold swapN; rw [if_pos h], fun g => by unfold swapG; rw [if_pos h], .inl ⟨h, rfl⟩⟩
  · by_cases h2 : i = s
    · exact ⟨r, hr, fun G => by unfold swapN; rw [if_neg h, if_pos h2], fun g => by unfold swapG; rw [if_neg h, if_pos h2], .inr (.inl ⟨h, h2, rfl⟩)⟩
    · exact ⟨i, hi, fun G => by unfold swapN; rw [if_neg h, if_neg h2], fun g => by unfold swapG; rw [if_neg h, if_neg h2], .inr (.inr ⟨h, h2, rfl⟩)⟩
theorem flSwap {w w' : World} {B U b m N r s : Nat} {g : Nat → Nat → Int} {G C : Nat → Nat} {F : Nat → Nat → Int} (h : FL w B U b 0 m N g G C F) (hr : r < m) (hs : s < m) (hw : ∀ x, x < w.heap.size → x ≠ b → w'.heap[x]? = w.heap[x]?) (hi : IsRow w' b)
    (hc : blk w' b = ((blk w b).setIfInBounds r (.slice (some ⟨G s, 0, none⟩) N (C s))).setIfInBounds s (.slice (some ⟨G r, 0, none⟩) N (C r))) : FL w' B U b 0 m N (swapG g r s) (swapN G r s) (swapN C r s) (swapG F r s) := by
  have keep : ∀ x, x ≠ b → IsRow w x → IsRow w' x ∧ blk w' x = blk w x := fun x hx hxr => by
    have e := hw x (isRow_lt hxr) hx
    constructor
    · unfold IsRow; rw [e]; exact hxr
    · unfold blk; rw [e]
  refine ⟨h.base, h.top, hi, fun i hi' => ?_, fun i hi' => ?_, fun i j hi' hj' hij => ?_, fun i hi' => ?_, fun i hi' => ?_, fun i hi' => ?_, fun i hi' => ?_, fun i hi' t ht => ?_⟩
  · obtain ⟨j, hj, e1, e2, e3⟩ := swap_cases hr hs hi'
    rw [e1 G, e1 C, hc, Nat.zero_add, Array.getElem?_setIfInBounds, Array.getElem?_setIfInBounds]
    have z : ∀ k, k < m → k < (blk w b).size := fun k hk => by have := h.cell k hk; rw [Nat.zero_add] at this; exact (Array.getElem?_eq_some_iff.1 this).1
    rcases e3 with ⟨rfl, rfl⟩ | ⟨a1, rfl, rfl⟩ | ⟨a1, a2, rfl⟩
    · by_cases e : i = j
      · subst e; rw [if_pos rfl, if_pos (by simp; exact z _ hr)]
      · rw [if_neg (Ne.symm e), if_pos rfl, if_pos (z _ hr)]
    · rw [if_pos rfl, if_pos (by simp; exact z _ hs)]
    · rw [if_neg (Ne.symm a2), if_neg (Ne.symm a1)]
      have := h.cell j hj
      rwa [Nat.zero_add] at this
  · obtain ⟨j, hj, e1, _⟩ := swap_cases hr hs hi'
    rw [e1]; exact h.gB j hj
  · obtain ⟨a, ha, e1, _, e3⟩ := swap_cases hr hs hi'
    obtain ⟨c, hc', e4, _, e5⟩ := swap_cases hr hs hj'
    rw [e1, e4]
    exact h.inj a c ha hc' (by omega)
  · obtain ⟨j, hj, e1, _⟩ := swap_cases hr hs hi'
    rw [e1]; exact (keep _ (h.gB j hj).2.2 (h.isr j hj)).1
  · obtain ⟨j, hj, e1, e2, _⟩ := swap_cases hr hs hi'
    rw [e1 G, e1 C, e2, (keep _ (h.gB j hj).2.2 (h.isr j hj)).2]; exact h.blk j hj
  · obtain ⟨j, hj, e1, _⟩ := swap_cases hr hs hi'
    rw [e1]; exact h.len j hj
  · obtain ⟨j, hj, e1, e2, _⟩ := swap_cases hr hs hi'
    rw [e1, e2]; exact h.bytes j hj
  · obtain ⟨j, hj, e1, e2, _⟩ := swap_cases hr hs hi'
    rw [e2, e2]; exact h.val j hj t ht

set_option maxRecDepth 100000 in
set_option maxHeartbeats 1000000 in
theorem raiseRow_any (B U b m N cap r M q : Nat) (g : Nat → Nat → Int) (G C : Nat → Nat) (F : Nat → Nat → Int) (w : World) (hm : m ≤ 1000000) (hN : N ≤ 1000) (hrM : r + M = m) (hq : q < N) (hBw : B ≤ w.heap.size) (hUw : U ≤ w.heap.size) (hF : FL w B U b 0 m N g G C F) :
    Calls Tryz.prog 104 #[.slice (some ⟨b, r, none⟩) M cap, .int .i64 q] w fun e w' => (e = .returned (.bool false) ∧ Below B w w' ∧ FL w' B U b 0 m N g G C F ∧ ∀ i, i < M → g (r + i) q = 0) ∨ ∃ s, r ≤ s ∧ s < m ∧ g s q ≠ 0 ∧ (∀ k, r ≤ k → k < s → g k q = 0) ∧ e = .returned (.bool true) ∧ Below B w w' ∧ FL w' B U b 0 m N (swapG g r s) (swapN G r s) (swapN C r s) (swapG F r s) := by
 have HF := Lib.hid hF; clear hF
 have hbr := HF.out.row; have hbw := isRow_lt hbr
 have hBb := HF.out.base
 have hBU : B ≤ U := by have := HF.out.top; omega
 have hFw := HF.out
 go_enter Tryz.func104, Tryz.ntmps104
 go_wp2
 refine atomW fun W1 e1 => ?_
 have hb1 : Below B w W1 := by rw [e1]; exact bt
 have q1 := hb1.size
 have ro_1 : IsRow W1 (b) := by rw [e1]; simp [go_sem, hbr, (rfl : blk w b = blk w b)]
 have co_1 : blk W1 (b) = blk w (b) := by rw [e1]
 have zo_1 := isRow_lt ro_1
 have hvF_1 : FL W1 B U b 0 m N g G C F := by rw [e1]; (repeat (first | exact hFw | refine FL.alloc ?_ _ | refine FL.drew ?_ | refine FL.setRow ?_ (by omega) _))
 clear e1 hbr hFw
 go_loopw [9] (fun s9 wr => ∃ i : Nat, i ≤ M ∧ s9 = .int .i64 i ∧ Below B w wr ∧ (IsRow wr (b) ∧ blk wr (b) = blk W1 (b)) ∧ FL wr B U b 0 m N g G C F ∧ ∀ k, k < i → g (r + k) q = 0) (fun s9 _ => M - (intOf s9).toNat)
 case atStart => exact ⟨0, by omega, rfl, hb1, ⟨ro_1, rfl⟩, ⟨hvF_1, fun k hk => by omega⟩⟩
 case round =>
  obtain ⟨i, hle2, rfl, hb2, ⟨ro_2, co_2⟩, hx2⟩ := hrel
  obtain ⟨W2, rfl⟩ : ∃ W2 : World, W2 = wr := ⟨_, rfl⟩
  have q2 := hb2.size
  have HX2 := Lib.hid hx2; clear hx2
  have Eo_2 := Lib.hid co_1; replace co_2 := co_2.trans co_1
  have zo_2 := isRow_lt ro_2
  clear ro_1 co_1 zo_1 hb1 hvF_1
  by_cases hlt2 : i < M
  ·
   by_cases h0 : g (r + i) q = 0
   ·
    have hF1 := HX2.out.1
    have hi1 : r + i < m := by omega
    have hx0 := hF1.cell (r + i) hi1
    rw [Nat.zero_add, co_2] at hx0
    have hNi := hF1.len (r + i) hi1
    have hGb := (hF1.gB (r + i) hi1).2.2
    have hxq : F (r + i) q = g (r + i) q := hF1.val (r + i) hi1 q hq
    have hqC : q < C (r + i) := by omega
    have hxr := hF1.isr (r + i) hi1
    have hxc := hF1.blk (r + i) hi1
    have n1 : (g (r + i) q == 0) = true := by simpa using h0
    have HF1 := Lib.hid hF1; clear hF1
    have rx_3 : IsRow W2 (G (r + i)) := hxr
    have cx_3 := (hxc)
    have zx_3 := isRow_lt rx_3
    have no_x : (b) ≠ (G (r + i)) := by omega
    have nx_o : (G (r + i)) ≠ (b) := by omega
    go_wp2
    go_roundw
    case rel => exact ⟨i + 1, by omega, by go_num, bt, ⟨by simp [go_sem, ro_2, co_2, no_x, rx_3, cx_3, nx_o], (by rw [Eo_2.out]; first | exact co_2 | (simp [go_sem, ro_2, co_2, no_x, rx_3, cx_3, nx_o]; done))⟩, ⟨HX2.out.1, fun k hk => by by_cases e : k = i; (rw [e]; exact h0); exact HX2.out.2 k (by omega)⟩⟩
    case measure => simp [intOf]; try omega
   ·
    have hF1 := HX2.out.1
    have hi1 : r + i < m := by omega
    have hx0 := hF1.cell (r + i) hi1
    rw [Nat.zero_add, co_2] at hx0
    have hNi := hF1.len (r + i) hi1
    have hGb := (hF1.gB (r + i) hi1).2.2
    have hxq : F (r + i) q = g (r + i) q := hF1.val (r + i) hi1 q hq
    have hqC : q < C (r + i) := by omega
    have hxr := hF1.isr (r + i) hi1
    have hxc := hF1.blk (r + i) hi1
    have hr0 : r < m := by omega
    have hx1 := hF1.cell r hr0
    rw [Nat.zero_add, co_2] at hx1
    have hz0 : r < (blk w b).size := (Array.getElem?_eq_some_iff.1 hx1).1
    have hz1 : r + i < (blk w b).size := (Array.getElem?_eq_some_iff.1 hx0).1
    have hx3 : (blk w b)[r + i]'hz1 = .slice (some ⟨G (r + i), 0, none⟩) N (C (r + i)) := by
     have := hx0
     rw [Array.getElem?_eq_getElem hz1] at this
     exact Option.some.inj this
    have hx4 : (blk w b)[r]'hz0 = .slice (some ⟨G r, 0, none⟩) N (C r) := by
     have := hx1
     rw [Array.getElem?_eq_getElem hz0] at this
     exact Option.some.inj this
    have hM0 : 0 < M := by omega
    have n1 : (g (r + i) q == 0) = false := by simpa using h0
    have HF1 := Lib.hid hF1; clear hF1
    have rx_4 : IsRow W2 (G (r + i)) := hxr
    have cx_4 := (hxc)
    have zx_4 := isRow_lt rx_4
    have no_x : (b) ≠ (G (r + i)) := by omega
    have nx_o : (G (r + i)) ≠ (b) := by omega
    go_wp2_with fail
    go_ret
    exact .inr ⟨r + i, by omega, hi1, h0, fun k h1 h2 => by have := HX2.out.2 (k - r) (by omega); rwa [show r + (k - r) = k by omega] at this, rfl, bt, flSwap HF1.out hr0 hi1 (fun x hx hne => by simp [setRow_other _ _ _ _ hne]) (by simp [go_sem, ro_2, co_2, no_x, rx_4, cx_4, nx_o]) (by simp [go_sem, ro_2, co_2, no_x, rx_4, cx_4, nx_o])⟩
  ·
   obtain rfl : M = i := by omega
   go_wp2_with fail
   go_ret
   exact .inl ⟨rfl, bt, HX2.out.1, HX2.out.2⟩

theorem raiseRow_no (B U b m N cap r M q : Nat) (g : Nat → Nat → Int) (G C : Nat → Nat) (F : Nat → Nat → Int) (w : World) (hm : m ≤ 1000000) (hN : N ≤ 1000) (hrM : r + M = m) (hq : q < N) (hBw : B ≤ w.heap.size) (hUw : U ≤ w.heap.size) (hF : FL w B U b 0 m N g G C F) (hz : ∀ i, r ≤ i → i < m → g i q = 0) :
    Calls Tryz.prog 104 #[.slice (some ⟨b, r, none⟩) M cap, .int .i64 q] w fun e w' => e = .returned (.bool false) ∧ Below B w w' ∧ FL w' B U b 0 m N g G C F :=
  (raiseRow_any B U b m N cap r M q g G C F w hm hN hrM hq hBw hUw hF).mono fun e w' h => by
    rcases h with ⟨h1, h2, h3, _⟩ | ⟨s, h1, h2, h3, _⟩
    · exact ⟨h1, h2, h3⟩
    · exact absurd (hz s h1 h2) h3
theorem raiseRow_at (B U b m N cap r M q s : Nat) (g : Nat → Nat → Int) (G C : Nat → Nat) (F : Nat → Nat → Int) (w : World) (hm : m ≤ 1000000) (hN : N ≤ 1000) (hrM : r + M = m) (hq : q < N) (hBw : B ≤ w.heap.size) (hUw : U ≤ w.heap.size) (hF : FL w B U b 0 m N g G C F) (h1 : r ≤ s) (h2 : s < m) (h3 : g s q ≠ 0) (h4 : ∀ k, r ≤ k → k < s → g k q = 0) :
    Calls Tryz.prog 104 #[.slice (some ⟨b, r, none⟩) M cap, .int .i64 q] w fun e w' => e = .returned (.bool true) ∧ Below B w w' ∧ FL w' B U b 0 m N (swapG g r s) (swapN G r s) (swapN C r s) (swapG F r s) :=
  (raiseRow_any B U b m N cap r M q g G C F w hm hN hrM hq hBw hUw hF).mono fun e w' h => by
    rcases h with ⟨_, _, _, h0⟩ | ⟨t, a1, a2, a3, a4, a5, a6, a7⟩
    · have := h0 (s - r) (by omega)
      rw [show r + (s - r) = s by omega] at this
      exact absurd this h3
    · have e : t = s := by
        rcases Nat.lt_trichotomy t s with h | h | h
        · exact absurd (h4 t a1 h) a3
        · exact h
        · exact absurd (a4 s h1 h) h3
      subst e
      exact ⟨a5, a6, a7⟩
theorem first_row {r m q : Nat} {g : Nat → Nat → Int} (h : ¬ ∀ i, r ≤ i → i < m → g i q = 0) : ∃ s, r ≤ s ∧ s < m ∧ g s q ≠ 0 ∧ ∀ k, r ≤ k → k < s → g k q = 0 := by
  have key : ∀ k, (∀ i, r ≤ i → i < k → g i q = 0) ∨ ∃ s, r ≤ s ∧ s < k ∧ g s q ≠ 0 ∧ ∀ k, r ≤ k → k < s → g k q = 0 := by
    intro k
    induction k with
    | zero => exact .inl fun i _ hi => by omega
    | succ k ih =>
      rcases ih with h1 | ⟨s, h1, h2, h3⟩
      · by_cases h0 : r ≤ k ∧ g k q ≠ 0
        · exact .inr ⟨k, h0.1, by omega, h0.2, fun i h2 h3 => h1 i h2 h3⟩
        · exact .inl fun i h2 h3 => by
            by_cases e : i = k
            · subst e
              exact Classical.byContradiction fun h4 => h0 ⟨h2, h4⟩
            · exact h1 i h2 (by omega)
      · exact .inr ⟨s, h1, by omega, h3⟩
  rcases key m with h1 | h1
  · exact absurd h1 h
  · exact h1
theorem swap_range {p : Int} {m N r s : Nat} {g : Nat → Nat → Int} (hr : r < m) (hs : s < m) (h : ∀ i, i < m → ∀ t, t < N → 0 ≤ g i t ∧ g i t < p) : ∀ i, i < m → ∀ t, t < N → 0 ≤ swapG g r s i t ∧ swapG g r s i t < p := fun i hi => by
  obtain ⟨j, hj, _, e, _⟩ := swap_cases hr hs hi
  rw [e]; exact h j hj
theorem swap_top {g : Nat → Nat → Int} {r s : Nat} : swapG g r s r = g s := by unfold swapG; rw [if_pos rfl]
theorem stage_step' {p : Int} {N m : Nat} {g0 g : Nat → Nat → Int} {r q s : Nat} {l : Nat → Nat} (hp : prime31 p = true) (st : Stage p N m g0 r q g l) (hq : q < N) (hr : r < m) (hs : r ≤ s) (hsm : s < m) (hne : g s q ≠ 0) :
    Stage p N m g0 (r + 1) (q + 1) (stepG p g r s q (invN p (swapG g r s r q)) m) (fun i => if i = r then q else l i) := by
  have h2 : 2 ≤ p := by
    unfold prime31 at hp
    simp only [Bool.and_eq_true, decide_eq_true_eq] at hp
    exact hp.1.1
  have hg := st.rng s hsm q hq
  refine stage_step h2 st hq hr hs hsm ?_
  rw [swap_top]
  exact (invN_spec hp (by omega) hg.2).2.2

/-- the first r rows behind b are the reduced list of the space that g spans -/
def Reduced (p : Int) (B U b m N : Nat) (g : Nat → Nat → Int) (r : Nat) (w : World) : Prop := ∃ l g' G C F, FL w B U b 0 m N g' G C F ∧ Red p N r g' l ∧ SameSpan p N m g r g'

set_option maxRecDepth 100000 in
set_option maxHeartbeats 1000000 in
theorem reduceRows_any (p : Int) (B U b m N cap : Nat) (g : Nat → Nat → Int) (G C : Nat → Nat) (F : Nat → Nat → Int) (w : World) (hp : 0 < p) (hp' : p ≤ 255) (hpr : prime31 p = true) (hm : m ≤ 1000000) (hmc : m ≤ cap) (hN : N ≤ 1000) (hg : ∀ i, i < m → ∀ t, t < N → 0 ≤ g i t ∧ g i t < p) (hBw : B ≤ w.heap.size) (hUw : U ≤ w.heap.size) (hF : FL w B U b 0 m N g G C F) :
    Calls Tryz.prog 75 #[.int .i64 p, .slice (some ⟨b, 0, none⟩) m cap] w fun e w' => ∃ r, e = .returned (.slice (some ⟨b, 0, none⟩) r cap) ∧ Below B w w' ∧ r ≤ m ∧ Reduced p B U b m N g r w' := by
 have Hpr := Lib.hid hpr; clear hpr
 have Hg := Lib.hid hg; clear hg
 have HF := Lib.hid hF; clear hF
 have hBb := HF.out.base
 have hbU := HF.out.top
 have hBU : B ≤ U := by omega
 have hFw := HF.out
 go_enter Tryz.func75, Tryz.ntmps75
 go_wp2
 refine atomW fun W1 e1 => ?_
 have hb1 : Below B w W1 := by rw [e1]; exact bt
 have q1 := hb1.size
 have hvF_1 : FL W1 B U b 0 m N g G C F := by rw [e1]; (repeat (first | exact hFw | refine FL.alloc ?_ _ | refine FL.drew ?_ | refine FL.setRow ?_ (by omega) _))
 clear e1 hFw
 go_loopw [5, 6] (fun s5 s6 wr => ∃ q : Nat, ∃ r : Nat, ∃ l : Nat → Nat, ∃ g1 : Nat → Nat → Int, ∃ G1 : Nat → Nat, ∃ C1 : Nat → Nat, ∃ F1 : Nat → Nat → Int, q ≤ N ∧ s5 = .int .i64 r ∧ s6 = .int .i64 q ∧ Below B w wr ∧ FL wr B U b 0 m N g1 G1 C1 F1 ∧ ((B) ≤ (U) ∧ (U) ≤ wr.heap.size) ∧ Stage p N m g r q g1 l) (fun _ s6 _ => N - (intOf s6).toNat)
 case atStart => exact ⟨0, 0, (fun _ => 0), g, G, C, F, by omega, (by first | rfl | (simp; done) | go_num), rfl, hb1, hvF_1, (by omega), stage_start Hg.out⟩
 case round =>
  obtain ⟨q, r, l, g1, G1, C1, F1, hle2, rfl, rfl, hb2, hvF_2, hUF_2, hx2⟩ := hrel
  obtain ⟨W2, rfl⟩ : ∃ W2 : World, W2 = wr := ⟨_, rfl⟩
  have q2 := hb2.size
  have HX2 := Lib.hid hx2; clear hx2
  clear hb1 hvF_1
  by_cases hlt2 : q < N
  ·
   by_cases hrm : r < m
   ·
    by_cases hz : ∀ i, r ≤ i → i < m → g1 i q = 0
    ·
     have hle1 := HX2.out.le
     have he0 := hvF_2.cell 0 (by omega)
     rw [Nat.zero_add] at he0
     have hNC := hvF_2.len 0 (by omega)
     have hM1 : r + (m - r) = m := by omega
     have HZ := Lib.hid hz; clear hz
     have ro_3 : IsRow W2 (b) := hvF_2.row
     have co_3 := (rfl : blk W2 b = blk W2 b)
     have zo_3 := isRow_lt ro_3
     go_wp2_with fail
     refine (raiseRow_no B U b m N (cap - r) r (m - r) q g1 G1 C1 F1 _ hm hN hM1 hlt2 (by omega) (by omega) hvF_2 HZ.out).mono ?_; rintro _ W4 ⟨rfl, hw4, hvF_4⟩
     have hb4 := hb2.trans (hw4.mono (by omega))
     have q4 := hb4.size
     have sz4 := hw4.size
     clear hw4 hvF_2 hb2
     go_wp2
     go_roundw
     case rel => exact ⟨q + 1, (r), (l), (g1), (G1), (C1), (F1), by omega, (by first | rfl | go_num | (simp; done)), by go_num, bt, vtF, bu, stage_skip HX2.out hlt2 HZ.out⟩
     case measure => simp [intOf]; try omega
    ·
     have hle1 := HX2.out.le
     have he0 := hvF_2.cell 0 (by omega)
     rw [Nat.zero_add] at he0
     have hNC := hvF_2.len 0 (by omega)
     have hM1 : r + (m - r) = m := by omega
     obtain ⟨s, hs1, hs2, hs3, hs4⟩ := first_row hz
     clear hz
     have HS4 := Lib.hid hs4; clear hs4
     have hne : swapG g1 r s r q ≠ 0 := by rw [swap_top]; exact hs3
     have HR := Lib.hid (swap_range hrm hs2 HX2.out.rng)
     have ro_5 : IsRow W2 (b) := hvF_2.row
     have co_5 := (rfl : blk W2 b = blk W2 b)
     have zo_5 := isRow_lt ro_5
     go_wp2_with fail
     refine (raiseRow_at B U b m N (cap - r) r (m - r) q s g1 G1 C1 F1 _ hm hN hM1 hlt2 (by omega) (by omega) hvF_2 hs1 hs2 hs3 HS4.out).mono ?_; rintro _ W6 ⟨rfl, hw6, hvF_6⟩
     have hb6 := hb2.trans (hw6.mono (by omega))
     have q6 := hb6.size
     have sz6 := hw6.size
     clear hw6 hvF_2 hb2
     go_wp2_with fail
     refine (clearPlace_any p B U b m N cap r q (swapG g1 r s) (swapN G1 r s) (swapN C1 r s) (swapG F1 r s) _ hp hp' Hpr.out hm hN hrm hlt2 HR.out hne (by omega) (by omega) hvF_6).mono ?_; rintro _ W7 ⟨rfl, hw7, F2, hvF_7⟩
     have hb7 := hb6.trans (hw7.mono (by omega))
     have q7 := hb7.size
     have sz7 := hw7.size
     clear hw7 hvF_6 hb6
     go_wp2
     go_roundw
     case rel => exact ⟨q + 1, ((r + 1)), ((fun i => if i = r then q else l i)), ((stepG p g1 r s q ((invN p (swapG g1 r s r q) : Nat) : Int) m)), ((swapN G1 r s)), ((swapN C1 r s)), (F2), by omega, (by first | rfl | go_num | (simp; done)), by go_num, bt, vtF, bu, stage_step' Hpr.out HX2.out hlt2 hrm hs1 hs2 hs3⟩
     case measure => simp [intOf]; try omega
   ·
    have hle1 := HX2.out.le
    have HRM : Hid (r = m) := Lib.hid (by omega)
    go_wp2_with fail
    go_ret
    exact ⟨r, rfl, bt, HX2.out.le, l, g1, G1, C1, F1, hvF_2, (stage_end HX2.out (.inl HRM.out)).1, (stage_end HX2.out (.inl HRM.out)).2⟩
  ·
   obtain rfl : N = q := by omega
   by_cases hrm : r < m
   ·
    have hle1 := HX2.out.le
    have he0 := hvF_2.cell 0 (by omega)
    rw [Nat.zero_add] at he0
    have hNC := hvF_2.len 0 (by omega)
    have ro_8 : IsRow W2 (b) := hvF_2.row
    have co_8 := (rfl : blk W2 b = blk W2 b)
    have zo_8 := isRow_lt ro_8
    go_wp2_with fail
    go_ret
    exact ⟨r, rfl, bt, HX2.out.le, l, g1, G1, C1, F1, hvF_2, (stage_end HX2.out (.inr rfl)).1, (stage_end HX2.out (.inr rfl)).2⟩
   ·
    have hle1 := HX2.out.le
    have HRM : Hid (r = m) := Lib.hid (by omega)
    go_wp2_with fail
    go_ret
    exact ⟨r, rfl, bt, HX2.out.le, l, g1, G1, C1, F1, hvF_2, (stage_end HX2.out (.inl HRM.out)).1, (stage_end HX2.out (.inl HRM.out)).2⟩

end Go.Proofs.YtjmmmggnbndolaaGreat
