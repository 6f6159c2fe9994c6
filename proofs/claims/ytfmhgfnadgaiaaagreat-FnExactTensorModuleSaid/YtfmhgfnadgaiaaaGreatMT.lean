/- Tensor products of modules. -/
import Derived.Test.YtfmhgfnadgaiaaaGreatMS
namespace Go.Proofs.YtfmhgfnadgaiaaaGreat
open Go.RowKit
set_option linter.unusedSimpArgs false
set_option linter.unusedVariables false
attribute [local irreducible] wpQuiet wpQE

theorem sliceMid (b lo k hi : Nat) (h0 : lo < 8) (h : lo + k ≤ 8) (hh : hi = lo + k) (w : World) : (Instr.sliceAt 29 (.pointer (some ⟨b, 0, none⟩)) (some (.int .i64 lo)) (some (.int .i64 hi)) none).run Tryz.prog w = .ok (.slice (some ⟨b, lo, none⟩) k (8 - lo)) w := by
  subst hh
  rcases (show lo = 0 ∨ lo = 1 ∨ lo = 2 ∨ lo = 3 ∨ lo = 4 ∨ lo = 5 ∨ lo = 6 ∨ lo = 7 by omega) with rfl | rfl | rfl | rfl | rfl | rfl | rfl | rfl <;> rcases (show k = 0 ∨ k = 1 ∨ k = 2 ∨ k = 3 ∨ k = 4 ∨ k = 5 ∨ k = 6 ∨ k = 7 ∨ k = 8 by omega) with rfl | rfl | rfl | rfl | rfl | rfl | rfl | rfl | rfl
  all_goals first | (exfalso; omega) | kernel_rfl
theorem sliceTo (b k : Nat) (h : k ≤ 8) (w : World) : (Instr.sliceAt 29 (.pointer (some ⟨b, 0, none⟩)) none (some (.int .i64 k)) none).run Tryz.prog w = .ok (.slice (some ⟨b, 0, none⟩) k 8) w := by
  rcases (show k = 0 ∨ k = 1 ∨ k = 2 ∨ k = 3 ∨ k = 4 ∨ k = 5 ∨ k = 6 ∨ k = 7 ∨ k = 8 by omega) with rfl | rfl | rfl | rfl | rfl | rfl | rfl | rfl | rfl
  all_goals kernel_rfl
/-- the value of impl.tensor -/
def tns (p : Int) (d c : Int) : Array Value := #[.int .i64 p, .int .i64 d, .int .i64 c]
@[go_sem] theorem tns_size (p d c : Int) : (tns p d c).size = 3 := rfl
@[go_sem] theorem tns_0 (p d c : Int) : (tns p d c)[0]? = some (.int .i64 p) := rfl
@[go_sem] theorem tns_1 (p d c : Int) : (tns p d c)[1]? = some (.int .i64 d) := rfl
@[go_sem] theorem tns_2 (p d c : Int) : (tns p d c)[2]? = some (.int .i64 c) := rfl
@[go_sem] theorem tns_0' (p d c : Int) (h : 0 < (tns p d c).size) : (tns p d c)[0] = .int .i64 p := rfl
@[go_sem] theorem tns_1' (p d c : Int) (h : 1 < (tns p d c).size) : (tns p d c)[1] = .int .i64 d := rfl
@[go_sem] theorem tns_2' (p d c : Int) (h : 2 < (tns p d c).size) : (tns p d c)[2] = .int .i64 c := rfl
@[go_sem] theorem tns_all (p d c : Int) : (tns p d c).extract 0 3 = tns p d c := by
  rw [show (3 : Nat) = (tns p d c).size from rfl]; simp
@[go_sem] theorem lay_tns (p d c p' d' c' : Int) : lay (tns p d c) 0 (tns p' d' c') = tns p' d' c' := by
  apply Array.ext_getElem?
  intro i
  rw [lay_get _ _ _ _ (by rw [tns_size, tns_size]; omega), tns_size]
  split
  · rfl
  · rw [Array.getElem?_eq_none (by rw [tns_size]; omega), Array.getElem?_eq_none (by rw [tns_size]; omega)]
theorem aggTns : AggT Tryz.prog 247 3 := ⟨by kernel_rfl, by kernel_rfl⟩
@[go_sem ↓] theorem xloadTns (ρ : Operand → Value) (dst : Option Tmp) (a : Operand) (ty : TypeId) (pos : String) (after : Array Edge) (guard : Option (Nat × Bool)) (w : World) :
    (execOp ρ ⟨dst, .load 247 a, ty, pos, after, guard⟩).run Tryz.prog w = loadN Tryz.prog 247 (ρ a) w := rfl
@[go_sem] theorem loadTns (w : World) (b off : Nat) (h : Has w b (off + 3)) :
    loadN Tryz.prog 247 (.pointer (some ⟨b, off, none⟩)) w = .ok (.value (.agg ((blk w b).extract off (off + 3)))) w := loadN_at aggTns w b off h
@[go_sem ↓] theorem xstoreTns (ρ : Operand → Value) (dst : Option Tmp) (a x : Operand) (ty : TypeId) (pos : String) (after : Array Edge) (guard : Option (Nat × Bool)) (w : World) :
    (execOp ρ ⟨dst, .store 247 a x, ty, pos, after, guard⟩).run Tryz.prog w = storeN Tryz.prog 247 (ρ a) (ρ x) w := rfl
@[go_sem] theorem storeTns (w : World) (b off : Nat) (p d c : Int) (h : Has w b (off + 3)) :
    storeN Tryz.prog 247 (.pointer (some ⟨b, off, none⟩)) (.agg (tns p d c)) w = .ok .skip (w.setRow b (lay (blk w b) off (tns p d c))) := storeN_at aggTns w b off _ h rfl (by simp [tns, Value.oneCell'])
@[go_sem ↓] theorem xallocTns (ρ : Operand → Value) (dst : Option Tmp) (ty : TypeId) (pos : String) (after : Array Edge) (guard : Option (Nat × Bool)) (w : World) :
    (execOp ρ ⟨dst, .alloc 247, ty, pos, after, guard⟩).run Tryz.prog w = allocN Tryz.prog 247 w := rfl
@[go_sem] theorem allocTns (w : World) : allocN Tryz.prog 247 w = .ok (.value (.pointer (some ⟨w.heap.size, 0, none⟩))) (w.alloc (.cells (tns 0 0 0) 247)) := allocN_eq _ (by kernel_rfl) w
@[go_sem ↓] theorem xbuildTns (ρ : Operand → Value) (dst : Option Tmp) (a b c : Operand) (ty : TypeId) (pos : String) (after : Array Edge) (guard : Option (Nat × Bool)) (w : World) :
    (execOp ρ ⟨dst, .build 247 #[(0, a), (1, b), (2, c)], ty, pos, after, guard⟩).run Tryz.prog w = buildS Tryz.prog 247 #[(0, ρ a), (1, ρ b), (2, ρ c)] w := by kernel_rfl
@[go_sem] theorem buildTns (p d c : Int) (w : World) : buildS Tryz.prog 247 #[(0, .int .i64 p), (1, .int .i64 d), (2, .int .i64 c)] w = .ok (.value (.agg (tns p d c))) w := by
  refine build_struct (fields := fieldsOf Tryz.prog 247) (places := #[(0, 1), (1, 1), (2, 1)]) (zc := tns 0 0 0) (by kernel_rfl) (by kernel_rfl) (fun w => by kernel_rfl) ?_ w
  show Instr.fill _ _ [_, _, _] = _
  rw [fill_one (off := 0) rfl (by rw [tns_size]; omega), fill_one (off := 1) rfl (by simp [tns_size]), fill_one (off := 2) rfl (by simp [tns_size])]
  rfl
@[go_sem ↓] theorem xbuildTen (ρ : Operand → Value) (dst : Option Tmp) (a b c : Operand) (ty : TypeId) (pos : String) (after : Array Edge) (guard : Option (Nat × Bool)) (w : World) :
    (execOp ρ ⟨dst, .build 89 #[(0, a), (1, b), (2, c)], ty, pos, after, guard⟩).run Tryz.prog w = buildS Tryz.prog 89 #[(0, ρ a), (1, ρ b), (2, ρ c)] w := by kernel_rfl
set_option maxRecDepth 100000 in
@[go_sem] theorem buildTen (p n : Int) (f : Nat → Int) (t u : TypeId) (v v' : Value) (w : World) : buildS Tryz.prog 89 #[(0, .agg (hop p n f)), (1, .iface t v), (2, .iface u v')] w = .ok (.value (.agg (hopx p n f #[.iface t v, .iface u v']))) w := by
  refine build_struct (fields := fieldsOf Tryz.prog 89) (places := #[(0, 1106), (1106, 1), (1107, 1)]) (zc := hopx 0 0 zf #[.nilIface, .nilIface]) (by kernel_rfl) (by rw [hopx_z2]; kernel_rfl) (fun w => by kernel_rfl) ?_ w
  show Instr.fill _ _ [_, _, _] = _
  rw [fill_row (off := 0) (m := 1106) rfl (hop_size _ _ _) (by rw [hopx_size]; simp), lay_hopx, fill_cell (off := 1106) rfl rfl (by rw [hopx_size]; simp), hopx_set21, fill_cell (off := 1107) rfl rfl (by rw [hopx_size]; simp), hopx_set22]
  rfl

/-- v (x) w, of the first i entries of v -/
def prK (p : Int) (c : Nat) (v u : Nat → Int) (i : Nat) : Nat → Int := fun t => if t < c * i then (v (t / c) * u (t % c)) % p else 0
theorem prK_range {p : Int} (hp : 0 < p) (c : Nat) (v u : Nat → Int) (i t : Nat) : 0 ≤ prK p c v u i t ∧ prK p c v u i t < p := by
  unfold prK
  split
  · exact mod_range _ _ hp
  · omega
theorem prK_bytes {p : Int} (hp : 0 < p) (hp' : p ≤ 255) (c : Nat) (v u : Nat → Int) (i : Nat) : Bytes 8 (prK p c v u i) := fun t _ => by have := prK_range hp c v u i t; omega
theorem pr_zero (p : Int) (c : Nat) (v u : Nat → Int) : row 8 zf = row 8 (prK p c v u 0) := row_congr fun t _ => by unfold prK zf; rw [if_neg (by omega)]
theorem div_at {c i t : Nat} (h1 : c * i ≤ t) (h2 : t < c * i + c) : t / c = i ∧ t % c = t - c * i := by
  have e : t / c = i := Nat.div_eq_of_lt_le (by rw [Nat.mul_comm]; exact h1) (by rw [Nat.add_mul, Nat.one_mul, Nat.mul_comm]; exact h2)
  exact ⟨e, by rw [Nat.mod_def, e]⟩
theorem pr_step {p : Int} {c : Nat} {v u : Nat → Int} {i lo : Nat} (hlo : lo = c * i) : row 8 (addm p lo c (v i) (prK p c v u i) u) = row 8 (prK p c v u (i + 1)) := row_congr fun t _ => by
  subst hlo
  unfold addm prK
  rw [Nat.mul_succ]
  by_cases h : c * i ≤ t ∧ t < c * i + c
  · obtain ⟨e1, e2⟩ := div_at h.1 h.2
    rw [if_pos h, if_neg (by omega), if_pos h.2, e1, e2, Int.zero_add]
  · rw [if_neg h]
    exact ifj (by omega) _
/-- by the reference model -/
def prB (p : Int) (c : Nat) (v u : Nat → Int) (i j : Nat) : Nat → Int := fun t => if t < c * i + j then (v (t / c) * u (t % c)) % p else 0
theorem prb_zero (p : Int) (c : Nat) (v u : Nat → Int) : row 8 zf = row 8 (prB p c v u 0 0) := row_congr fun t _ => by unfold prB zf; rw [if_neg (by omega)]
theorem prb_step {p : Int} {c : Nat} {v u : Nat → Int} {i j s : Nat} (hs : s = c * i + j) (hj : j < c) : row 8 (upd (prB p c v u i j) s ((v i * u j) % p)) = row 8 (prB p c v u i (j + 1)) := row_congr fun t _ => by
  subst hs
  unfold upd prB
  by_cases h : t = c * i + j
  · obtain ⟨e1, e2⟩ := div_at (c := c) (i := i) (t := t) (by omega) (by omega)
    rw [if_pos h, if_pos (by omega), e1, e2, show t - c * i = j by omega]
  · rw [if_neg h]
    exact ifj (by omega) _
theorem prb_row (p : Int) (c : Nat) (v u : Nat → Int) (i : Nat) : row 8 (prB p c v u i c) = row 8 (prB p c v u (i + 1) 0) := row_congr fun t _ => by unfold prB; rw [Nat.mul_succ, Nat.add_zero]
theorem prb_end (p : Int) (c : Nat) (v u : Nat → Int) (d : Nat) : row 8 (prB p c v u d 0) = row 8 (prK p c v u d) := row_congr fun t _ => rfl
/-- the products for e(i): up to a, b -/
def tnT (p : Int) (d c : Nat) (f F G : Nat → Int) (i x y t a b : Nat) : Int := mtab (coF f) i a b * prK p c (act F a x) (act G b y) d t
def tnK (p : Int) (n d c : Nat) (f F G : Nat → Int) (i x y a b : Nat) : Nat → Int := fun t => dsumK (tnT p d c f F G i x y t) n a b % p
theorem tn_zero (p : Int) (n d c : Nat) (f F G : Nat → Int) (i x y : Nat) : row 8 zf = row 8 (tnK p n d c f F G i x y 0 0) := row_congr fun t _ => by unfold tnK zf; rw [dsum_zero]; simp
theorem tnK_range {p : Int} (hp : 0 < p) (n d c : Nat) (f F G : Nat → Int) (i x y a b t : Nat) : 0 ≤ tnK p n d c f F G i x y a b t ∧ tnK p n d c f F G i x y a b t < p := mod_range _ _ hp
theorem tn_step (p : Int) (n d c : Nat) (f F G : Nat → Int) (i x y a b : Nat) : row 8 (addm p 0 8 (mtab (coF f) i a b) (tnK p n d c f F G i x y a b) (prK p c (act F a x) (act G b y) d)) = row 8 (tnK p n d c f F G i x y a (b + 1)) := addm_row fun t _ => by
  unfold tnK
  rw [Int.emod_add_emod, dsum_step]; rfl
theorem tn_skip {p : Int} {n d c : Nat} {f F G : Nat → Int} {i x y a b : Nat} (h : mtab (coF f) i a b = 0) : row 8 (tnK p n d c f F G i x y a b) = row 8 (tnK p n d c f F G i x y a (b + 1)) := row_congr fun t _ => by
  unfold tnK
  rw [dsum_step, show tnT p d c f F G i x y t a b = 0 by unfold tnT; rw [h, Int.zero_mul], Int.add_zero]
theorem tn_row (p : Int) (n d c : Nat) (f F G : Nat → Int) (i x y a : Nat) : row 8 (tnK p n d c f F G i x y a n) = row 8 (tnK p n d c f F G i x y (a + 1) 0) := row_congr fun t _ => by unfold tnK; rw [dsum_row]
/-- the tensor product's tables -/
def tnG (p : Int) (n d c : Nat) (f F G : Nat → Int) (i j : Nat) : Nat → Int := tnK p n d c f F G i (j / c) (j % c) n 0
theorem tn_at {p : Int} {n d c : Nat} {f F G : Nat → Int} {i x y s : Nat} (hs : s = c * x + y) (hy : y < c) : tnG p n d c f F G i s = tnK p n d c f F G i x y n 0 := by
  subst hs
  obtain ⟨e1, e2⟩ := div_at (c := c) (i := x) (t := c * x + y) (by omega) (by omega)
  unfold tnG
  rw [e1, e2, Nat.add_sub_cancel_left]
theorem ten_step {p e : Int} {n d c D : Nat} {f F G : Nat → Int} {i x y s : Nat} (hs : s = c * x + y) (hy : y < c) (hi : i < 8) (hsD : s < D) (hD : D ≤ 8) :
    lay (mdl e (finK D (tnG p n d c f F G) i (c * x + y))) (1 + i * 64 + s * 8) (row 8 (tnK p n d c f F G i x y n 0)) = mdl e (finK D (tnG p n d c f F G) i (c * x + (y + 1))) := by
  rw [← tn_at hs hy, ← Nat.add_assoc, ← hs]
  exact fin_step hi hsD hD
theorem ten_row {e : Int} {D c x : Nat} {T : Nat → Nat → Nat → Int} {i : Nat} : mdl e (finK D T i (c * x + c)) = mdl e (finK D T i (c * (x + 1))) := by rw [Nat.mul_succ]
theorem ten_map {e : Int} {D d c : Nat} {T : Nat → Nat → Nat → Int} {i : Nat} (hD : D = d * c) : mdl e (finK D T i (c * d)) = mdl e (finK D T (i + 1) 0) := by
  rw [Nat.mul_comm, ← hD]; exact fin_row _ _ _ _
theorem prod8 {d c i : Nat} (h : d * c ≤ 8) (hi : i < d) : c * i + c ≤ 8 := by
  have := Nat.mul_le_mul_left c (show i + 1 ≤ d by omega)
  rw [Nat.mul_succ, Nat.mul_comm c d] at this
  omega

set_option maxRecDepth 100000 in
set_option maxHeartbeats 1000000 in
theorem vectors_any (p : Int) (d c : Nat) (v u : Nat → Int) (w : World) (hp : 0 < p) (hp' : p ≤ 255) (hd : d ≤ 8) (he : c ≤ 8) (he1 : 1 ≤ c) (hdc : d * c ≤ 8) (hv : Bytes 8 v) (hu : Bytes 8 u) :
    Calls Tryz.prog 238 #[.agg (tns p d c), .agg (row 8 v), .agg (row 8 u)] w fun e w' => e = .returned (.agg (row 8 (prK p c v u d))) ∧ Below w.heap.size w w' := by
 have Hv := Lib.hid hv; clear hv
 have Hu := Lib.hid hu; clear hu
 have HU : Hid (Bytes c u) := Lib.hid fun t ht => Hu.out t (by omega)
 go_enter Tryz.func238, Tryz.ntmps238
 go_wp2
 refine atomW fun W1 e1 => ?_
 have hb1 : Below w.heap.size w W1 := by rw [e1]; exact bt
 have q1 := hb1.size
 have R1 : IsRow W1 (w.heap.size) ∧ IsRow W1 (w.heap.size + 1) ∧ IsRow W1 (w.heap.size + 2) ∧ IsRow W1 (w.heap.size + 3) ∧ IsRow W1 (w.heap.size + 4) := by rw [e1]; simp [go_sem]
 obtain ⟨r3_1, r4_1, r5_1, r6_1, r7_1⟩ := R1
 have C1 := (⟨congrArg (blk · (w.heap.size)) e1, congrArg (blk · (w.heap.size + 1)) e1, congrArg (blk · (w.heap.size + 2)) e1, congrArg (blk · (w.heap.size + 3)) e1, congrArg (blk · (w.heap.size + 4)) e1⟩ : _ ∧ _ ∧ _ ∧ _ ∧ _); simp [go_sem] at C1
 obtain ⟨c3_1, c4_1, c5_1, c6_1, c7_1⟩ := C1
 have z3_1 := isRow_lt r3_1; have z4_1 := isRow_lt r4_1; have z5_1 := isRow_lt r5_1; have z6_1 := isRow_lt r6_1; have z7_1 := isRow_lt r7_1
 clear e1
 go_loopw [11] (fun s11 wr => ∃ i : Nat, i ≤ d ∧ s11 = .int .i64 i ∧ Below w.heap.size w wr ∧ (IsRow wr (w.heap.size) ∧ blk wr (w.heap.size) = blk W1 (w.heap.size)) ∧ (IsRow wr (w.heap.size + 1) ∧ blk wr (w.heap.size + 1) = blk W1 (w.heap.size + 1)) ∧ (IsRow wr (w.heap.size + 2) ∧ blk wr (w.heap.size + 2) = blk W1 (w.heap.size + 2)) ∧ (IsRow wr (w.heap.size + 3) ∧ blk wr (w.heap.size + 3) = blk W1 (w.heap.size + 3)) ∧ (IsRow wr (w.heap.size + 4) ∧ blk wr (w.heap.size + 4) = row 8 (prK p c v u i))) (fun s11 _ => d - (intOf s11).toNat)
 case atStart => exact ⟨0, by omega, rfl, hb1, ⟨r3_1, rfl⟩, ⟨r4_1, rfl⟩, ⟨r5_1, rfl⟩, ⟨r6_1, rfl⟩, ⟨r7_1, c7_1.trans (pr_zero p c v u)⟩⟩
 case round =>
  obtain ⟨i, hle2, rfl, hb2, ⟨r3_2, c3_2⟩, ⟨r4_2, c4_2⟩, ⟨r5_2, c5_2⟩, ⟨r6_2, c6_2⟩, ⟨r7_2, c7_2⟩⟩ := hrel
  obtain ⟨W2, rfl⟩ : ∃ W2 : World, W2 = wr := ⟨_, rfl⟩
  have q2 := hb2.size
  have E3_2 := Lib.hid c3_1; replace c3_2 := c3_2.trans c3_1
  have z3_2 := isRow_lt r3_2
  have E4_2 := Lib.hid c4_1; replace c4_2 := c4_2.trans c4_1
  have z4_2 := isRow_lt r4_2
  have E5_2 := Lib.hid c5_1; replace c5_2 := c5_2.trans c5_1
  have z5_2 := isRow_lt r5_2
  have E6_2 := Lib.hid c6_1; replace c6_2 := c6_2.trans c6_1
  have z6_2 := isRow_lt r6_2
  have z7_2 := isRow_lt r7_2
  clear r3_1 c3_1 z3_1 r4_1 c4_1 z4_1 r5_1 c5_1 z5_1 r6_1 c6_1 z6_1 r7_1 c7_1 z7_1 hb1
  by_cases hlt2 : i < d
  ·
   have i0_2 : (0 : Int) ≤ (i : Int) := by omega
   have i8_2 : (i : Int) < 8 := by omega
   have k8_2 : i < 8 := by omega
   have m8_2 : i * 8 + 8 ≤ 64 := by omega
   have m64_2 : i * 64 + 64 ≤ 512 := by omega
   have l1_2 : 10 + i * 64 + 64 ≤ 522 := by omega
   have b1 := (Hv.out i (by omega)).1
   have b2 := (Hv.out i (by omega)).2
   have hlc : c * i + c ≤ 8 := prod8 hdc (by omega)
   obtain ⟨lo, hlo⟩ : ∃ lo : Nat, lo = c * i := ⟨_, rfl⟩
   rw [← hlo] at hlc
   have eq1 : (c : Int) * i = (lo : Int) := by rw [hlo, Int.natCast_mul]
   have q1 : IntKind.i64.wrap ((c : Int) * i) = (lo : Int) := by rw [eq1]; exact IntWalk.i64_in _ (by omega)
   obtain ⟨hi, hhi⟩ : ∃ hi : Nat, hi = lo + c := ⟨_, rfl⟩
   have q2 : IntKind.i64.wrap ((c : Int) * ((i : Int) + 1)) = (hi : Int) := by rw [Int.mul_add, Int.mul_one, eq1, IntWalk.i64_in _ (by omega)]; omega
   have q7 : IntKind.i64.wrap ((i : Int) + 1) = (i : Int) + 1 := IntWalk.i64_in _ (by omega)
   have hs1 := fun b w => sliceMid b lo c hi (by omega) hlc hhi w
   have hs2 := fun b w => sliceTo b c he w
   have HLO := Lib.hid hlo
   clear hlo eq1 hhi
   go_wp2
   refine wp_quiet_tail 18 (Below W2.heap.size W2) (by kernel_rfl) (by kernel_rfl) (Below.refl _ _).drew ?_
   simp only [List.take_succ_cons, List.take_zero, List.drop_succ_cons, List.drop_zero]
   iterate 18 (refine q_plain rfl ?_; apply Exists.intro; refine ⟨fun W hW => ?_, ?_⟩; (focus (obtain ⟨x3, y3⟩ := keepB hW z3_2 r3_2 c3_2; obtain ⟨x4, y4⟩ := keepB hW z4_2 r4_2 c4_2; obtain ⟨x5, y5⟩ := keepB hW z5_2 r5_2 c5_2; obtain ⟨x6, y6⟩ := keepB hW z6_2 r6_2 c6_2; obtain ⟨x7, y7⟩ := keepB hW z7_2 r7_2 c7_2; go_simp; first | done | rfl)); simp only [Act.put, List.setIfInBounds_toArray, List.set_cons_zero, List.set_cons_succ])
   refine wpQuiet_nil ?_
   intro W3 hw3
   obtain ⟨r3_3, c3_3, z3_3⟩ := keepZ hw3 z3_2 r3_2 c3_2
   obtain ⟨r4_3, c4_3, z4_3⟩ := keepZ hw3 z4_2 r4_2 c4_2
   obtain ⟨r5_3, c5_3, z5_3⟩ := keepZ hw3 z5_2 r5_2 c5_2
   obtain ⟨r6_3, c6_3, z6_3⟩ := keepZ hw3 z6_2 r6_2 c6_2
   obtain ⟨r7_3, c7_3, z7_3⟩ := keepZ hw3 z7_2 r7_2 c7_2
   obtain ⟨hb3, q3⟩ := bN hb2 hw3
   clear hw3 r3_2 c3_2 z3_2 r4_2 c4_2 z4_2 r5_2 c5_2 z5_2 r6_2 c6_2 z6_2 r7_2 c7_2 z7_2 hb2
   go_wp2_with fail
   refine (addMultiple_any p (v i) _ lo 8 c _ _ _ 0 (prK p c v u i) u _ hp hp' b1 b2 r7_3 c7_3 hlc (by omega) (fun t _ _ => prK_range hp c v u i t) (byte_at (N := 8) (off' := 0) (m := c) c5_3 (by omega) (fun t _ => by rw [Nat.zero_add]) HU.out) (by omega)).mono ?_; rintro _ _ ⟨rfl, rfl⟩
   go_wp2
   go_roundw
   case rel => exact ⟨i + 1, by omega, by go_num, bt, ⟨by simp [go_sem, r3_3, c3_3, r4_3, c4_3, r5_3, c5_3, r6_3, c6_3, r7_3, c7_3], (by rw [E3_2.out]; first | exact c3_3 | (simp [go_sem, r3_3, c3_3, r4_3, c4_3, r5_3, c5_3, r6_3, c6_3, r7_3, c7_3]; done))⟩, ⟨by simp [go_sem, r3_3, c3_3, r4_3, c4_3, r5_3, c5_3, r6_3, c6_3, r7_3, c7_3], (by rw [E4_2.out]; first | exact c4_3 | (simp [go_sem, r3_3, c3_3, r4_3, c4_3, r5_3, c5_3, r6_3, c6_3, r7_3, c7_3]; done))⟩, ⟨by simp [go_sem, r3_3, c3_3, r4_3, c4_3, r5_3, c5_3, r6_3, c6_3, r7_3, c7_3], (by rw [E5_2.out]; first | exact c5_3 | (simp [go_sem, r3_3, c3_3, r4_3, c4_3, r5_3, c5_3, r6_3, c6_3, r7_3, c7_3]; done))⟩, ⟨by simp [go_sem, r3_3, c3_3, r4_3, c4_3, r5_3, c5_3, r6_3, c6_3, r7_3, c7_3], (by rw [E6_2.out]; first | exact c6_3 | (simp [go_sem, r3_3, c3_3, r4_3, c4_3, r5_3, c5_3, r6_3, c6_3, r7_3, c7_3]; done))⟩, ⟨by simp [go_sem, r3_3, c3_3, r4_3, c4_3, r5_3, c5_3, r6_3, c6_3, r7_3, c7_3], (by first | (rw [blk_setRow _ _ _ _ r7_3, if_pos rfl]; exact pr_step HLO.out) | exact (c7_3).trans (pr_step HLO.out) | (simp [go_sem, r3_3, c3_3, r4_3, c4_3, r5_3, c5_3, r6_3, c6_3, r7_3, c7_3]; exact pr_step HLO.out))⟩⟩
   case measure => simp [intOf]; try omega
  ·
   obtain rfl : d = i := by omega
   go_wp2_with fail
   refine bodyPost_ret (result_cell rfl aggVec _ _ (row 8 (prK p c v u d)) _ rfl ?_ ?_) rfl ⟨rfl, ?_⟩
   · simp [go_sem, r3_2, c3_2, r4_2, c4_2, r5_2, c5_2, r6_2, c6_2, r7_2, c7_2]
   · simp [go_sem, r3_2, c3_2, r4_2, c4_2, r5_2, c5_2, r6_2, c6_2, r7_2, c7_2]
   · exact bt

set_option maxRecDepth 100000 in
set_option maxHeartbeats 1000000 in
theorem both_any (p : Int) (d c : Nat) (v u : Nat → Int) (w : World) (hp : 0 < p) (hp' : p ≤ 255) (hd : d ≤ 8) (he : c ≤ 8) (he1 : 1 ≤ c) (hdc : d * c ≤ 8) (hv : Bytes 8 v) (hu : Bytes 8 u) :
    Calls Tryz.prog 109 #[.int .i64 p, .agg (row 8 v), .agg (row 8 u), .int .i64 d, .int .i64 c] w fun e w' => e = .returned (.agg (row 8 (prK p c v u d))) ∧ Below w.heap.size w w' := by
 have Hv := Lib.hid hv; clear hv
 have Hu := Lib.hid hu; clear hu
 go_enter Tryz.func109, Tryz.ntmps109
 go_wp2
 refine atomW fun W1 e1 => ?_
 have hb1 : Below w.heap.size w W1 := by rw [e1]; exact bt
 have q1 := hb1.size
 have R1 : IsRow W1 (w.heap.size) ∧ IsRow W1 (w.heap.size + 1) ∧ IsRow W1 (w.heap.size + 2) ∧ IsRow W1 (w.heap.size + 3) := by rw [e1]; simp [go_sem]
 obtain ⟨r6_1, r7_1, r10_1, r11_1⟩ := R1
 have C1 := (⟨congrArg (blk · (w.heap.size)) e1, congrArg (blk · (w.heap.size + 1)) e1, congrArg (blk · (w.heap.size + 2)) e1, congrArg (blk · (w.heap.size + 3)) e1⟩ : _ ∧ _ ∧ _ ∧ _); simp [go_sem] at C1
 obtain ⟨c6_1, c7_1, c10_1, c11_1⟩ := C1
 have z6_1 := isRow_lt r6_1; have z7_1 := isRow_lt r7_1; have z10_1 := isRow_lt r10_1; have z11_1 := isRow_lt r11_1
 clear e1
 go_loopw [12] (fun s12 wr => ∃ i : Nat, i ≤ d ∧ s12 = .int .i64 i ∧ Below w.heap.size w wr ∧ (IsRow wr (w.heap.size) ∧ blk wr (w.heap.size) = blk W1 (w.heap.size)) ∧ (IsRow wr (w.heap.size + 1) ∧ blk wr (w.heap.size + 1) = blk W1 (w.heap.size + 1)) ∧ (IsRow wr (w.heap.size + 2) ∧ blk wr (w.heap.size + 2) = blk W1 (w.heap.size + 2)) ∧ (IsRow wr (w.heap.size + 3) ∧ blk wr (w.heap.size + 3) = row 8 (prB p c v u i 0))) (fun s12 _ => d - (intOf s12).toNat)
 case atStart => exact ⟨0, by omega, rfl, hb1, ⟨r6_1, rfl⟩, ⟨r7_1, rfl⟩, ⟨r10_1, rfl⟩, ⟨r11_1, c11_1.trans (prb_zero p c v u)⟩⟩
 case round =>
  obtain ⟨i, hle2, rfl, hb2, ⟨r6_2, c6_2⟩, ⟨r7_2, c7_2⟩, ⟨r10_2, c10_2⟩, ⟨r11_2, c11_2⟩⟩ := hrel
  obtain ⟨W2, rfl⟩ : ∃ W2 : World, W2 = wr := ⟨_, rfl⟩
  have q2 := hb2.size
  have E6_2 := Lib.hid c6_1; replace c6_2 := c6_2.trans c6_1
  have z6_2 := isRow_lt r6_2
  have E7_2 := Lib.hid c7_1; replace c7_2 := c7_2.trans c7_1
  have z7_2 := isRow_lt r7_2
  have E10_2 := Lib.hid c10_1; replace c10_2 := c10_2.trans c10_1
  have z10_2 := isRow_lt r10_2
  have z11_2 := isRow_lt r11_2
  clear r6_1 c6_1 z6_1 r7_1 c7_1 z7_1 r10_1 c10_1 z10_1 r11_1 c11_1 z11_1 hb1
  by_cases hlt2 : i < d
  ·
   have i0_2 : (0 : Int) ≤ (i : Int) := by omega
   have i8_2 : (i : Int) < 8 := by omega
   have k8_2 : i < 8 := by omega
   have m8_2 : i * 8 + 8 ≤ 64 := by omega
   have m64_2 : i * 64 + 64 ≤ 512 := by omega
   have l1_2 : 10 + i * 64 + 64 ≤ 522 := by omega
   have b1 := (Hv.out i (by omega)).1
   have b2 := (Hv.out i (by omega)).2
   have hlc : c * i + c ≤ 8 := prod8 hdc (by omega)
   obtain ⟨lo, hlo⟩ : ∃ lo : Nat, lo = c * i := ⟨_, rfl⟩
   rw [← hlo] at hlc
   have eq1 : (c : Int) * i = (lo : Int) := by rw [hlo, Int.natCast_mul]
   have q1 : IntKind.i64.wrap ((c : Int) * i) = (lo : Int) := by rw [eq1]; exact IntWalk.i64_in _ (by omega)
   have HLO := Lib.hid hlo
   clear hlo eq1
   have q3 : IntKind.i64.wrap (v i) = v i := IntWalk.i64_in _ (by omega)
   go_wp2
   go_loopw [13] (fun s13 wr => ∃ j : Nat, j ≤ c ∧ s13 = .int .i64 j ∧ Below w.heap.size w wr ∧ (IsRow wr (w.heap.size) ∧ blk wr (w.heap.size) = blk W2 (w.heap.size)) ∧ (IsRow wr (w.heap.size + 1) ∧ blk wr (w.heap.size + 1) = blk W2 (w.heap.size + 1)) ∧ (IsRow wr (w.heap.size + 2) ∧ blk wr (w.heap.size + 2) = blk W2 (w.heap.size + 2)) ∧ (IsRow wr (w.heap.size + 3) ∧ blk wr (w.heap.size + 3) = row 8 (prB p c v u i j))) (fun s13 _ => c - (intOf s13).toNat)
   case atStart => exact ⟨0, by omega, rfl, hb2, ⟨r6_2, rfl⟩, ⟨r7_2, rfl⟩, ⟨r10_2, rfl⟩, ⟨r11_2, c11_2⟩⟩
   case round =>
    obtain ⟨j, hle3, rfl, hb3, ⟨r6_3, c6_3⟩, ⟨r7_3, c7_3⟩, ⟨r10_3, c10_3⟩, ⟨r11_3, c11_3⟩⟩ := hrel
    obtain ⟨W3, rfl⟩ : ∃ W3 : World, W3 = wr := ⟨_, rfl⟩
    have q3 := hb3.size
    have E6_3 := Lib.hid c6_2; replace c6_3 := c6_3.trans c6_2
    have z6_3 := isRow_lt r6_3
    have E7_3 := Lib.hid c7_2; replace c7_3 := c7_3.trans c7_2
    have z7_3 := isRow_lt r7_3
    have E10_3 := Lib.hid c10_2; replace c10_3 := c10_3.trans c10_2
    have z10_3 := isRow_lt r10_3
    have z11_3 := isRow_lt r11_3
    clear r6_2 c6_2 z6_2 r7_2 c7_2 z7_2 r10_2 c10_2 z10_2 r11_2 c11_2 z11_2 hb2
    by_cases hlt3 : j < c
    ·
     have i0_3 : (0 : Int) ≤ (j : Int) := by omega
     have i8_3 : (j : Int) < 8 := by omega
     have k8_3 : j < 8 := by omega
     have m8_3 : j * 8 + 8 ≤ 64 := by omega
     have m64_3 : j * 64 + 64 ≤ 512 := by omega
     have l1_3 : 10 + j * 64 + 64 ≤ 522 := by omega
     have l2_3i : 10 + i * 64 + j * 8 + 8 ≤ 522 := by omega
     have l3_3i : 10 + j * 64 + i * 8 + 8 ≤ 522 := by omega
     have l4_3i : i * 64 + j * 8 + 8 ≤ 512 := by omega
     have l5_3i : j * 64 + i * 8 + 8 ≤ 512 := by omega
     have l6_3i : i * 8 + j < 64 := by omega
     have l7_3i : j * 8 + i < 64 := by omega
     have b3 := (Hu.out j (by omega)).1
     have b4 := (Hu.out j (by omega)).2
     have b5 := prod_le (v i) (u j) 255 255 b1 b3 b2 b4
     have q4 : IntKind.i64.wrap (u j) = u j := IntWalk.i64_in _ (by omega)
     have q5 : IntKind.i64.wrap (v i * u j) = v i * u j := IntWalk.i64_in _ (by omega)
     obtain ⟨s, hs⟩ : ∃ s : Nat, s = lo + j := ⟨_, rfl⟩
     have q6 : IntKind.i64.wrap ((lo : Int) + j) = (s : Int) := by rw [IntWalk.i64_in _ (by omega)]; omega
     have s8 : s < 8 := by omega
     have s9 : (s : Int) < 8 := by omega
     have HSS := Lib.hid (show s = c * i + j by rw [hs, HLO.out])
     clear hs
     go_wp2
     refine wp_quiet_tail 17 (Below W3.heap.size W3) (by kernel_rfl) (by kernel_rfl) (Below.refl _ _).drew ?_
     simp only [List.take_succ_cons, List.take_zero, List.drop_succ_cons, List.drop_zero]
     iterate 15 (refine q_plain rfl ?_; apply Exists.intro; refine ⟨fun W hW => ?_, ?_⟩; (focus (obtain ⟨x6, y6⟩ := keepB hW z6_3 r6_3 c6_3; obtain ⟨x7, y7⟩ := keepB hW z7_3 r7_3 c7_3; obtain ⟨x10, y10⟩ := keepB hW z10_3 r10_3 c10_3; obtain ⟨x11, y11⟩ := keepB hW z11_3 r11_3 c11_3; go_simp; first | done | rfl)); simp only [Act.put, List.setIfInBounds_toArray, List.set_cons_zero, List.set_cons_succ])
     (refine q_plain rfl ?_; apply Exists.intro; refine ⟨fun W hW => ?_, ?_⟩; (focus (obtain ⟨x6, y6⟩ := keepB hW z6_3 r6_3 c6_3; obtain ⟨x7, y7⟩ := keepB hW z7_3 r7_3 c7_3; obtain ⟨x10, y10⟩ := keepB hW z10_3 r10_3 c10_3; obtain ⟨x11, y11⟩ := keepB hW z11_3 r11_3 c11_3; go_simp; (go_at_call 68; exact (l01Mod_any p (v i * u j) _ hp hp' (by omega) (by omega)).mono fun e w2 ⟨he, hw2⟩ => ⟨he, hw2 ▸ hW⟩))); simp only [Act.put, List.setIfInBounds_toArray, List.set_cons_zero, List.set_cons_succ])
     iterate 1 (refine q_plain rfl ?_; apply Exists.intro; refine ⟨fun W hW => ?_, ?_⟩; (focus (obtain ⟨x6, y6⟩ := keepB hW z6_3 r6_3 c6_3; obtain ⟨x7, y7⟩ := keepB hW z7_3 r7_3 c7_3; obtain ⟨x10, y10⟩ := keepB hW z10_3 r10_3 c10_3; obtain ⟨x11, y11⟩ := keepB hW z11_3 r11_3 c11_3; go_simp; first | done | rfl)); simp only [Act.put, List.setIfInBounds_toArray, List.set_cons_zero, List.set_cons_succ])
     refine wpQuiet_nil ?_
     intro W4 hw4
     obtain ⟨r6_4, c6_4, z6_4⟩ := keepZ hw4 z6_3 r6_3 c6_3
     obtain ⟨r7_4, c7_4, z7_4⟩ := keepZ hw4 z7_3 r7_3 c7_3
     obtain ⟨r10_4, c10_4, z10_4⟩ := keepZ hw4 z10_3 r10_3 c10_3
     obtain ⟨r11_4, c11_4, z11_4⟩ := keepZ hw4 z11_3 r11_3 c11_3
     obtain ⟨hb4, q4⟩ := bN hb3 hw4
     clear hw4 r6_3 c6_3 z6_3 r7_3 c7_3 z7_3 r10_3 c10_3 z10_3 r11_3 c11_3 z11_3 hb3
     go_wp2
     go_roundw
     case rel => exact ⟨j + 1, by omega, by go_num, bt, ⟨by simp [go_sem, r6_4, c6_4, r7_4, c7_4, r10_4, c10_4, r11_4, c11_4], (by rw [E6_3.out]; first | exact c6_4 | (simp [go_sem, r6_4, c6_4, r7_4, c7_4, r10_4, c10_4, r11_4, c11_4]; done))⟩, ⟨by simp [go_sem, r6_4, c6_4, r7_4, c7_4, r10_4, c10_4, r11_4, c11_4], (by rw [E7_3.out]; first | exact c7_4 | (simp [go_sem, r6_4, c6_4, r7_4, c7_4, r10_4, c10_4, r11_4, c11_4]; done))⟩, ⟨by simp [go_sem, r6_4, c6_4, r7_4, c7_4, r10_4, c10_4, r11_4, c11_4], (by rw [E10_3.out]; first | exact c10_4 | (simp [go_sem, r6_4, c6_4, r7_4, c7_4, r10_4, c10_4, r11_4, c11_4]; done))⟩, ⟨by simp [go_sem, r6_4, c6_4, r7_4, c7_4, r10_4, c10_4, r11_4, c11_4], (by first | (rw [blk_setRow _ _ _ _ r11_4, if_pos rfl]; exact prb_step HSS.out (by omega)) | exact (c11_4).trans (prb_step HSS.out (by omega)) | (simp [go_sem, r6_4, c6_4, r7_4, c7_4, r10_4, c10_4, r11_4, c11_4]; exact prb_step HSS.out (by omega)))⟩⟩
     case measure => simp [intOf]; try omega
    ·
     obtain rfl : c = j := by omega
     go_wp2
     go_roundw
     case rel => exact ⟨i + 1, by omega, by go_num, bt, ⟨by simp [go_sem, r6_3, c6_3, r7_3, c7_3, r10_3, c10_3, r11_3, c11_3], (by rw [E6_2.out]; first | exact c6_3 | (simp [go_sem, r6_3, c6_3, r7_3, c7_3, r10_3, c10_3, r11_3, c11_3]; done))⟩, ⟨by simp [go_sem, r6_3, c6_3, r7_3, c7_3, r10_3, c10_3, r11_3, c11_3], (by rw [E7_2.out]; first | exact c7_3 | (simp [go_sem, r6_3, c6_3, r7_3, c7_3, r10_3, c10_3, r11_3, c11_3]; done))⟩, ⟨by simp [go_sem, r6_3, c6_3, r7_3, c7_3, r10_3, c10_3, r11_3, c11_3], (by rw [E10_2.out]; first | exact c10_3 | (simp [go_sem, r6_3, c6_3, r7_3, c7_3, r10_3, c10_3, r11_3, c11_3]; done))⟩, ⟨by simp [go_sem, r6_3, c6_3, r7_3, c7_3, r10_3, c10_3, r11_3, c11_3], (by first | exact (c11_3).trans (prb_row p _ v u i) | (simp [go_sem, r6_3, c6_3, r7_3, c7_3, r10_3, c10_3, r11_3, c11_3]; exact prb_row p _ v u i))⟩⟩
     case measure => simp [intOf]; try omega
  ·
   obtain rfl : d = i := by omega
   rw [prb_end] at c11_2
   go_wp2_with fail
   refine bodyPost_ret (result_cell rfl aggVec _ _ (row 8 (prK p c v u d)) _ rfl ?_ ?_) rfl ⟨rfl, ?_⟩
   · simp [go_sem, r6_2, c6_2, r7_2, c7_2, r10_2, c10_2, r11_2, c11_2]
   · simp [go_sem, r6_2, c6_2, r7_2, c7_2, r10_2, c10_2, r11_2, c11_2]
   · exact bt

set_option maxRecDepth 100000 in
set_option maxHeartbeats 1000000 in
theorem tendim_any (p : Int) (n d c D : Nat) (f F G : Nat → Int) (w : World) (hd : d ≤ 8) (he : c ≤ 8) (hD : D = d * c) :
    Calls Tryz.prog 236 #[.agg (hopx p n f #[.iface 41 (.agg (mdl d F)), .iface 41 (.agg (mdl c G))])] w fun e w' => e = .returned (.int .i64 D) ∧ Below w.heap.size w w' := by
 have hm : d * c ≤ 8 * 8 := Nat.mul_le_mul hd he
 have q0 : IntKind.i64.wrap ((d : Int) * c) = D := by rw [show (d : Int) * c = (D : Int) by rw [hD, Int.natCast_mul]]; exact IntWalk.i64_in _ (by omega)
 clear hD hm
 go_enter Tryz.func236, Tryz.ntmps236
 go_wp2
 refine atomW fun W1 e1 => ?_
 have hb1 : Below w.heap.size w W1 := by rw [e1]; exact bt
 have q1 := hb1.size
 have r1_1 : IsRow W1 (w.heap.size) := by rw [e1]; simp [go_sem]
 have c1_1 := congrArg (fun x => blk x (w.heap.size)) e1; simp [go_sem] at c1_1
 have z1_1 := isRow_lt r1_1
 clear e1
 refine wp_quiet_all (Below W1.heap.size W1) (by kernel_rfl) (by kernel_rfl) (Below.refl _ _).drew ?_
 iterate 2 (refine q_plain rfl ?_; apply Exists.intro; refine ⟨fun W hW => ?_, ?_⟩; (focus (obtain ⟨x1, y1⟩ := keepB hW z1_1 r1_1 c1_1; go_simp; first | done | rfl)); simp only [Act.put, List.setIfInBounds_toArray, List.set_cons_zero, List.set_cons_succ])
 (refine q_plain rfl ?_; apply Exists.intro; refine ⟨fun W hW => ?_, ?_⟩; (focus (obtain ⟨x1, y1⟩ := keepB hW z1_1 r1_1 c1_1; go_simp; (go_at_call 232; exact (mdim_any d F _).mono fun e w2 ⟨he, hw2⟩ => ⟨he, hW.trans (hw2.mono hW.size)⟩))); simp only [Act.put, List.setIfInBounds_toArray, List.set_cons_zero, List.set_cons_succ])
 iterate 2 (refine q_plain rfl ?_; apply Exists.intro; refine ⟨fun W hW => ?_, ?_⟩; (focus (obtain ⟨x1, y1⟩ := keepB hW z1_1 r1_1 c1_1; go_simp; first | done | rfl)); simp only [Act.put, List.setIfInBounds_toArray, List.set_cons_zero, List.set_cons_succ])
 (refine q_plain rfl ?_; apply Exists.intro; refine ⟨fun W hW => ?_, ?_⟩; (focus (obtain ⟨x1, y1⟩ := keepB hW z1_1 r1_1 c1_1; go_simp; (go_at_call 232; exact (mdim_any c G _).mono fun e w2 ⟨he, hw2⟩ => ⟨he, hW.trans (hw2.mono hW.size)⟩))); simp only [Act.put, List.setIfInBounds_toArray, List.set_cons_zero, List.set_cons_succ])
 iterate 2 (refine q_plain rfl ?_; apply Exists.intro; refine ⟨fun W hW => ?_, ?_⟩; (focus (obtain ⟨x1, y1⟩ := keepB hW z1_1 r1_1 c1_1; go_simp; first | done | rfl)); simp only [Act.put, List.setIfInBounds_toArray, List.set_cons_zero, List.set_cons_succ])
 refine wpQuiet_nil ?_
 intro W2 hw2
 obtain ⟨r1_2, c1_2, z1_2⟩ := keepZ hw2 z1_1 r1_1 c1_1
 obtain ⟨hb2, q2⟩ := bN hb1 hw2
 clear hw2 r1_1 c1_1 z1_1 hb1
 go_wp2_with fail
 go_ret
 exact ⟨rfl, bt⟩

set_option maxRecDepth 100000 in
set_option maxHeartbeats 4000000 in
theorem tenimage_any (p : Int) (n d c i j x y : Nat) (f F G : Nat → Int) (w : World) (hp : 0 < p) (hp' : p ≤ 255) (hp2 : 2 ≤ p) (hn : n ≤ 8) (hd : d ≤ 8) (he : c ≤ 8) (he1 : 1 ≤ c) (hf : Bytes 1104 f) (hF : Bytes 512 F) (hG : Bytes 512 G) (hdc : d * c ≤ 8) (hx : x = j / c) (hy : y = j % c) (hi : i < 8) (hj : j < 8) :
    Calls Tryz.prog 237 #[.agg (hopx p n f #[.iface 41 (.agg (mdl d F)), .iface 41 (.agg (mdl c G))]), .int .i64 i, .int .i64 j] w fun e w' => e = .returned (.agg (row 8 (tnK p n d c f F G i x y n 0))) ∧ Below w.heap.size w w' := by
 have Hf := Lib.hid hf; clear hf
 have HF := Lib.hid hF; clear hF
 have HG := Lib.hid hG; clear hG
 have Hx := Lib.hid hx; clear hx
 have Hy := Lib.hid hy; clear hy
 have hx8 : x < 8 := by rw [Hx.out]; exact Nat.lt_of_le_of_lt (Nat.div_le_self _ _) hj
 have hy8 : y < 8 := by rw [Hy.out]; exact Nat.lt_of_le_of_lt (Nat.mod_le _ _) hj
 have q0 : Int.tdiv (j : Int) (c : Int) = (x : Int) := by rw [Hx.out]; rfl
 have q1 : Int.tmod (j : Int) (c : Int) = (y : Int) := by rw [Hy.out]; rfl
 have q2 : IntKind.i64.wrap (x : Int) = (x : Int) := IntWalk.i64_in _ (by omega)
 have q3 : IntKind.i64.wrap (y : Int) = (y : Int) := IntWalk.i64_in _ (by omega)
 have q4 : ¬ (c : Int) = 0 := by omega
 have q5 : ¬ c = 0 := by omega
 go_enter Tryz.func237, Tryz.ntmps237
 go_wp2
 refine atomW fun W1 e1 => ?_
 have hb1 : Below w.heap.size w W1 := by rw [e1]; exact bt
 have q1 := hb1.size
 have R1 : IsRow W1 (w.heap.size) ∧ IsRow W1 (w.heap.size + 1) := by rw [e1]; simp [go_sem]
 obtain ⟨r3_1, r6_1⟩ := R1
 have C1 := (⟨congrArg (blk · (w.heap.size)) e1, congrArg (blk · (w.heap.size + 1)) e1⟩ : _ ∧ _); simp [go_sem] at C1
 obtain ⟨c3_1, c6_1⟩ := C1
 have z3_1 := isRow_lt r3_1; have z6_1 := isRow_lt r6_1
 clear e1
 refine wp_quiet_all (Below W1.heap.size W1) (by kernel_rfl) (by kernel_rfl) (Below.refl _ _).drew ?_
 iterate 5 (refine q_plain rfl ?_; apply Exists.intro; refine ⟨fun W hW => ?_, ?_⟩; (focus (obtain ⟨x3, y3⟩ := keepB hW z3_1 r3_1 c3_1; obtain ⟨x6, y6⟩ := keepB hW z6_1 r6_1 c6_1; go_simp; first | done | rfl)); simp only [Act.put, List.setIfInBounds_toArray, List.set_cons_zero, List.set_cons_succ])
 (refine q_plain rfl ?_; apply Exists.intro; refine ⟨fun W hW => ?_, ?_⟩; (focus (obtain ⟨x3, y3⟩ := keepB hW z3_1 r3_1 c3_1; obtain ⟨x6, y6⟩ := keepB hW z6_1 r6_1 c6_1; go_simp; (go_at_call 232; exact (mdim_any c G _).mono fun e w2 ⟨he, hw2⟩ => ⟨he, hW.trans (hw2.mono hW.size)⟩))); simp only [Act.put, List.setIfInBounds_toArray, List.set_cons_zero, List.set_cons_succ])
 iterate 2 (refine q_plain rfl ?_; apply Exists.intro; refine ⟨fun W hW => ?_, ?_⟩; (focus (obtain ⟨x3, y3⟩ := keepB hW z3_1 r3_1 c3_1; obtain ⟨x6, y6⟩ := keepB hW z6_1 r6_1 c6_1; go_simp; first | done | rfl)); simp only [Act.put, List.setIfInBounds_toArray, List.set_cons_zero, List.set_cons_succ])
 refine wpQuiet_nil ?_
 intro W2 hw2
 obtain ⟨r3_2, c3_2, z3_2⟩ := keepZ hw2 z3_1 r3_1 c3_1
 obtain ⟨r6_2, c6_2, z6_2⟩ := keepZ hw2 z6_1 r6_1 c6_1
 obtain ⟨hb2, q2⟩ := bN hb1 hw2
 clear hw2 r3_1 c3_1 z3_1 r6_1 c6_1 z6_1 hb1
 go_wp2_with fail
 refine (mdim_any d F _).mono ?_; rintro _ W3 ⟨rfl, hw3⟩
 obtain ⟨r3_3, c3_3, z3_3⟩ := keepZ hw3 z3_2 r3_2 c3_2
 obtain ⟨r6_3, c6_3, z6_3⟩ := keepZ hw3 z6_2 r6_2 c6_2
 obtain ⟨hb3, q3⟩ := bN hb2 hw3
 clear hw3 r3_2 c3_2 z3_2 r6_2 c6_2 z6_2 hb2
 go_wp2
 have nw3_W3_0 : (w.heap.size) ≠ W3.heap.size := by omega
 have nw3_W3_1 : (w.heap.size) ≠ W3.heap.size + 1 := by omega
 have nw6_W3_0 : (w.heap.size + 1) ≠ W3.heap.size := by omega
 have nw6_W3_1 : (w.heap.size + 1) ≠ W3.heap.size + 1 := by omega
 refine atomW fun W4 e4 => ?_
 have hb4 : Below w.heap.size w W4 := by rw [e4]; exact bt
 have q4 := hb4.size
 have R4 : IsRow W4 (w.heap.size) ∧ IsRow W4 (w.heap.size + 1) ∧ IsRow W4 (W3.heap.size) ∧ IsRow W4 (W3.heap.size + 1) := by rw [e4]; simp [go_sem, r3_3, c3_3, r6_3, c6_3, nw3_W3_0, nw3_W3_1, nw6_W3_0, nw6_W3_1]
 obtain ⟨r3_4, r6_4, r9_4, r10_4⟩ := R4
 have C4 := (⟨congrArg (blk · (w.heap.size)) e4, congrArg (blk · (w.heap.size + 1)) e4, congrArg (blk · (W3.heap.size)) e4, congrArg (blk · (W3.heap.size + 1)) e4⟩ : _ ∧ _ ∧ _ ∧ _); simp [go_sem, r3_3, c3_3, r6_3, c6_3, nw3_W3_0, nw3_W3_1, nw6_W3_0, nw6_W3_1] at C4
 obtain ⟨c3_4, c6_4, c9_4, c10_4⟩ := C4
 have z3_4 := isRow_lt r3_4; have z6_4 := isRow_lt r6_4; have z9_4 := isRow_lt r9_4; have z10_4 := isRow_lt r10_4
 have n3_9 : (w.heap.size) ≠ (W3.heap.size) := by omega
 have n3_10 : (w.heap.size) ≠ (W3.heap.size + 1) := by omega
 have n6_9 : (w.heap.size + 1) ≠ (W3.heap.size) := by omega
 have n6_10 : (w.heap.size + 1) ≠ (W3.heap.size + 1) := by omega
 have n9_3 : (W3.heap.size) ≠ (w.heap.size) := by omega
 have n9_6 : (W3.heap.size) ≠ (w.heap.size + 1) := by omega
 have n10_3 : (W3.heap.size + 1) ≠ (w.heap.size) := by omega
 have n10_6 : (W3.heap.size + 1) ≠ (w.heap.size + 1) := by omega
 clear e4 nw3_W3_0 nw3_W3_1 nw6_W3_0 nw6_W3_1 r3_3 c3_3 z3_3 r6_3 c6_3 z6_3 hb3
 go_loopw [29] (fun s29 wr => ∃ a : Nat, a ≤ n ∧ s29 = .int .i64 a ∧ Below w.heap.size w wr ∧ (IsRow wr (w.heap.size) ∧ blk wr (w.heap.size) = blk W4 (w.heap.size)) ∧ (IsRow wr (w.heap.size + 1) ∧ blk wr (w.heap.size + 1) = blk W4 (w.heap.size + 1)) ∧ (IsRow wr (W3.heap.size) ∧ blk wr (W3.heap.size) = blk W4 (W3.heap.size)) ∧ (IsRow wr (W3.heap.size + 1) ∧ blk wr (W3.heap.size + 1) = row 8 (tnK p n d c f F G i x y a 0))) (fun s29 _ => n - (intOf s29).toNat)
 case atStart => exact ⟨0, by omega, rfl, hb4, ⟨r3_4, rfl⟩, ⟨r6_4, rfl⟩, ⟨r9_4, rfl⟩, ⟨r10_4, c10_4.trans (tn_zero p n d c f F G i x y)⟩⟩
 case round =>
  obtain ⟨a, hle5, rfl, hb5, ⟨r3_5, c3_5⟩, ⟨r6_5, c6_5⟩, ⟨r9_5, c9_5⟩, ⟨r10_5, c10_5⟩⟩ := hrel
  obtain ⟨W5, rfl⟩ : ∃ W5 : World, W5 = wr := ⟨_, rfl⟩
  have q5 := hb5.size
  have E3_5 := Lib.hid c3_4; replace c3_5 := c3_5.trans c3_4
  have z3_5 := isRow_lt r3_5
  have E6_5 := Lib.hid c6_4; replace c6_5 := c6_5.trans c6_4
  have z6_5 := isRow_lt r6_5
  have E9_5 := Lib.hid c9_4; replace c9_5 := c9_5.trans c9_4
  have z9_5 := isRow_lt r9_5
  have z10_5 := isRow_lt r10_5
  clear r3_4 c3_4 z3_4 r6_4 c6_4 z6_4 r9_4 c9_4 z9_4 r10_4 c10_4 z10_4 hb4
  by_cases hlt5 : a < n
  ·
   have i0_5 : (0 : Int) ≤ (a : Int) := by omega
   have i8_5 : (a : Int) < 8 := by omega
   have k8_5 : a < 8 := by omega
   have m8_5 : a * 8 + 8 ≤ 64 := by omega
   have m64_5 : a * 64 + 64 ≤ 512 := by omega
   have l1_5 : 10 + a * 64 + 64 ≤ 522 := by omega
   have A1 := Lib.hid (act_bytes HF.out (i := a) (j := x) (by omega) hx8)
   go_wp2
   go_loopw [35] (fun s35 wr => ∃ b : Nat, b ≤ n ∧ s35 = .int .i64 b ∧ Below w.heap.size w wr ∧ (IsRow wr (w.heap.size) ∧ blk wr (w.heap.size) = blk W5 (w.heap.size)) ∧ (IsRow wr (w.heap.size + 1) ∧ blk wr (w.heap.size + 1) = blk W5 (w.heap.size + 1)) ∧ (IsRow wr (W3.heap.size) ∧ blk wr (W3.heap.size) = blk W5 (W3.heap.size)) ∧ (IsRow wr (W3.heap.size + 1) ∧ blk wr (W3.heap.size + 1) = row 8 (tnK p n d c f F G i x y a b))) (fun s35 _ => n - (intOf s35).toNat)
   case atStart => exact ⟨0, by omega, rfl, hb5, ⟨r3_5, rfl⟩, ⟨r6_5, rfl⟩, ⟨r9_5, rfl⟩, ⟨r10_5, c10_5⟩⟩
   case round =>
    obtain ⟨b, hle6, rfl, hb6, ⟨r3_6, c3_6⟩, ⟨r6_6, c6_6⟩, ⟨r9_6, c9_6⟩, ⟨r10_6, c10_6⟩⟩ := hrel
    obtain ⟨W6, rfl⟩ : ∃ W6 : World, W6 = wr := ⟨_, rfl⟩
    have q6 := hb6.size
    have E3_6 := Lib.hid c3_5; replace c3_6 := c3_6.trans c3_5
    have z3_6 := isRow_lt r3_6
    have E6_6 := Lib.hid c6_5; replace c6_6 := c6_6.trans c6_5
    have z6_6 := isRow_lt r6_6
    have E9_6 := Lib.hid c9_5; replace c9_6 := c9_6.trans c9_5
    have z9_6 := isRow_lt r9_6
    have z10_6 := isRow_lt r10_6
    clear r3_5 c3_5 z3_5 r6_5 c6_5 z6_5 r9_5 c9_5 z9_5 r10_5 c10_5 z10_5 hb5
    by_cases hlt6 : b < n
    ·
     have i0_6 : (0 : Int) ≤ (b : Int) := by omega
     have i8_6 : (b : Int) < 8 := by omega
     have k8_6 : b < 8 := by omega
     have m8_6 : b * 8 + 8 ≤ 64 := by omega
     have m64_6 : b * 64 + 64 ≤ 512 := by omega
     have l1_6 : 10 + b * 64 + 64 ≤ 522 := by omega
     have l2_6a : 10 + a * 64 + b * 8 + 8 ≤ 522 := by omega
     have l3_6a : 10 + b * 64 + a * 8 + 8 ≤ 522 := by omega
     have l4_6a : a * 64 + b * 8 + 8 ≤ 512 := by omega
     have l5_6a : b * 64 + a * 8 + 8 ≤ 512 := by omega
     have l6_6a : a * 8 + b < 64 := by omega
     have l7_6a : b * 8 + a < 64 := by omega
     have A2 := Lib.hid (act_bytes HG.out (i := b) (j := y) (by omega) hy8)
     have A3 := Lib.hid (prK_bytes hp hp' c (act F a x) (act G b y) d)
     have e1 : (hopx p n f #[.iface 41 (.agg (mdl d F)), .iface 41 (.agg (mdl c G))])[530 + i * 64 + a * 8 + b]? = some (.int .u8 (mtab (coF f) i a b)) := (hopx_at p n f _ (by omega)).trans (hop_comq p n f i a b hi (by omega) (by omega))
     have e2 := fun h => el_of e1 h
     have b0 := mtab_bt (co_bytes Hf.out) (i := i) (j := a) (by omega) (by omega) b (by omega)
     have b1 := b0.1
     have b2 := b0.2
     have m1 : 530 + i * 64 + a * 8 + b < 1108 := by omega
     have m2 : 530 + i * 64 + 64 ≤ 1108 := by omega
     have m3 : 530 + i * 64 + a * 8 + 8 ≤ 1108 := by omega
     have i8 : (i : Int) < 8 := by omega
     have m4 : 530 + i * 64 + a * 8 + b + 1 ≤ 1108 := by omega
     go_wp2
     refine wp_quiet_alloc 20 _ (.cells (row 8 zf) 29) (Below W6.heap.size W6) (Made W6 (row 8 zf)) (by kernel_rfl) rfl rfl (by kernel_rfl) (fun a W => (xallocVec _ _ _ _ _ _ _).trans (allocVec W)) (closed_below W6) (closed_made W6 _) (fun b W h => h.1) (fun W h => made_new W6 _ _ W h) (Below.refl _ _).drew ?_
     simp only [List.take_succ_cons, List.take_zero, List.drop_succ_cons, List.drop_zero]
     iterate 9 (refine e_plain rfl ?_; apply Exists.intro; refine ⟨fun D hD hK W hW => ?_, ?_⟩; (focus (obtain ⟨x3, y3⟩ := keepB (hD W hW) z3_6 r3_6 c3_6; obtain ⟨x6, y6⟩ := keepB (hD W hW) z6_6 r6_6 c6_6; obtain ⟨x9, y9⟩ := keepB (hD W hW) z9_6 r9_6 c9_6; obtain ⟨x10, y10⟩ := keepB (hD W hW) z10_6 r10_6 c10_6; unfold Oper.quietAt; go_simp; first | done | rfl)); simp only [Act.put, List.setIfInBounds_toArray, List.set_cons_zero, List.set_cons_succ])
     (refine e_plain rfl ?_; apply Exists.intro; refine ⟨fun D hD hK W hW => ?_, ?_⟩; (focus (obtain ⟨x3, y3⟩ := keepB (hD W hW) z3_6 r3_6 c3_6; obtain ⟨x6, y6⟩ := keepB (hD W hW) z6_6 r6_6 c6_6; obtain ⟨x9, y9⟩ := keepB (hD W hW) z9_6 r9_6 c9_6; obtain ⟨x10, y10⟩ := keepB (hD W hW) z10_6 r10_6 c10_6; unfold Oper.quietAt; go_simp; (go_at_call 233; exact (mimage_any d F a x _ (by omega) hx8).mono fun e w2 ⟨he, hw2⟩ => ⟨he, hK _ _ hW hw2⟩))); simp only [Act.put, List.setIfInBounds_toArray, List.set_cons_zero, List.set_cons_succ])
     iterate 8 (refine e_plain rfl ?_; apply Exists.intro; refine ⟨fun D hD hK W hW => ?_, ?_⟩; (focus (obtain ⟨x3, y3⟩ := keepB (hD W hW) z3_6 r3_6 c3_6; obtain ⟨x6, y6⟩ := keepB (hD W hW) z6_6 r6_6 c6_6; obtain ⟨x9, y9⟩ := keepB (hD W hW) z9_6 r9_6 c9_6; obtain ⟨x10, y10⟩ := keepB (hD W hW) z10_6 r10_6 c10_6; unfold Oper.quietAt; go_simp; first | done | rfl)); simp only [Act.put, List.setIfInBounds_toArray, List.set_cons_zero, List.set_cons_succ])
     (refine e_plain rfl ?_; apply Exists.intro; refine ⟨fun D hD hK W hW => ?_, ?_⟩; (focus (obtain ⟨x3, y3⟩ := keepB (hD W hW) z3_6 r3_6 c3_6; obtain ⟨x6, y6⟩ := keepB (hD W hW) z6_6 r6_6 c6_6; obtain ⟨x9, y9⟩ := keepB (hD W hW) z9_6 r9_6 c9_6; obtain ⟨x10, y10⟩ := keepB (hD W hW) z10_6 r10_6 c10_6; unfold Oper.quietAt; go_simp; (go_at_call 233; exact (mimage_any c G b y _ (by omega) hy8).mono fun e w2 ⟨he, hw2⟩ => ⟨he, hK _ _ hW hw2⟩))); simp only [Act.put, List.setIfInBounds_toArray, List.set_cons_zero, List.set_cons_succ])
     (refine e_plain rfl ?_; apply Exists.intro; refine ⟨fun D hD hK W hW => ?_, ?_⟩; (focus (obtain ⟨x3, y3⟩ := keepB (hD W hW) z3_6 r3_6 c3_6; obtain ⟨x6, y6⟩ := keepB (hD W hW) z6_6 r6_6 c6_6; obtain ⟨x9, y9⟩ := keepB (hD W hW) z9_6 r9_6 c9_6; obtain ⟨x10, y10⟩ := keepB (hD W hW) z10_6 r10_6 c10_6; unfold Oper.quietAt; go_simp; (go_at_call 238; exact (vectors_any p d c (act F a x) (act G b y) _ hp hp' hd he he1 hdc A1.out A2.out).mono fun e w2 ⟨he, hw2⟩ => ⟨he, hK _ _ hW hw2⟩))); simp only [Act.put, List.setIfInBounds_toArray, List.set_cons_zero, List.set_cons_succ])
     refine e_nil ?_
     intro a7 W7 hW7
     obtain ⟨hw7, hl7, m1_7, m2_7⟩ := hW7
     have n3_13 : (w.heap.size) ≠ (a7) := by have := z3_6; omega
     have n13_3 : (a7) ≠ (w.heap.size) := by have := z3_6; omega
     have n6_13 : (w.heap.size + 1) ≠ (a7) := by have := z6_6; omega
     have n13_6 : (a7) ≠ (w.heap.size + 1) := by have := z6_6; omega
     have n9_13 : (W3.heap.size) ≠ (a7) := by have := z9_6; omega
     have n13_9 : (a7) ≠ (W3.heap.size) := by have := z9_6; omega
     have n10_13 : (W3.heap.size + 1) ≠ (a7) := by have := z10_6; omega
     have n13_10 : (a7) ≠ (W3.heap.size + 1) := by have := z10_6; omega
     obtain ⟨r3_7, c3_7, z3_7⟩ := keepZ hw7 z3_6 r3_6 c3_6
     obtain ⟨r6_7, c6_7, z6_7⟩ := keepZ hw7 z6_6 r6_6 c6_6
     obtain ⟨r9_7, c9_7, z9_7⟩ := keepZ hw7 z9_6 r9_6 c9_6
     obtain ⟨r10_7, c10_7, z10_7⟩ := keepZ hw7 z10_6 r10_6 c10_6
     obtain ⟨hb7, q7⟩ := bN hb6 hw7
     clear hw7 r3_6 c3_6 z3_6 r6_6 c6_6 z6_6 r9_6 c9_6 z9_6 r10_6 c10_6 z10_6 hb6
     have z13_7 := isRow_lt m1_7
     simp only [Act.put, List.setIfInBounds_toArray, List.set_cons_zero, List.set_cons_succ]
     go_wp2
     refine atomW fun W8 e8 => ?_
     have hb8 : Below w.heap.size w W8 := by rw [e8]; exact bt
     have q8 := hb8.size
     have R8 : IsRow W8 (w.heap.size) ∧ IsRow W8 (w.heap.size + 1) ∧ IsRow W8 (W3.heap.size) ∧ IsRow W8 (W3.heap.size + 1) ∧ IsRow W8 (a7) := by rw [e8]; simp [go_sem, r3_7, c3_7, n3_9, n3_10, n3_13, r6_7, c6_7, n6_9, n6_10, n6_13, r9_7, c9_7, n9_3, n9_6, n9_13, r10_7, c10_7, n10_3, n10_6, n10_13, m1_7, m2_7, n13_3, n13_6, n13_9, n13_10]
     obtain ⟨r3_8, r6_8, r9_8, r10_8, r13_8⟩ := R8
     have C8 := (⟨congrArg (blk · (w.heap.size)) e8, congrArg (blk · (w.heap.size + 1)) e8, congrArg (blk · (W3.heap.size)) e8, congrArg (blk · (W3.heap.size + 1)) e8, congrArg (blk · (a7)) e8⟩ : _ ∧ _ ∧ _ ∧ _ ∧ _); simp [go_sem, r3_7, c3_7, n3_9, n3_10, n3_13, r6_7, c6_7, n6_9, n6_10, n6_13, r9_7, c9_7, n9_3, n9_6, n9_13, r10_7, c10_7, n10_3, n10_6, n10_13, m1_7, m2_7, n13_3, n13_6, n13_9, n13_10] at C8
     obtain ⟨c3_8, c6_8, c9_8, c10_8, c13_8⟩ := C8
     have z3_8 := isRow_lt r3_8; have z6_8 := isRow_lt r6_8; have z9_8 := isRow_lt r9_8; have z10_8 := isRow_lt r10_8; have z13_8 := isRow_lt r13_8
     clear e8 r3_7 c3_7 z3_7 r6_7 c6_7 z6_7 r9_7 c9_7 z9_7 r10_7 c10_7 z10_7 m1_7 m2_7 z13_7 hb7
     refine wp_quiet_tail 12 (Below W8.heap.size W8) (by kernel_rfl) (by kernel_rfl) (Below.refl _ _).drew ?_
     simp only [List.take_succ_cons, List.take_zero, List.drop_succ_cons, List.drop_zero]
     iterate 12 (refine q_plain rfl ?_; apply Exists.intro; refine ⟨fun W hW => ?_, ?_⟩; (focus (obtain ⟨x3, y3⟩ := keepB hW z3_8 r3_8 c3_8; obtain ⟨x6, y6⟩ := keepB hW z6_8 r6_8 c6_8; obtain ⟨x9, y9⟩ := keepB hW z9_8 r9_8 c9_8; obtain ⟨x10, y10⟩ := keepB hW z10_8 r10_8 c10_8; obtain ⟨x13, y13⟩ := keepB hW z13_8 r13_8 c13_8; go_simp; first | done | rfl)); simp only [Act.put, List.setIfInBounds_toArray, List.set_cons_zero, List.set_cons_succ])
     refine wpQuiet_nil ?_
     intro W9 hw9
     obtain ⟨r3_9, c3_9, z3_9⟩ := keepZ hw9 z3_8 r3_8 c3_8
     obtain ⟨r6_9, c6_9, z6_9⟩ := keepZ hw9 z6_8 r6_8 c6_8
     obtain ⟨r9_9, c9_9, z9_9⟩ := keepZ hw9 z9_8 r9_8 c9_8
     obtain ⟨r10_9, c10_9, z10_9⟩ := keepZ hw9 z10_8 r10_8 c10_8
     obtain ⟨r13_9, c13_9, z13_9⟩ := keepZ hw9 z13_8 r13_8 c13_8
     obtain ⟨hb9, q9⟩ := bN hb8 hw9
     clear hw9 r3_8 c3_8 z3_8 r6_8 c6_8 z6_8 r9_8 c9_8 z9_8 r10_8 c10_8 z10_8 r13_8 c13_8 z13_8 hb8
     go_wp2_with fail
     refine (addMultiple_any p _ _ 0 8 8 _ _ _ 0 (tnK p n d c f F G i x y a b) (prK p c (act F a x) (act G b y) d) _ hp hp' b1 b2 r10_9 c10_9 (by omega) (by omega) (fun t _ _ => tnK_range hp _ _ _ _ _ _ _ _ _ _ _ t) (byte_at (N := 8) (off' := 0) c13_9 (by omega) (fun t _ => by rw [Nat.zero_add]) A3.out) (by omega)).mono ?_; rintro _ _ ⟨rfl, rfl⟩
     go_wp2
     go_roundw
     case rel => exact ⟨b + 1, by omega, by go_num, bt, ⟨by simp [go_sem, r3_9, c3_9, n3_9, n3_10, n3_13, r6_9, c6_9, n6_9, n6_10, n6_13, r9_9, c9_9, n9_3, n9_6, n9_13, r10_9, c10_9, n10_3, n10_6, n10_13, r13_9, c13_9, n13_3, n13_6, n13_9, n13_10], (by rw [E3_6.out]; first | exact c3_9 | (simp [go_sem, r3_9, c3_9, n3_9, n3_10, n3_13, r6_9, c6_9, n6_9, n6_10, n6_13, r9_9, c9_9, n9_3, n9_6, n9_13, r10_9, c10_9, n10_3, n10_6, n10_13, r13_9, c13_9, n13_3, n13_6, n13_9, n13_10]; done))⟩, ⟨by simp [go_sem, r3_9, c3_9, n3_9, n3_10, n3_13, r6_9, c6_9, n6_9, n6_10, n6_13, r9_9, c9_9, n9_3, n9_6, n9_13, r10_9, c10_9, n10_3, n10_6, n10_13, r13_9, c13_9, n13_3, n13_6, n13_9, n13_10], (by rw [E6_6.out]; first | exact c6_9 | (simp [go_sem, r3_9, c3_9, n3_9, n3_10, n3_13, r6_9, c6_9, n6_9, n6_10, n6_13, r9_9, c9_9, n9_3, n9_6, n9_13, r10_9, c10_9, n10_3, n10_6, n10_13, r13_9, c13_9, n13_3, n13_6, n13_9, n13_10]; done))⟩, ⟨by simp [go_sem, r3_9, c3_9, n3_9, n3_10, n3_13, r6_9, c6_9, n6_9, n6_10, n6_13, r9_9, c9_9, n9_3, n9_6, n9_13, r10_9, c10_9, n10_3, n10_6, n10_13, r13_9, c13_9, n13_3, n13_6, n13_9, n13_10], (by rw [E9_6.out]; first | exact c9_9 | (simp [go_sem, r3_9, c3_9, n3_9, n3_10, n3_13, r6_9, c6_9, n6_9, n6_10, n6_13, r9_9, c9_9, n9_3, n9_6, n9_13, r10_9, c10_9, n10_3, n10_6, n10_13, r13_9, c13_9, n13_3, n13_6, n13_9, n13_10]; done))⟩, ⟨by simp [go_sem, r3_9, c3_9, n3_9, n3_10, n3_13, r6_9, c6_9, n6_9, n6_10, n6_13, r9_9, c9_9, n9_3, n9_6, n9_13, r10_9, c10_9, n10_3, n10_6, n10_13, r13_9, c13_9, n13_3, n13_6, n13_9, n13_10], (by first | (rw [blk_setRow _ _ _ _ r10_9, if_pos rfl]; exact tn_step p n d c f F G i x y a b) | exact (c10_9).trans (tn_step p n d c f F G i x y a b) | (simp [go_sem, r3_9, c3_9, n3_9, n3_10, n3_13, r6_9, c6_9, n6_9, n6_10, n6_13, r9_9, c9_9, n9_3, n9_6, n9_13, r10_9, c10_9, n10_3, n10_6, n10_13, r13_9, c13_9, n13_3, n13_6, n13_9, n13_10]; exact tn_step p n d c f F G i x y a b))⟩⟩
     case measure => simp [intOf]; try omega
    ·
     obtain rfl : n = b := by omega
     go_wp2
     go_roundw
     case rel => exact ⟨a + 1, by omega, by go_num, bt, ⟨by simp [go_sem, r3_6, c3_6, n3_9, n3_10, r6_6, c6_6, n6_9, n6_10, r9_6, c9_6, n9_3, n9_6, r10_6, c10_6, n10_3, n10_6], (by rw [E3_5.out]; first | exact c3_6 | (simp [go_sem, r3_6, c3_6, n3_9, n3_10, r6_6, c6_6, n6_9, n6_10, r9_6, c9_6, n9_3, n9_6, r10_6, c10_6, n10_3, n10_6]; done))⟩, ⟨by simp [go_sem, r3_6, c3_6, n3_9, n3_10, r6_6, c6_6, n6_9, n6_10, r9_6, c9_6, n9_3, n9_6, r10_6, c10_6, n10_3, n10_6], (by rw [E6_5.out]; first | exact c6_6 | (simp [go_sem, r3_6, c3_6, n3_9, n3_10, r6_6, c6_6, n6_9, n6_10, r9_6, c9_6, n9_3, n9_6, r10_6, c10_6, n10_3, n10_6]; done))⟩, ⟨by simp [go_sem, r3_6, c3_6, n3_9, n3_10, r6_6, c6_6, n6_9, n6_10, r9_6, c9_6, n9_3, n9_6, r10_6, c10_6, n10_3, n10_6], (by rw [E9_5.out]; first | exact c9_6 | (simp [go_sem, r3_6, c3_6, n3_9, n3_10, r6_6, c6_6, n6_9, n6_10, r9_6, c9_6, n9_3, n9_6, r10_6, c10_6, n10_3, n10_6]; done))⟩, ⟨by simp [go_sem, r3_6, c3_6, n3_9, n3_10, r6_6, c6_6, n6_9, n6_10, r9_6, c9_6, n9_3, n9_6, r10_6, c10_6, n10_3, n10_6], (by first | exact (c10_6).trans (tn_row p _ d c f F G i x y a) | (simp [go_sem, r3_6, c3_6, n3_9, n3_10, r6_6, c6_6, n6_9, n6_10, r9_6, c9_6, n9_3, n9_6, r10_6, c10_6, n10_3, n10_6]; exact tn_row p _ d c f F G i x y a))⟩⟩
     case measure => simp [intOf]; try omega
  ·
   obtain rfl : n = a := by omega
   go_wp2_with fail
   refine bodyPost_ret (result_cell rfl aggVec _ _ (row 8 (tnK p n d c f F G i x y n 0)) _ rfl ?_ ?_) rfl ⟨rfl, ?_⟩
   · simp [go_sem, r3_5, c3_5, n3_9, n3_10, r6_5, c6_5, n6_9, n6_10, r9_5, c9_5, n9_3, n9_6, r10_5, c10_5, n10_3, n10_6]
   · simp [go_sem, r3_5, c3_5, n3_9, n3_10, r6_5, c6_5, n6_9, n6_10, r9_5, c9_5, n9_3, n9_6, r10_5, c10_5, n10_3, n10_6]
   · exact bt

set_option maxRecDepth 100000 in
set_option maxHeartbeats 1000000 in
theorem moduleOf_ten (p : Int) (n d c D : Nat) (f F G : Nat → Int) (w : World) (hp : 0 < p) (hp' : p ≤ 255) (hp2 : 2 ≤ p) (hn : n ≤ 8) (hd : d ≤ 8) (he : c ≤ 8) (he1 : 1 ≤ c) (hf : Bytes 1104 f) (hF : Bytes 512 F) (hG : Bytes 512 G) (hD : D = d * c) (h8 : D ≤ 8) :
    Calls Tryz.prog 85 #[.agg (hop p n f), .iface 89 (.agg (hopx p n f #[.iface 41 (.agg (mdl d F)), .iface 41 (.agg (mdl c G))]))] w fun e w' => e = .returned (.agg (mdl D (finM n D (tnG p n d c f F G)))) ∧ Below w.heap.size w w' := by
 have Hf := Lib.hid hf; clear hf
 have HF := Lib.hid hF; clear hF
 have HG := Lib.hid hG; clear hG
 have HD := Lib.hid hD; clear hD
 go_enter Tryz.func85, Tryz.ntmps85
 go_wp2_with fail
 refine atomC fun W1 e1 => ?_
 have hb1 : Below w.heap.size w W1 := by rw [e1]; exact bt
 have q1 := hb1.size
 have R1 : IsRow W1 (w.heap.size) ∧ IsRow W1 (w.heap.size + 1) := by rw [e1]; simp [go_sem]
 obtain ⟨r2_1, r4_1⟩ := R1
 have C1 := (⟨congrArg (blk · (w.heap.size)) e1, congrArg (blk · (w.heap.size + 1)) e1⟩ : _ ∧ _); simp [go_sem] at C1
 obtain ⟨c2_1, c4_1⟩ := C1
 have z2_1 := isRow_lt r2_1; have z4_1 := isRow_lt r4_1
 clear e1
 refine (tendim_any p n d c D f F G _ hd he HD.out).mono ?_; rintro _ W2 ⟨rfl, hw2⟩
 obtain ⟨r2_2, c2_2, z2_2⟩ := keepZ hw2 z2_1 r2_1 c2_1
 obtain ⟨r4_2, c4_2, z4_2⟩ := keepZ hw2 z4_1 r4_1 c4_1
 obtain ⟨hb2, q2⟩ := bN hb1 hw2
 clear hw2 r2_1 c2_1 z2_1 r4_1 c4_1 z4_1 hb1
 go_wp2
 have nw4_W2_0 : (w.heap.size + 1) ≠ W2.heap.size := by omega
 refine atomW fun W3 e3 => ?_
 have hb3 : Below w.heap.size w W3 := by rw [e3]; exact bt
 have q3 := hb3.size
 have R3 : IsRow W3 (w.heap.size + 1) ∧ IsRow W3 (W2.heap.size) := by rw [e3]; simp [go_sem, r4_2, c4_2, nw4_W2_0, r2_2]
 obtain ⟨r4_3, r5_3⟩ := R3
 have C3 := (⟨congrArg (blk · (w.heap.size + 1)) e3, congrArg (blk · (W2.heap.size)) e3⟩ : _ ∧ _); simp [go_sem, r4_2, c4_2, nw4_W2_0, r2_2] at C3
 obtain ⟨c4_3, c5_3⟩ := C3
 have z4_3 := isRow_lt r4_3; have z5_3 := isRow_lt r5_3
 have n4_5 : (w.heap.size + 1) ≠ (W2.heap.size) := by omega
 have n5_4 : (W2.heap.size) ≠ (w.heap.size + 1) := by omega
 clear e3 nw4_W2_0 r4_2 c4_2 z4_2 hb2
 go_loopw [13] (fun s13 wr => ∃ i : Nat, i ≤ n ∧ s13 = .int .i64 i ∧ Below w.heap.size w wr ∧ (IsRow wr (w.heap.size + 1) ∧ blk wr (w.heap.size + 1) = blk W3 (w.heap.size + 1)) ∧ (IsRow wr (W2.heap.size) ∧ blk wr (W2.heap.size) = mdl D (finK D (tnG p n d c f F G) i 0))) (fun s13 _ => n - (intOf s13).toNat)
 case atStart => exact ⟨0, by omega, rfl, hb3, ⟨r4_3, rfl⟩, ⟨r5_3, c5_3.trans (fin_zero D D (tnG p n d c f F G))⟩⟩
 case round =>
  obtain ⟨i, hle4, rfl, hb4, ⟨r4_4, c4_4⟩, ⟨r5_4, c5_4⟩⟩ := hrel
  obtain ⟨W4, rfl⟩ : ∃ W4 : World, W4 = wr := ⟨_, rfl⟩
  have q4 := hb4.size
  have E4_4 := Lib.hid c4_3; replace c4_4 := c4_4.trans c4_3
  have z4_4 := isRow_lt r4_4
  have z5_4 := isRow_lt r5_4
  clear r4_3 c4_3 z4_3 r5_3 c5_3 z5_3 hb3
  by_cases hlt4 : i < n
  ·
   have i0_4 : (0 : Int) ≤ (i : Int) := by omega
   have i8_4 : (i : Int) < 8 := by omega
   have k8_4 : i < 8 := by omega
   have m8_4 : i * 8 + 8 ≤ 64 := by omega
   have m64_4 : i * 64 + 64 ≤ 512 := by omega
   have l1_4 : 10 + i * 64 + 64 ≤ 522 := by omega
   go_wp2_with fail
   refine (tendim_any p n d c D f F G _ hd he HD.out).mono ?_; rintro _ W5 ⟨rfl, hw5⟩
   obtain ⟨r4_5, c4_5, z4_5⟩ := keepZ hw5 z4_4 r4_4 c4_4
   obtain ⟨r5_5, c5_5, z5_5⟩ := keepZ hw5 z5_4 r5_4 c5_4
   obtain ⟨hb5, q5⟩ := bN hb4 hw5
   clear hw5 r4_4 c4_4 z4_4 r5_4 c5_4 z5_4 hb4
   go_wp2
   go_loopw [18] (fun s18 wr => ∃ j : Nat, j ≤ D ∧ s18 = .int .i64 j ∧ Below w.heap.size w wr ∧ (IsRow wr (w.heap.size + 1) ∧ blk wr (w.heap.size + 1) = blk W5 (w.heap.size + 1)) ∧ (IsRow wr (W2.heap.size) ∧ blk wr (W2.heap.size) = mdl D (finK D (tnG p n d c f F G) i j))) (fun s18 _ => D - (intOf s18).toNat)
   case atStart => exact ⟨0, by omega, rfl, hb5, ⟨r4_5, rfl⟩, ⟨r5_5, c5_5⟩⟩
   case round =>
    obtain ⟨j, hle6, rfl, hb6, ⟨r4_6, c4_6⟩, ⟨r5_6, c5_6⟩⟩ := hrel
    obtain ⟨W6, rfl⟩ : ∃ W6 : World, W6 = wr := ⟨_, rfl⟩
    have q6 := hb6.size
    have E4_6 := Lib.hid c4_5; replace c4_6 := c4_6.trans c4_5
    have z4_6 := isRow_lt r4_6
    have z5_6 := isRow_lt r5_6
    clear r4_5 c4_5 z4_5 r5_5 c5_5 z5_5 hb5
    by_cases hlt6 : j < D
    ·
     have i0_6 : (0 : Int) ≤ (j : Int) := by omega
     have i8_6 : (j : Int) < 8 := by omega
     have k8_6 : j < 8 := by omega
     have m8_6 : j * 8 + 8 ≤ 64 := by omega
     have m64_6 : j * 64 + 64 ≤ 512 := by omega
     have l1_6 : 10 + j * 64 + 64 ≤ 522 := by omega
     have l2_6i : 10 + i * 64 + j * 8 + 8 ≤ 522 := by omega
     have l3_6i : 10 + j * 64 + i * 8 + 8 ≤ 522 := by omega
     have l4_6i : i * 64 + j * 8 + 8 ≤ 512 := by omega
     have l5_6i : j * 64 + i * 8 + 8 ≤ 512 := by omega
     have l6_6i : i * 8 + j < 64 := by omega
     have l7_6i : j * 8 + i < 64 := by omega
     have l6 : 1 + i * 64 + 64 ≤ 513 := by omega
     have l7 : 1 + i * 64 + j * 8 + 8 ≤ 513 := by omega
     go_wp2
     refine wp_quiet_tail 9 (Below W6.heap.size W6) (by kernel_rfl) (by kernel_rfl) (Below.refl _ _).drew ?_
     simp only [List.take_succ_cons, List.take_zero, List.drop_succ_cons, List.drop_zero]
     iterate 5 (refine q_plain rfl ?_; apply Exists.intro; refine ⟨fun W hW => ?_, ?_⟩; (focus (obtain ⟨x4, y4⟩ := keepB hW z4_6 r4_6 c4_6; obtain ⟨x5, y5⟩ := keepB hW z5_6 r5_6 c5_6; go_simp; first | done | rfl)); simp only [Act.put, List.setIfInBounds_toArray, List.set_cons_zero, List.set_cons_succ])
     (refine q_plain rfl ?_; apply Exists.intro; refine ⟨fun W hW => ?_, ?_⟩; (focus (obtain ⟨x4, y4⟩ := keepB hW z4_6 r4_6 c4_6; obtain ⟨x5, y5⟩ := keepB hW z5_6 r5_6 c5_6; go_simp; (go_at_call 237; exact (tenimage_any p n d c i j (j / c) (j % c) f F G _ hp hp' hp2 hn hd he he1 Hf.out HF.out HG.out (by rw [← HD.out]; exact h8) rfl rfl (by omega) (by omega)).mono fun e w2 ⟨he, hw2⟩ => ⟨he, hW.trans (hw2.mono hW.size)⟩))); simp only [Act.put, List.setIfInBounds_toArray, List.set_cons_zero, List.set_cons_succ])
     iterate 3 (refine q_plain rfl ?_; apply Exists.intro; refine ⟨fun W hW => ?_, ?_⟩; (focus (obtain ⟨x4, y4⟩ := keepB hW z4_6 r4_6 c4_6; obtain ⟨x5, y5⟩ := keepB hW z5_6 r5_6 c5_6; go_simp; first | done | rfl)); simp only [Act.put, List.setIfInBounds_toArray, List.set_cons_zero, List.set_cons_succ])
     refine wpQuiet_nil ?_
     intro W7 hw7
     obtain ⟨r4_7, c4_7, z4_7⟩ := keepZ hw7 z4_6 r4_6 c4_6
     obtain ⟨r5_7, c5_7, z5_7⟩ := keepZ hw7 z5_6 r5_6 c5_6
     obtain ⟨hb7, q7⟩ := bN hb6 hw7
     clear hw7 r4_6 c4_6 z4_6 r5_6 c5_6 z5_6 hb6
     go_wp2
     go_roundw
     case rel => exact ⟨j + 1, by omega, by go_num, bt, ⟨by simp [go_sem, r4_7, c4_7, n4_5, r5_7, c5_7, n5_4], (by rw [E4_6.out]; first | exact c4_7 | (simp [go_sem, r4_7, c4_7, n4_5, r5_7, c5_7, n5_4]; done))⟩, ⟨by simp [go_sem, r4_7, c4_7, n4_5, r5_7, c5_7, n5_4], (by first | (rw [blk_setRow _ _ _ _ r5_7, if_pos rfl]; exact fin_step (by omega) (by omega) (by omega)) | exact (c5_7).trans (fin_step (by omega) (by omega) (by omega)) | (simp [go_sem, r4_7, c4_7, n4_5, r5_7, c5_7, n5_4]; exact fin_step (by omega) (by omega) (by omega)))⟩⟩
     case measure => simp [intOf]; try omega
    ·
     obtain rfl : D = j := by omega
     go_wp2
     go_roundw
     case rel => exact ⟨i + 1, by omega, by go_num, bt, ⟨by simp [go_sem, r4_6, c4_6, n4_5, r5_6, c5_6, n5_4], (by rw [E4_4.out]; first | exact c4_6 | (simp [go_sem, r4_6, c4_6, n4_5, r5_6, c5_6, n5_4]; done))⟩, ⟨by simp [go_sem, r4_6, c4_6, n4_5, r5_6, c5_6, n5_4], (by first | exact (c5_6).trans (fin_row _ _ _ _) | (simp [go_sem, r4_6, c4_6, n4_5, r5_6, c5_6, n5_4]; exact fin_row _ _ _ _))⟩⟩
     case measure => simp [intOf]; try omega
  ·
   obtain rfl : n = i := by omega
   rw [fin_end] at c5_4
   go_wp2_with fail
   refine bodyPost_ret (result_cell rfl aggMod _ _ (mdl D (finM n D (tnG p n d c f F G))) _ rfl ?_ ?_) rfl ⟨rfl, ?_⟩
   · simp [go_sem, r4_4, c4_4, n4_5, r5_4, c5_4, n5_4]
   · simp [go_sem, r4_4, c4_4, n4_5, r5_4, c5_4, n5_4]
   · exact bt

set_option maxRecDepth 100000 in
set_option maxHeartbeats 1000000 in
theorem withinTen_no (p : Int) (n d c D : Nat) (f F G : Nat → Int) (w : World) (hp : 0 < p) (hp' : p ≤ 255) (hp2 : 2 ≤ p) (hn : n ≤ 8) (hd : d ≤ 8) (he : c ≤ 8) (he1 : 1 ≤ c) (hf : Bytes 1104 f) (hF : Bytes 512 F) (hG : Bytes 512 G) (hD : D = d * c) (h8 : 8 < D) :
    Calls Tryz.prog 58 #[.agg (hop p n f), .iface 89 (.agg (hopx p n f #[.iface 41 (.agg (mdl d F)), .iface 41 (.agg (mdl c G))]))] w fun e w' => e = .returned (.tuple #[.agg (mdl 0 zf), .int .i64 3]) ∧ Below w.heap.size w w' := by
 have Hf := Lib.hid hf; clear hf
 have HF := Lib.hid hF; clear hF
 have HG := Lib.hid hG; clear hG
 have HD := Lib.hid hD; clear hD
 have y1 : decide (8 < D) = true := decide_eq_true h8
 have y2 : decide ((8 : Int) < (D : Int)) = true := decide_eq_true (by omega)
 go_enter Tryz.func58, Tryz.ntmps58
 go_wp2_with fail
 refine atomC fun W1 e1 => ?_
 have hb1 : Below w.heap.size w W1 := by rw [e1]; exact bt
 have q1 := hb1.size
 have R1 : IsRow W1 (w.heap.size) ∧ IsRow W1 (w.heap.size + 1) := by rw [e1]; simp [go_sem]
 obtain ⟨r2_1, r4_1⟩ := R1
 have C1 := (⟨congrArg (blk · (w.heap.size)) e1, congrArg (blk · (w.heap.size + 1)) e1⟩ : _ ∧ _); simp [go_sem] at C1
 obtain ⟨c2_1, c4_1⟩ := C1
 have z2_1 := isRow_lt r2_1; have z4_1 := isRow_lt r4_1
 clear e1
 refine (tendim_any p n d c D f F G _ hd he HD.out).mono ?_; rintro _ W2 ⟨rfl, hw2⟩
 obtain ⟨r2_2, c2_2, z2_2⟩ := keepZ hw2 z2_1 r2_1 c2_1
 obtain ⟨r4_2, c4_2, z4_2⟩ := keepZ hw2 z4_1 r4_1 c4_1
 obtain ⟨hb2, q2⟩ := bN hb1 hw2
 clear hw2 r2_1 c2_1 z2_1 r4_1 c4_1 z4_1 hb1
 go_wp2_with fail
 refine bodyPost_ret (result_cell_tmp rfl aggMod _ _ (mdl 0 zf) _ _ rfl rfl ?_ ?_) rfl ⟨by rfl, ?_⟩
 · simp [go_sem, r2_2, c2_2, r4_2, c4_2]
 · simp [go_sem, r2_2, c2_2, r4_2, c4_2]
 · exact bt

set_option maxRecDepth 100000 in
set_option maxHeartbeats 1000000 in
theorem withinTen_yes (p : Int) (n d c D : Nat) (f F G : Nat → Int) (w : World) (hp : 0 < p) (hp' : p ≤ 255) (hp2 : 2 ≤ p) (hn : n ≤ 8) (hd : d ≤ 8) (he : c ≤ 8) (he1 : 1 ≤ c) (hf : Bytes 1104 f) (hF : Bytes 512 F) (hG : Bytes 512 G) (hD : D = d * c) (h8 : D ≤ 8) :
    Calls Tryz.prog 58 #[.agg (hop p n f), .iface 89 (.agg (hopx p n f #[.iface 41 (.agg (mdl d F)), .iface 41 (.agg (mdl c G))]))] w fun e w' => e = .returned (.tuple #[.agg (mdl D (finM n D (tnG p n d c f F G))), .int .i64 0]) ∧ Below w.heap.size w w' := by
 have Hf := Lib.hid hf; clear hf
 have HF := Lib.hid hF; clear hF
 have HG := Lib.hid hG; clear hG
 have HD := Lib.hid hD; clear hD
 have y1 : decide (8 < D) = false := decide_eq_false (by omega)
 have y2 : decide ((8 : Int) < (D : Int)) = false := decide_eq_false (by omega)
 go_enter Tryz.func58, Tryz.ntmps58
 go_wp2_with fail
 refine atomC fun W1 e1 => ?_
 have hb1 : Below w.heap.size w W1 := by rw [e1]; exact bt
 have q1 := hb1.size
 have R1 : IsRow W1 (w.heap.size) ∧ IsRow W1 (w.heap.size + 1) := by rw [e1]; simp [go_sem]
 obtain ⟨r2_1, r4_1⟩ := R1
 have C1 := (⟨congrArg (blk · (w.heap.size)) e1, congrArg (blk · (w.heap.size + 1)) e1⟩ : _ ∧ _); simp [go_sem] at C1
 obtain ⟨c2_1, c4_1⟩ := C1
 have z2_1 := isRow_lt r2_1; have z4_1 := isRow_lt r4_1
 clear e1
 refine (tendim_any p n d c D f F G _ hd he HD.out).mono ?_; rintro _ W2 ⟨rfl, hw2⟩
 obtain ⟨r2_2, c2_2, z2_2⟩ := keepZ hw2 z2_1 r2_1 c2_1
 obtain ⟨r4_2, c4_2, z4_2⟩ := keepZ hw2 z4_1 r4_1 c4_1
 obtain ⟨hb2, q2⟩ := bN hb1 hw2
 clear hw2 r2_1 c2_1 z2_1 r4_1 c4_1 z4_1 hb1
 go_wp2_with fail
 refine (moduleOf_ten p n d c D f F G _ hp hp' hp2 hn hd he he1 Hf.out HF.out HG.out HD.out h8).mono ?_; rintro _ W3 ⟨rfl, hw3⟩
 obtain ⟨r4_3, c4_3, z4_3⟩ := keepZ hw3 z4_2 r4_2 c4_2
 obtain ⟨hb3, q3⟩ := bN hb2 hw3
 clear hw3 r4_2 c4_2 z4_2 hb2
 go_wp2_with fail
 refine bodyPost_ret (result_cell_tmp rfl aggMod _ _ (mdl D (finM n D (tnG p n d c f F G))) _ _ rfl rfl ?_ ?_) rfl ⟨by rfl, ?_⟩
 · simp [go_sem, r4_3, c4_3]
 · simp [go_sem, r4_3, c4_3]
 · exact bt

set_option maxRecDepth 100000 in
set_option maxHeartbeats 1000000 in
theorem implTen_any (p n : Int) (f : Nat → Int) (d c : Int) (F G : Nat → Int) (w : World) (hf : Bytes 1104 f) (hF : Bytes 512 F) (hG : Bytes 512 G) :
    Calls Tryz.prog 22 #[.agg (hop p n f), .agg (mdl d F), .agg (mdl c G)] w fun e w' => e = .returned (.tuple #[.agg (mdl (onlyI (limOk (hm2 p n f d c F G) (d * c)) (d * c)) (onlyF (limOk (hm2 p n f d c F G) (d * c)) (finM n.toNat (d * c).toNat (tnG p n.toNat d.toNat c.toNat f F G)))), .int .i64 (limC (hm2 p n f d c F G) (d * c))]) ∧ Below w.heap.size w w' := by
 have Hf := Lib.hid hf; clear hf
 have HF := Lib.hid hF; clear hF
 have HG := Lib.hid hG; clear hG
 cases hc : hm2 p n f d c F G
 ·
  have H := Lib.hid (lim_no1 (ok := false) (D := d * c) rfl)
  go_enter Tryz.func22, Tryz.ntmps22
  go_wp2_with fail
  refine atomC fun W1 e1 => ?_
  have hb1 : Below w.heap.size w W1 := by rw [e1]; exact bt
  have q1 := hb1.size
  have R1 : IsRow W1 (w.heap.size) ∧ IsRow W1 (w.heap.size + 1) ∧ IsRow W1 (w.heap.size + 2) ∧ IsRow W1 (w.heap.size + 3) ∧ IsRow W1 (w.heap.size + 4) := by rw [e1]; simp [go_sem]
  obtain ⟨r3_1, r4_1, r5_1, r6_1, r11_1⟩ := R1
  have C1 := (⟨congrArg (blk · (w.heap.size)) e1, congrArg (blk · (w.heap.size + 1)) e1, congrArg (blk · (w.heap.size + 2)) e1, congrArg (blk · (w.heap.size + 3)) e1, congrArg (blk · (w.heap.size + 4)) e1⟩ : _ ∧ _ ∧ _ ∧ _ ∧ _); simp [go_sem] at C1
  obtain ⟨c3_1, c4_1, c5_1, c6_1, c11_1⟩ := C1
  have z3_1 := isRow_lt r3_1; have z4_1 := isRow_lt r4_1; have z5_1 := isRow_lt r5_1; have z6_1 := isRow_lt r6_1; have z11_1 := isRow_lt r11_1
  clear e1
  refine (areMod2 p n f d c F G _ _ Hf.out HF.out HG.out r11_1 c11_1).mono ?_; rintro _ W2 ⟨rfl, hw2⟩
  obtain ⟨r3_2, c3_2, z3_2⟩ := keepZ hw2 z3_1 r3_1 c3_1
  obtain ⟨r4_2, c4_2, z4_2⟩ := keepZ hw2 z4_1 r4_1 c4_1
  obtain ⟨r5_2, c5_2, z5_2⟩ := keepZ hw2 z5_1 r5_1 c5_1
  obtain ⟨r6_2, c6_2, z6_2⟩ := keepZ hw2 z6_1 r6_1 c6_1
  obtain ⟨r11_2, c11_2, z11_2⟩ := keepZ hw2 z11_1 r11_1 c11_1
  obtain ⟨hb2, q2⟩ := bN hb1 hw2
  clear hw2 r3_1 c3_1 z3_1 r4_1 c4_1 z4_1 r5_1 c5_1 z5_1 r6_1 c6_1 z6_1 r11_1 c11_1 z11_1 hb1
  go_wp2_with fail
  refine bodyPost_ret (result_cell_tmp rfl aggMod _ _ (mdl 0 zf) _ _ rfl rfl ?_ ?_) rfl ⟨ret_mod2 (by rw [H.out.2] <;> rfl) H.out.1.symm, ?_⟩
  · simp [go_sem, r3_2, c3_2, r4_2, c4_2, r5_2, c5_2, r6_2, c6_2, r11_2, c11_2]
  · simp [go_sem, r3_2, c3_2, r4_2, c4_2, r5_2, c5_2, r6_2, c6_2, r11_2, c11_2]
  · exact bt
 ·
  by_cases hL : 8 < d * c
  ·
   have H := Lib.hid (lim_no2 (ok := true) rfl hL)
   have hh := (hm2_parts hc).1
   have hm1 := (hm2_parts hc).2.1
   have hm2 := (hm2_parts hc).2.2
   obtain ⟨hp2, hp31, hn1, hn8⟩ := sizes_range (hopf_sizes hh)
   obtain ⟨n, rfl⟩ := Int.eq_ofNat_of_zero_le (show 0 ≤ n by omega)
   have hp : 0 < p := by omega
   have hp' : p ≤ 255 := by omega
   have hn : n ≤ 8 := by omega
   have HH := Lib.hid hh
   rw [Int.toNat_natCast] at hm1 hm2
   obtain ⟨_, _, hd1, hd8⟩ := sizes_range (modB_sizes (hopf_sizes hh) hm1)
   obtain ⟨d, rfl⟩ := Int.eq_ofNat_of_zero_le (show 0 ≤ d by omega)
   have hd : d ≤ 8 := by omega
   have HS := Lib.hid (modB_shape HF.out hm1)
   obtain ⟨_, _, he1, he8⟩ := sizes_range (modB_sizes (hopf_sizes hh) hm2)
   obtain ⟨c, rfl⟩ := Int.eq_ofNat_of_zero_le (show 0 ≤ c by omega)
   have he : c ≤ 8 := by omega
   have HT := Lib.hid (modB_shape HG.out hm2)
   clear hm1 hm2 hh
   obtain ⟨D, hD⟩ : ∃ D : Nat, D = d * c := ⟨_, rfl⟩
   have hDi : (d : Int) * c = (D : Int) := by rw [hD, Int.natCast_mul]
   rw [hDi] at hL
   have HDi := Lib.hid hDi
   have HD := Lib.hid hD
   clear hD hDi
   have h8 : 8 < D := by omega
   go_enter Tryz.func22, Tryz.ntmps22
   go_wp2_with fail
   refine atomC fun W3 e3 => ?_
   have hb3 : Below w.heap.size w W3 := by rw [e3]; exact bt
   have q3 := hb3.size
   have R3 : IsRow W3 (w.heap.size) ∧ IsRow W3 (w.heap.size + 1) ∧ IsRow W3 (w.heap.size + 2) ∧ IsRow W3 (w.heap.size + 3) ∧ IsRow W3 (w.heap.size + 4) := by rw [e3]; simp [go_sem]
   obtain ⟨r3_3, r4_3, r5_3, r6_3, r11_3⟩ := R3
   have C3 := (⟨congrArg (blk · (w.heap.size)) e3, congrArg (blk · (w.heap.size + 1)) e3, congrArg (blk · (w.heap.size + 2)) e3, congrArg (blk · (w.heap.size + 3)) e3, congrArg (blk · (w.heap.size + 4)) e3⟩ : _ ∧ _ ∧ _ ∧ _ ∧ _); simp [go_sem] at C3
   obtain ⟨c3_3, c4_3, c5_3, c6_3, c11_3⟩ := C3
   have z3_3 := isRow_lt r3_3; have z4_3 := isRow_lt r4_3; have z5_3 := isRow_lt r5_3; have z6_3 := isRow_lt r6_3; have z11_3 := isRow_lt r11_3
   clear e3
   refine (areMod2 p n f d c F G _ _ Hf.out HF.out HG.out r11_3 c11_3).mono ?_; rintro _ W4 ⟨rfl, hw4⟩
   obtain ⟨r3_4, c3_4, z3_4⟩ := keepZ hw4 z3_3 r3_3 c3_3
   obtain ⟨r4_4, c4_4, z4_4⟩ := keepZ hw4 z4_3 r4_3 c4_3
   obtain ⟨r5_4, c5_4, z5_4⟩ := keepZ hw4 z5_3 r5_3 c5_3
   obtain ⟨r6_4, c6_4, z6_4⟩ := keepZ hw4 z6_3 r6_3 c6_3
   obtain ⟨r11_4, c11_4, z11_4⟩ := keepZ hw4 z11_3 r11_3 c11_3
   obtain ⟨hb4, q4⟩ := bN hb3 hw4
   clear hw4 r3_3 c3_3 z3_3 r4_3 c4_3 z4_3 r5_3 c5_3 z5_3 r6_3 c6_3 z6_3 r11_3 c11_3 z11_3 hb3
   go_wp2_with fail
   refine (withinTen_no p n d c D f F G _ hp hp' hp2 hn hd he (by omega) Hf.out HF.out HG.out HD.out h8).mono ?_; rintro _ W5 ⟨rfl, hw5⟩
   obtain ⟨r6_5, c6_5, z6_5⟩ := keepZ hw5 z6_4 r6_4 c6_4
   obtain ⟨hb5, q5⟩ := bN hb4 hw5
   clear hw5 r6_4 c6_4 z6_4 hb4
   go_wp2_with fail
   refine bodyPost_ret (result_cell_tmp rfl aggMod _ _ (mdl 0 zf) _ _ rfl rfl ?_ ?_) rfl ⟨ret_mod2 (by rw [H.out.2] <;> rfl) H.out.1.symm, ?_⟩
   · simp [go_sem, r6_5, c6_5]
   · simp [go_sem, r6_5, c6_5]
   · exact bt
  ·
   have H := Lib.hid (lim_yes (ok := true) rfl hL)
   have hh := (hm2_parts hc).1
   have hm1 := (hm2_parts hc).2.1
   have hm2 := (hm2_parts hc).2.2
   obtain ⟨hp2, hp31, hn1, hn8⟩ := sizes_range (hopf_sizes hh)
   obtain ⟨n, rfl⟩ := Int.eq_ofNat_of_zero_le (show 0 ≤ n by omega)
   have hp : 0 < p := by omega
   have hp' : p ≤ 255 := by omega
   have hn : n ≤ 8 := by omega
   have HH := Lib.hid hh
   rw [Int.toNat_natCast] at hm1 hm2
   obtain ⟨_, _, hd1, hd8⟩ := sizes_range (modB_sizes (hopf_sizes hh) hm1)
   obtain ⟨d, rfl⟩ := Int.eq_ofNat_of_zero_le (show 0 ≤ d by omega)
   have hd : d ≤ 8 := by omega
   have HS := Lib.hid (modB_shape HF.out hm1)
   obtain ⟨_, _, he1, he8⟩ := sizes_range (modB_sizes (hopf_sizes hh) hm2)
   obtain ⟨c, rfl⟩ := Int.eq_ofNat_of_zero_le (show 0 ≤ c by omega)
   have he : c ≤ 8 := by omega
   have HT := Lib.hid (modB_shape HG.out hm2)
   clear hm1 hm2 hh
   obtain ⟨D, hD⟩ : ∃ D : Nat, D = d * c := ⟨_, rfl⟩
   have hDi : (d : Int) * c = (D : Int) := by rw [hD, Int.natCast_mul]
   rw [hDi] at hL
   have HDi := Lib.hid hDi
   have HD := Lib.hid hD
   clear hD hDi
   have h8 : D ≤ 8 := by omega
   go_enter Tryz.func22, Tryz.ntmps22
   go_wp2_with fail
   refine atomC fun W6 e6 => ?_
   have hb6 : Below w.heap.size w W6 := by rw [e6]; exact bt
   have q6 := hb6.size
   have R6 : IsRow W6 (w.heap.size) ∧ IsRow W6 (w.heap.size + 1) ∧ IsRow W6 (w.heap.size + 2) ∧ IsRow W6 (w.heap.size + 3) ∧ IsRow W6 (w.heap.size + 4) := by rw [e6]; simp [go_sem]
   obtain ⟨r3_6, r4_6, r5_6, r6_6, r11_6⟩ := R6
   have C6 := (⟨congrArg (blk · (w.heap.size)) e6, congrArg (blk · (w.heap.size + 1)) e6, congrArg (blk · (w.heap.size + 2)) e6, congrArg (blk · (w.heap.size + 3)) e6, congrArg (blk · (w.heap.size + 4)) e6⟩ : _ ∧ _ ∧ _ ∧ _ ∧ _); simp [go_sem] at C6
   obtain ⟨c3_6, c4_6, c5_6, c6_6, c11_6⟩ := C6
   have z3_6 := isRow_lt r3_6; have z4_6 := isRow_lt r4_6; have z5_6 := isRow_lt r5_6; have z6_6 := isRow_lt r6_6; have z11_6 := isRow_lt r11_6
   clear e6
   refine (areMod2 p n f d c F G _ _ Hf.out HF.out HG.out r11_6 c11_6).mono ?_; rintro _ W7 ⟨rfl, hw7⟩
   obtain ⟨r3_7, c3_7, z3_7⟩ := keepZ hw7 z3_6 r3_6 c3_6
   obtain ⟨r4_7, c4_7, z4_7⟩ := keepZ hw7 z4_6 r4_6 c4_6
   obtain ⟨r5_7, c5_7, z5_7⟩ := keepZ hw7 z5_6 r5_6 c5_6
   obtain ⟨r6_7, c6_7, z6_7⟩ := keepZ hw7 z6_6 r6_6 c6_6
   obtain ⟨r11_7, c11_7, z11_7⟩ := keepZ hw7 z11_6 r11_6 c11_6
   obtain ⟨hb7, q7⟩ := bN hb6 hw7
   clear hw7 r3_6 c3_6 z3_6 r4_6 c4_6 z4_6 r5_6 c5_6 z5_6 r6_6 c6_6 z6_6 r11_6 c11_6 z11_6 hb6
   go_wp2_with fail
   refine (withinTen_yes p n d c D f F G _ hp hp' hp2 hn hd he (by omega) Hf.out HF.out HG.out HD.out h8).mono ?_; rintro _ W8 ⟨rfl, hw8⟩
   obtain ⟨r6_8, c6_8, z6_8⟩ := keepZ hw8 z6_7 r6_7 c6_7
   obtain ⟨hb8, q8⟩ := bN hb7 hw8
   clear hw8 r6_7 c6_7 z6_7 hb7
   go_wp2_with fail
   refine bodyPost_ret (result_cell_tmp rfl aggMod _ _ (mdl D (finM n D (tnG p n d c f F G))) _ _ rfl rfl ?_ ?_) rfl ⟨ret_mod2 (by rw [H.out.2]; show mdl D (finM n D (tnG p n d c f F G)) = mdl ((d : Int) * c) (finM n ((d : Int) * c).toNat (tnG p n d c f F G)); rw [HDi.out, Int.toNat_natCast]) H.out.1.symm, ?_⟩
   · simp [go_sem, r6_8, c6_8]
   · simp [go_sem, r6_8, c6_8]
   · exact bt

set_option maxRecDepth 100000 in
set_option maxHeartbeats 8000000 in
theorem l06Tensor_any (p : Int) (n d c D : Nat) (f F G : Nat → Int) (w : World) (hp : 0 < p) (hp' : p ≤ 255) (hp2 : 2 ≤ p) (hn : n ≤ 8) (hd : d ≤ 8) (he : c ≤ 8) (he1 : 1 ≤ c) (hf : Bytes 1104 f) (hF : Bytes 512 F) (hG : Bytes 512 G) (hD : D = d * c) (h8 : D ≤ 8) :
    Calls Tryz.prog 60 #[.agg (hop p n f), .agg (mdl d F), .agg (mdl c G)] w fun e w' => e = .returned (.agg (mdl D (finM n D (tnG p n d c f F G)))) ∧ Below w.heap.size w w' := by
 have Hf := Lib.hid hf; clear hf
 have HF := Lib.hid hF; clear hF
 have HG := Lib.hid hG; clear hG
 have HD := Lib.hid hD; clear hD
 have hdc : d * c ≤ 8 := by rw [← HD.out]; exact h8
 have q0 : IntKind.i64.wrap ((d : Int) * c) = D := by rw [show (d : Int) * c = (D : Int) by rw [HD.out, Int.natCast_mul]]; exact IntWalk.i64_in _ (by omega)
 go_enter Tryz.func60, Tryz.ntmps60
 go_wp2
 refine atomW fun W1 e1 => ?_
 have hb1 : Below w.heap.size w W1 := by rw [e1]; exact bt
 have q1 := hb1.size
 have R1 : IsRow W1 (w.heap.size) ∧ IsRow W1 (w.heap.size + 1) ∧ IsRow W1 (w.heap.size + 2) ∧ IsRow W1 (w.heap.size + 3) ∧ IsRow W1 (w.heap.size + 4) := by rw [e1]; simp [go_sem]
 obtain ⟨r3_1, r4_1, r5_1, r6_1, r7_1⟩ := R1
 have C1 := (⟨congrArg (blk · (w.heap.size)) e1, congrArg (blk · (w.heap.size + 1)) e1, congrArg (blk · (w.heap.size + 2)) e1, congrArg (blk · (w.heap.size + 3)) e1, congrArg (blk · (w.heap.size + 4)) e1⟩ : _ ∧ _ ∧ _ ∧ _ ∧ _); simp [go_sem] at C1
 obtain ⟨c3_1, c4_1, c5_1, c6_1, c7_1⟩ := C1
 have z3_1 := isRow_lt r3_1; have z4_1 := isRow_lt r4_1; have z5_1 := isRow_lt r5_1; have z6_1 := isRow_lt r6_1; have z7_1 := isRow_lt r7_1
 clear e1
 go_loopw [8] (fun s8 wr => ∃ i : Nat, i ≤ n ∧ s8 = .int .i64 i ∧ Below w.heap.size w wr ∧ (IsRow wr (w.heap.size) ∧ blk wr (w.heap.size) = blk W1 (w.heap.size)) ∧ (IsRow wr (w.heap.size + 1) ∧ blk wr (w.heap.size + 1) = blk W1 (w.heap.size + 1)) ∧ (IsRow wr (w.heap.size + 2) ∧ blk wr (w.heap.size + 2) = blk W1 (w.heap.size + 2)) ∧ (IsRow wr (w.heap.size + 3) ∧ blk wr (w.heap.size + 3) = blk W1 (w.heap.size + 3)) ∧ (IsRow wr (w.heap.size + 4) ∧ blk wr (w.heap.size + 4) = mdl D (finK D (tnG p n d c f F G) i 0))) (fun s8 _ => n - (intOf s8).toNat)
 case atStart => exact ⟨0, by omega, rfl, hb1, ⟨r3_1, rfl⟩, ⟨r4_1, rfl⟩, ⟨r5_1, rfl⟩, ⟨r6_1, rfl⟩, ⟨r7_1, c7_1.trans (fin_zero D D _)⟩⟩
 case round =>
  obtain ⟨i, hle2, rfl, hb2, ⟨r3_2, c3_2⟩, ⟨r4_2, c4_2⟩, ⟨r5_2, c5_2⟩, ⟨r6_2, c6_2⟩, ⟨r7_2, c7_2⟩⟩ := hrel
  obtain ⟨W2, rfl⟩ : ∃ W2 : World, W2 = wr := ⟨_, rfl⟩
  have q2 := hb2.size
  have E3_2 := Lib.hid c3_1; replace c3_2 := c3_2.trans c3_1
  have z3_2 := isRow_lt r3_2
  have E4_2 := Lib.hid c4_1; replace c4_2 := c4_2.trans c4_1
  have z4_2 := isRow_lt r4_2
  have E5_2 := Lib.hid c5_1; replace c5_2 := c5_2.trans c5_1
  have z5_2 := isRow_lt r5_2
  have E6_2 := Lib.hid c6_1; replace c6_2 := c6_2.trans c6_1
  have z6_2 := isRow_lt r6_2
  have z7_2 := isRow_lt r7_2
  clear r3_1 c3_1 z3_1 r4_1 c4_1 z4_1 r5_1 c5_1 z5_1 r6_1 c6_1 z6_1 r7_1 c7_1 z7_1 hb1
  by_cases hlt2 : i < n
  ·
   have i0_2 : (0 : Int) ≤ (i : Int) := by omega
   have i8_2 : (i : Int) < 8 := by omega
   have k8_2 : i < 8 := by omega
   have m8_2 : i * 8 + 8 ≤ 64 := by omega
   have m64_2 : i * 64 + 64 ≤ 512 := by omega
   have l1_2 : 10 + i * 64 + 64 ≤ 522 := by omega
   go_wp2
   go_loopw [9] (fun s9 wr => ∃ x : Nat, x ≤ d ∧ s9 = .int .i64 x ∧ Below w.heap.size w wr ∧ (IsRow wr (w.heap.size) ∧ blk wr (w.heap.size) = blk W2 (w.heap.size)) ∧ (IsRow wr (w.heap.size + 1) ∧ blk wr (w.heap.size + 1) = blk W2 (w.heap.size + 1)) ∧ (IsRow wr (w.heap.size + 2) ∧ blk wr (w.heap.size + 2) = blk W2 (w.heap.size + 2)) ∧ (IsRow wr (w.heap.size + 3) ∧ blk wr (w.heap.size + 3) = blk W2 (w.heap.size + 3)) ∧ (IsRow wr (w.heap.size + 4) ∧ blk wr (w.heap.size + 4) = mdl D (finK D (tnG p n d c f F G) i (c * x)))) (fun s9 _ => d - (intOf s9).toNat)
   case atStart => exact ⟨0, by omega, rfl, hb2, ⟨r3_2, rfl⟩, ⟨r4_2, rfl⟩, ⟨r5_2, rfl⟩, ⟨r6_2, rfl⟩, ⟨r7_2, c7_2⟩⟩
   case round =>
    obtain ⟨x, hle3, rfl, hb3, ⟨r3_3, c3_3⟩, ⟨r4_3, c4_3⟩, ⟨r5_3, c5_3⟩, ⟨r6_3, c6_3⟩, ⟨r7_3, c7_3⟩⟩ := hrel
    obtain ⟨W3, rfl⟩ : ∃ W3 : World, W3 = wr := ⟨_, rfl⟩
    have q3 := hb3.size
    have E3_3 := Lib.hid c3_2; replace c3_3 := c3_3.trans c3_2
    have z3_3 := isRow_lt r3_3
    have E4_3 := Lib.hid c4_2; replace c4_3 := c4_3.trans c4_2
    have z4_3 := isRow_lt r4_3
    have E5_3 := Lib.hid c5_2; replace c5_3 := c5_3.trans c5_2
    have z5_3 := isRow_lt r5_3
    have E6_3 := Lib.hid c6_2; replace c6_3 := c6_3.trans c6_2
    have z6_3 := isRow_lt r6_3
    have z7_3 := isRow_lt r7_3
    clear r3_2 c3_2 z3_2 r4_2 c4_2 z4_2 r5_2 c5_2 z5_2 r6_2 c6_2 z6_2 r7_2 c7_2 z7_2 hb2
    by_cases hlt3 : x < d
    ·
     have i0_3 : (0 : Int) ≤ (x : Int) := by omega
     have i8_3 : (x : Int) < 8 := by omega
     have k8_3 : x < 8 := by omega
     have m8_3 : x * 8 + 8 ≤ 64 := by omega
     have m64_3 : x * 64 + 64 ≤ 512 := by omega
     have l1_3 : 10 + x * 64 + 64 ≤ 522 := by omega
     have l2_3i : 10 + i * 64 + x * 8 + 8 ≤ 522 := by omega
     have l3_3i : 10 + x * 64 + i * 8 + 8 ≤ 522 := by omega
     have l4_3i : i * 64 + x * 8 + 8 ≤ 512 := by omega
     have l5_3i : x * 64 + i * 8 + 8 ≤ 512 := by omega
     have l6_3i : i * 8 + x < 64 := by omega
     have l7_3i : x * 8 + i < 64 := by omega
     have hlc : c * x + c ≤ 8 := prod8 hdc (by omega)
     obtain ⟨lo, hlo⟩ : ∃ lo : Nat, lo = c * x := ⟨_, rfl⟩
     rw [← hlo] at hlc
     have q1 : IntKind.i64.wrap ((c : Int) * x) = (lo : Int) := by rw [show (c : Int) * x = (lo : Int) by rw [hlo, Int.natCast_mul]]; exact IntWalk.i64_in _ (by omega)
     have HLO := Lib.hid hlo
     clear hlo
     go_wp2
     go_loopw [10] (fun s10 wr => ∃ y : Nat, y ≤ c ∧ s10 = .int .i64 y ∧ Below w.heap.size w wr ∧ (IsRow wr (w.heap.size) ∧ blk wr (w.heap.size) = blk W3 (w.heap.size)) ∧ (IsRow wr (w.heap.size + 1) ∧ blk wr (w.heap.size + 1) = blk W3 (w.heap.size + 1)) ∧ (IsRow wr (w.heap.size + 2) ∧ blk wr (w.heap.size + 2) = blk W3 (w.heap.size + 2)) ∧ (IsRow wr (w.heap.size + 3) ∧ blk wr (w.heap.size + 3) = blk W3 (w.heap.size + 3)) ∧ (IsRow wr (w.heap.size + 4) ∧ blk wr (w.heap.size + 4) = mdl D (finK D (tnG p n d c f F G) i (c * x + y)))) (fun s10 _ => c - (intOf s10).toNat)
     case atStart => exact ⟨0, by omega, rfl, hb3, ⟨r3_3, rfl⟩, ⟨r4_3, rfl⟩, ⟨r5_3, rfl⟩, ⟨r6_3, rfl⟩, ⟨r7_3, c7_3⟩⟩
     case round =>
      obtain ⟨y, hle4, rfl, hb4, ⟨r3_4, c3_4⟩, ⟨r4_4, c4_4⟩, ⟨r5_4, c5_4⟩, ⟨r6_4, c6_4⟩, ⟨r7_4, c7_4⟩⟩ := hrel
      obtain ⟨W4, rfl⟩ : ∃ W4 : World, W4 = wr := ⟨_, rfl⟩
      have q4 := hb4.size
      have E3_4 := Lib.hid c3_3; replace c3_4 := c3_4.trans c3_3
      have z3_4 := isRow_lt r3_4
      have E4_4 := Lib.hid c4_3; replace c4_4 := c4_4.trans c4_3
      have z4_4 := isRow_lt r4_4
      have E5_4 := Lib.hid c5_3; replace c5_4 := c5_4.trans c5_3
      have z5_4 := isRow_lt r5_4
      have E6_4 := Lib.hid c6_3; replace c6_4 := c6_4.trans c6_3
      have z6_4 := isRow_lt r6_4
      have z7_4 := isRow_lt r7_4
      clear r3_3 c3_3 z3_3 r4_3 c4_3 z4_3 r5_3 c5_3 z5_3 r6_3 c6_3 z6_3 r7_3 c7_3 z7_3 hb3
      by_cases hlt4 : y < c
      ·
       have i0_4 : (0 : Int) ≤ (y : Int) := by omega
       have i8_4 : (y : Int) < 8 := by omega
       have k8_4 : y < 8 := by omega
       have m8_4 : y * 8 + 8 ≤ 64 := by omega
       have m64_4 : y * 64 + 64 ≤ 512 := by omega
       have l1_4 : 10 + y * 64 + 64 ≤ 522 := by omega
       have l2_4i : 10 + i * 64 + y * 8 + 8 ≤ 522 := by omega
       have l3_4i : 10 + y * 64 + i * 8 + 8 ≤ 522 := by omega
       have l4_4i : i * 64 + y * 8 + 8 ≤ 512 := by omega
       have l5_4i : y * 64 + i * 8 + 8 ≤ 512 := by omega
       have l6_4i : i * 8 + y < 64 := by omega
       have l7_4i : y * 8 + i < 64 := by omega
       have l2_4x : 10 + x * 64 + y * 8 + 8 ≤ 522 := by omega
       have l3_4x : 10 + y * 64 + x * 8 + 8 ≤ 522 := by omega
       have l4_4x : x * 64 + y * 8 + 8 ≤ 512 := by omega
       have l5_4x : y * 64 + x * 8 + 8 ≤ 512 := by omega
       have l6_4x : x * 8 + y < 64 := by omega
       have l7_4x : y * 8 + x < 64 := by omega
       obtain ⟨s, hs⟩ : ∃ s : Nat, s = lo + y := ⟨_, rfl⟩
       have q6 : IntKind.i64.wrap ((lo : Int) + y) = (s : Int) := by rw [IntWalk.i64_in _ (by omega)]; omega
       have s8 : s < 8 := by omega
       have s9 : (s : Int) < 8 := by omega
       have hsD : s < D := by rw [HD.out]; have h3 := Nat.mul_le_mul_left c (show x + 1 ≤ d by omega); rw [Nat.mul_succ, Nat.mul_comm c d] at h3; have h4 := HLO.out; omega
       have HSS := Lib.hid (show s = c * x + y by rw [hs, HLO.out])
       clear hs
       have m1 : 1 + i * 64 + s * 8 + 8 ≤ 513 := by omega
       have m2 : 1 + i * 64 + 64 ≤ 513 := by omega
       go_wp2
       have nw3_W4_0 : (w.heap.size) ≠ W4.heap.size := by omega
       have nw4_W4_0 : (w.heap.size + 1) ≠ W4.heap.size := by omega
       have nw5_W4_0 : (w.heap.size + 2) ≠ W4.heap.size := by omega
       have nw6_W4_0 : (w.heap.size + 3) ≠ W4.heap.size := by omega
       have nw7_W4_0 : (w.heap.size + 4) ≠ W4.heap.size := by omega
       refine atomW fun W5 e5 => ?_
       have hb5 : Below w.heap.size w W5 := by rw [e5]; exact bt
       have q5 := hb5.size
       have R5 : IsRow W5 (w.heap.size) ∧ IsRow W5 (w.heap.size + 1) ∧ IsRow W5 (w.heap.size + 2) ∧ IsRow W5 (w.heap.size + 3) ∧ IsRow W5 (w.heap.size + 4) ∧ IsRow W5 (W4.heap.size) := by rw [e5]; simp [go_sem, r3_4, c3_4, r4_4, c4_4, r5_4, c5_4, r6_4, c6_4, r7_4, c7_4, nw3_W4_0, nw4_W4_0, nw5_W4_0, nw6_W4_0, nw7_W4_0]
       obtain ⟨r3_5, r4_5, r5_5, r6_5, r7_5, r11_5⟩ := R5
       have C5 := (⟨congrArg (blk · (w.heap.size)) e5, congrArg (blk · (w.heap.size + 1)) e5, congrArg (blk · (w.heap.size + 2)) e5, congrArg (blk · (w.heap.size + 3)) e5, congrArg (blk · (w.heap.size + 4)) e5, congrArg (blk · (W4.heap.size)) e5⟩ : _ ∧ _ ∧ _ ∧ _ ∧ _ ∧ _); simp [go_sem, r3_4, c3_4, r4_4, c4_4, r5_4, c5_4, r6_4, c6_4, r7_4, c7_4, nw3_W4_0, nw4_W4_0, nw5_W4_0, nw6_W4_0, nw7_W4_0] at C5
       obtain ⟨c3_5, c4_5, c5_5, c6_5, c7_5, c11_5⟩ := C5
       have z3_5 := isRow_lt r3_5; have z4_5 := isRow_lt r4_5; have z5_5 := isRow_lt r5_5; have z6_5 := isRow_lt r6_5; have z7_5 := isRow_lt r7_5; have z11_5 := isRow_lt r11_5
       have n3_11 : (w.heap.size) ≠ (W4.heap.size) := by omega
       have n4_11 : (w.heap.size + 1) ≠ (W4.heap.size) := by omega
       have n5_11 : (w.heap.size + 2) ≠ (W4.heap.size) := by omega
       have n6_11 : (w.heap.size + 3) ≠ (W4.heap.size) := by omega
       have n7_11 : (w.heap.size + 4) ≠ (W4.heap.size) := by omega
       have n11_3 : (W4.heap.size) ≠ (w.heap.size) := by omega
       have n11_4 : (W4.heap.size) ≠ (w.heap.size + 1) := by omega
       have n11_5 : (W4.heap.size) ≠ (w.heap.size + 2) := by omega
       have n11_6 : (W4.heap.size) ≠ (w.heap.size + 3) := by omega
       have n11_7 : (W4.heap.size) ≠ (w.heap.size + 4) := by omega
       clear e5 nw3_W4_0 nw4_W4_0 nw5_W4_0 nw6_W4_0 nw7_W4_0 r3_4 c3_4 z3_4 r4_4 c4_4 z4_4 r5_4 c5_4 z5_4 r6_4 c6_4 z6_4 r7_4 c7_4 z7_4 hb4
       go_loopw [12] (fun s12 wr => ∃ a : Nat, a ≤ n ∧ s12 = .int .i64 a ∧ Below w.heap.size w wr ∧ (IsRow wr (w.heap.size) ∧ blk wr (w.heap.size) = blk W5 (w.heap.size)) ∧ (IsRow wr (w.heap.size + 1) ∧ blk wr (w.heap.size + 1) = blk W5 (w.heap.size + 1)) ∧ (IsRow wr (w.heap.size + 2) ∧ blk wr (w.heap.size + 2) = blk W5 (w.heap.size + 2)) ∧ (IsRow wr (w.heap.size + 3) ∧ blk wr (w.heap.size + 3) = blk W5 (w.heap.size + 3)) ∧ (IsRow wr (w.heap.size + 4) ∧ blk wr (w.heap.size + 4) = blk W5 (w.heap.size + 4)) ∧ (IsRow wr (W4.heap.size) ∧ blk wr (W4.heap.size) = row 8 (tnK p n d c f F G i x y a 0))) (fun s12 _ => n - (intOf s12).toNat)
       case atStart => exact ⟨0, by omega, rfl, hb5, ⟨r3_5, rfl⟩, ⟨r4_5, rfl⟩, ⟨r5_5, rfl⟩, ⟨r6_5, rfl⟩, ⟨r7_5, rfl⟩, ⟨r11_5, c11_5.trans (tn_zero p n d c f F G i x y)⟩⟩
       case round =>
        obtain ⟨a, hle6, rfl, hb6, ⟨r3_6, c3_6⟩, ⟨r4_6, c4_6⟩, ⟨r5_6, c5_6⟩, ⟨r6_6, c6_6⟩, ⟨r7_6, c7_6⟩, ⟨r11_6, c11_6⟩⟩ := hrel
        obtain ⟨W6, rfl⟩ : ∃ W6 : World, W6 = wr := ⟨_, rfl⟩
        have q6 := hb6.size
        have E3_6 := Lib.hid c3_5; replace c3_6 := c3_6.trans c3_5
        have z3_6 := isRow_lt r3_6
        have E4_6 := Lib.hid c4_5; replace c4_6 := c4_6.trans c4_5
        have z4_6 := isRow_lt r4_6
        have E5_6 := Lib.hid c5_5; replace c5_6 := c5_6.trans c5_5
        have z5_6 := isRow_lt r5_6
        have E6_6 := Lib.hid c6_5; replace c6_6 := c6_6.trans c6_5
        have z6_6 := isRow_lt r6_6
        have E7_6 := Lib.hid c7_5; replace c7_6 := c7_6.trans c7_5
        have z7_6 := isRow_lt r7_6
        have z11_6 := isRow_lt r11_6
        clear r3_5 c3_5 z3_5 r4_5 c4_5 z4_5 r5_5 c5_5 z5_5 r6_5 c6_5 z6_5 r7_5 c7_5 z7_5 r11_5 c11_5 z11_5 hb5
        by_cases hlt6 : a < n
        ·
         have i0_6 : (0 : Int) ≤ (a : Int) := by omega
         have i8_6 : (a : Int) < 8 := by omega
         have k8_6 : a < 8 := by omega
         have m8_6 : a * 8 + 8 ≤ 64 := by omega
         have m64_6 : a * 64 + 64 ≤ 512 := by omega
         have l1_6 : 10 + a * 64 + 64 ≤ 522 := by omega
         have l2_6i : 10 + i * 64 + a * 8 + 8 ≤ 522 := by omega
         have l3_6i : 10 + a * 64 + i * 8 + 8 ≤ 522 := by omega
         have l4_6i : i * 64 + a * 8 + 8 ≤ 512 := by omega
         have l5_6i : a * 64 + i * 8 + 8 ≤ 512 := by omega
         have l6_6i : i * 8 + a < 64 := by omega
         have l7_6i : a * 8 + i < 64 := by omega
         have l2_6x : 10 + x * 64 + a * 8 + 8 ≤ 522 := by omega
         have l3_6x : 10 + a * 64 + x * 8 + 8 ≤ 522 := by omega
         have l4_6x : x * 64 + a * 8 + 8 ≤ 512 := by omega
         have l5_6x : a * 64 + x * 8 + 8 ≤ 512 := by omega
         have l6_6x : x * 8 + a < 64 := by omega
         have l7_6x : a * 8 + x < 64 := by omega
         have l2_6y : 10 + y * 64 + a * 8 + 8 ≤ 522 := by omega
         have l3_6y : 10 + a * 64 + y * 8 + 8 ≤ 522 := by omega
         have l4_6y : y * 64 + a * 8 + 8 ≤ 512 := by omega
         have l5_6y : a * 64 + y * 8 + 8 ≤ 512 := by omega
         have l6_6y : y * 8 + a < 64 := by omega
         have l7_6y : a * 8 + y < 64 := by omega
         have A1 := Lib.hid (act_bytes HF.out (i := a) (j := x) (by omega) (by omega))
         go_wp2
         go_loopw [13] (fun s13 wr => ∃ b : Nat, b ≤ n ∧ s13 = .int .i64 b ∧ Below w.heap.size w wr ∧ (IsRow wr (w.heap.size) ∧ blk wr (w.heap.size) = blk W6 (w.heap.size)) ∧ (IsRow wr (w.heap.size + 1) ∧ blk wr (w.heap.size + 1) = blk W6 (w.heap.size + 1)) ∧ (IsRow wr (w.heap.size + 2) ∧ blk wr (w.heap.size + 2) = blk W6 (w.heap.size + 2)) ∧ (IsRow wr (w.heap.size + 3) ∧ blk wr (w.heap.size + 3) = blk W6 (w.heap.size + 3)) ∧ (IsRow wr (w.heap.size + 4) ∧ blk wr (w.heap.size + 4) = blk W6 (w.heap.size + 4)) ∧ (IsRow wr (W4.heap.size) ∧ blk wr (W4.heap.size) = row 8 (tnK p n d c f F G i x y a b))) (fun s13 _ => n - (intOf s13).toNat)
         case atStart => exact ⟨0, by omega, rfl, hb6, ⟨r3_6, rfl⟩, ⟨r4_6, rfl⟩, ⟨r5_6, rfl⟩, ⟨r6_6, rfl⟩, ⟨r7_6, rfl⟩, ⟨r11_6, c11_6⟩⟩
         case round =>
          obtain ⟨b, hle7, rfl, hb7, ⟨r3_7, c3_7⟩, ⟨r4_7, c4_7⟩, ⟨r5_7, c5_7⟩, ⟨r6_7, c6_7⟩, ⟨r7_7, c7_7⟩, ⟨r11_7, c11_7⟩⟩ := hrel
          obtain ⟨W7, rfl⟩ : ∃ W7 : World, W7 = wr := ⟨_, rfl⟩
          have q7 := hb7.size
          have E3_7 := Lib.hid c3_6; replace c3_7 := c3_7.trans c3_6
          have z3_7 := isRow_lt r3_7
          have E4_7 := Lib.hid c4_6; replace c4_7 := c4_7.trans c4_6
          have z4_7 := isRow_lt r4_7
          have E5_7 := Lib.hid c5_6; replace c5_7 := c5_7.trans c5_6
          have z5_7 := isRow_lt r5_7
          have E6_7 := Lib.hid c6_6; replace c6_7 := c6_7.trans c6_6
          have z6_7 := isRow_lt r6_7
          have E7_7 := Lib.hid c7_6; replace c7_7 := c7_7.trans c7_6
          have z7_7 := isRow_lt r7_7
          have z11_7 := isRow_lt r11_7
          clear r3_6 c3_6 z3_6 r4_6 c4_6 z4_6 r5_6 c5_6 z5_6 r6_6 c6_6 z6_6 r7_6 c7_6 z7_6 r11_6 c11_6 z11_6 hb6
          by_cases hlt7 : b < n
          ·
           have i0_7 : (0 : Int) ≤ (b : Int) := by omega
           have i8_7 : (b : Int) < 8 := by omega
           have k8_7 : b < 8 := by omega
           have m8_7 : b * 8 + 8 ≤ 64 := by omega
           have m64_7 : b * 64 + 64 ≤ 512 := by omega
           have l1_7 : 10 + b * 64 + 64 ≤ 522 := by omega
           have l2_7i : 10 + i * 64 + b * 8 + 8 ≤ 522 := by omega
           have l3_7i : 10 + b * 64 + i * 8 + 8 ≤ 522 := by omega
           have l4_7i : i * 64 + b * 8 + 8 ≤ 512 := by omega
           have l5_7i : b * 64 + i * 8 + 8 ≤ 512 := by omega
           have l6_7i : i * 8 + b < 64 := by omega
           have l7_7i : b * 8 + i < 64 := by omega
           have l2_7x : 10 + x * 64 + b * 8 + 8 ≤ 522 := by omega
           have l3_7x : 10 + b * 64 + x * 8 + 8 ≤ 522 := by omega
           have l4_7x : x * 64 + b * 8 + 8 ≤ 512 := by omega
           have l5_7x : b * 64 + x * 8 + 8 ≤ 512 := by omega
           have l6_7x : x * 8 + b < 64 := by omega
           have l7_7x : b * 8 + x < 64 := by omega
           have l2_7y : 10 + y * 64 + b * 8 + 8 ≤ 522 := by omega
           have l3_7y : 10 + b * 64 + y * 8 + 8 ≤ 522 := by omega
           have l4_7y : y * 64 + b * 8 + 8 ≤ 512 := by omega
           have l5_7y : b * 64 + y * 8 + 8 ≤ 512 := by omega
           have l6_7y : y * 8 + b < 64 := by omega
           have l7_7y : b * 8 + y < 64 := by omega
           have l2_7a : 10 + a * 64 + b * 8 + 8 ≤ 522 := by omega
           have l3_7a : 10 + b * 64 + a * 8 + 8 ≤ 522 := by omega
           have l4_7a : a * 64 + b * 8 + 8 ≤ 512 := by omega
           have l5_7a : b * 64 + a * 8 + 8 ≤ 512 := by omega
           have l6_7a : a * 8 + b < 64 := by omega
           have l7_7a : b * 8 + a < 64 := by omega
           by_cases hz : mtab (coF f) i a b = 0
           ·
            have e1 := hop_comq p n f i a b (by omega) (by omega) (by omega)
            have e2 := fun h => hop_come p n f i a b (by omega) (by omega) (by omega) h
            have b0 := mtab_bt (co_bytes Hf.out) (i := i) (j := a) (by omega) (by omega) b (by omega)
            have b1 := b0.1
            have b2 := b0.2
            have n1 : 530 + i * 64 + a * 8 + b < 1106 := by omega
            have n2 : 530 + i * 64 + 64 ≤ 1106 := by omega
            have n3 : 530 + i * 64 + a * 8 + 8 ≤ 1106 := by omega
            have n4 : 530 + i * 64 + a * 8 + b + 1 ≤ 1106 := by omega
            have HT := Lib.hid (tn_skip (p := p) (n := n) (d := d) (c := c) (F := F) (G := G) (x := x) (y := y) hz)
            have h1 : (mtab (coF f) i a b != 0) = false := by simpa using hz
            clear hz
            go_wp2
            go_roundw
            case rel => exact ⟨b + 1, by omega, by go_num, bt, ⟨by simp [go_sem, r3_7, c3_7, n3_11, r4_7, c4_7, n4_11, r5_7, c5_7, n5_11, r6_7, c6_7, n6_11, r7_7, c7_7, n7_11, r11_7, c11_7, n11_3, n11_4, n11_5, n11_6, n11_7], (by rw [E3_7.out]; first | exact c3_7 | (simp [go_sem, r3_7, c3_7, n3_11, r4_7, c4_7, n4_11, r5_7, c5_7, n5_11, r6_7, c6_7, n6_11, r7_7, c7_7, n7_11, r11_7, c11_7, n11_3, n11_4, n11_5, n11_6, n11_7]; done))⟩, ⟨by simp [go_sem, r3_7, c3_7, n3_11, r4_7, c4_7, n4_11, r5_7, c5_7, n5_11, r6_7, c6_7, n6_11, r7_7, c7_7, n7_11, r11_7, c11_7, n11_3, n11_4, n11_5, n11_6, n11_7], (by rw [E4_7.out]; first | exact c4_7 | (simp [go_sem, r3_7, c3_7, n3_11, r4_7, c4_7, n4_11, r5_7, c5_7, n5_11, r6_7, c6_7, n6_11, r7_7, c7_7, n7_11, r11_7, c11_7, n11_3, n11_4, n11_5, n11_6, n11_7]; done))⟩, ⟨by simp [go_sem, r3_7, c3_7, n3_11, r4_7, c4_7, n4_11, r5_7, c5_7, n5_11, r6_7, c6_7, n6_11, r7_7, c7_7, n7_11, r11_7, c11_7, n11_3, n11_4, n11_5, n11_6, n11_7], (by rw [E5_7.out]; first | exact c5_7 | (simp [go_sem, r3_7, c3_7, n3_11, r4_7, c4_7, n4_11, r5_7, c5_7, n5_11, r6_7, c6_7, n6_11, r7_7, c7_7, n7_11, r11_7, c11_7, n11_3, n11_4, n11_5, n11_6, n11_7]; done))⟩, ⟨by simp [go_sem, r3_7, c3_7, n3_11, r4_7, c4_7, n4_11, r5_7, c5_7, n5_11, r6_7, c6_7, n6_11, r7_7, c7_7, n7_11, r11_7, c11_7, n11_3, n11_4, n11_5, n11_6, n11_7], (by rw [E6_7.out]; first | exact c6_7 | (simp [go_sem, r3_7, c3_7, n3_11, r4_7, c4_7, n4_11, r5_7, c5_7, n5_11, r6_7, c6_7, n6_11, r7_7, c7_7, n7_11, r11_7, c11_7, n11_3, n11_4, n11_5, n11_6, n11_7]; done))⟩, ⟨by simp [go_sem, r3_7, c3_7, n3_11, r4_7, c4_7, n4_11, r5_7, c5_7, n5_11, r6_7, c6_7, n6_11, r7_7, c7_7, n7_11, r11_7, c11_7, n11_3, n11_4, n11_5, n11_6, n11_7], (by rw [E7_7.out]; first | exact c7_7 | (simp [go_sem, r3_7, c3_7, n3_11, r4_7, c4_7, n4_11, r5_7, c5_7, n5_11, r6_7, c6_7, n6_11, r7_7, c7_7, n7_11, r11_7, c11_7, n11_3, n11_4, n11_5, n11_6, n11_7]; done))⟩, ⟨by simp [go_sem, r3_7, c3_7, n3_11, r4_7, c4_7, n4_11, r5_7, c5_7, n5_11, r6_7, c6_7, n6_11, r7_7, c7_7, n7_11, r11_7, c11_7, n11_3, n11_4, n11_5, n11_6, n11_7], (by first | exact (c11_7).trans (HT.out) | (simp [go_sem, r3_7, c3_7, n3_11, r4_7, c4_7, n4_11, r5_7, c5_7, n5_11, r6_7, c6_7, n6_11, r7_7, c7_7, n7_11, r11_7, c11_7, n11_3, n11_4, n11_5, n11_6, n11_7]; exact HT.out))⟩⟩
            case measure => simp [intOf]; try omega
           ·
            have e1 := hop_comq p n f i a b (by omega) (by omega) (by omega)
            have e2 := fun h => hop_come p n f i a b (by omega) (by omega) (by omega) h
            have b0 := mtab_bt (co_bytes Hf.out) (i := i) (j := a) (by omega) (by omega) b (by omega)
            have b1 := b0.1
            have b2 := b0.2
            have n1 : 530 + i * 64 + a * 8 + b < 1106 := by omega
            have n2 : 530 + i * 64 + 64 ≤ 1106 := by omega
            have n3 : 530 + i * 64 + a * 8 + 8 ≤ 1106 := by omega
            have n4 : 530 + i * 64 + a * 8 + b + 1 ≤ 1106 := by omega
            have A2 := Lib.hid (act_bytes HG.out (i := b) (j := y) (by omega) (by omega))
            have A3 := Lib.hid (prK_bytes hp hp' c (act F a x) (act G b y) d)
            have A4 : Hid (Bytes 8 (tnK p n d c f F G i x y a b)) := Lib.hid (bytes_mod hp hp' _)
            have e3 := mdl_act8 d F a x (by omega) (by omega)
            have e4 := mdl_act8 c G b y (by omega) (by omega)
            have k1 : 1 + a * 64 + 64 ≤ 513 := by omega
            have k2 : 1 + a * 64 + x * 8 + 8 ≤ 513 := by omega
            have k3 : 1 + b * 64 + 64 ≤ 513 := by omega
            have k4 : 1 + b * 64 + y * 8 + 8 ≤ 513 := by omega
            have q8 : IntKind.i64.wrap (mtab (coF f) i a b) = mtab (coF f) i a b := IntWalk.i64_in _ (by omega)
            have h1 : (mtab (coF f) i a b != 0) = true := by simpa using hz
            clear hz
            go_wp2
            refine wp_quiet_tail 25 (Below W7.heap.size W7) (by kernel_rfl) (by kernel_rfl) (Below.refl _ _).drew ?_
            simp only [List.take_succ_cons, List.take_zero, List.drop_succ_cons, List.drop_zero]
            iterate 21 (refine q_plain rfl ?_; apply Exists.intro; refine ⟨fun W hW => ?_, ?_⟩; (focus (obtain ⟨x3, y3⟩ := keepB hW z3_7 r3_7 c3_7; obtain ⟨x4, y4⟩ := keepB hW z4_7 r4_7 c4_7; obtain ⟨x5, y5⟩ := keepB hW z5_7 r5_7 c5_7; obtain ⟨x6, y6⟩ := keepB hW z6_7 r6_7 c6_7; obtain ⟨x7, y7⟩ := keepB hW z7_7 r7_7 c7_7; obtain ⟨x11, y11⟩ := keepB hW z11_7 r11_7 c11_7; go_simp; first | done | rfl)); simp only [Act.put, List.setIfInBounds_toArray, List.set_cons_zero, List.set_cons_succ])
            (refine q_plain rfl ?_; apply Exists.intro; refine ⟨fun W hW => ?_, ?_⟩; (focus (obtain ⟨x3, y3⟩ := keepB hW z3_7 r3_7 c3_7; obtain ⟨x4, y4⟩ := keepB hW z4_7 r4_7 c4_7; obtain ⟨x5, y5⟩ := keepB hW z5_7 r5_7 c5_7; obtain ⟨x6, y6⟩ := keepB hW z6_7 r6_7 c6_7; obtain ⟨x7, y7⟩ := keepB hW z7_7 r7_7 c7_7; obtain ⟨x11, y11⟩ := keepB hW z11_7 r11_7 c11_7; go_simp; (go_at_call 109; exact (both_any p d c (act F a x) (act G b y) _ hp hp' hd he he1 hdc A1.out A2.out).mono fun e w2 ⟨he, hw2⟩ => ⟨he, hW.trans (hw2.mono hW.size)⟩))); simp only [Act.put, List.setIfInBounds_toArray, List.set_cons_zero, List.set_cons_succ])
            iterate 2 (refine q_plain rfl ?_; apply Exists.intro; refine ⟨fun W hW => ?_, ?_⟩; (focus (obtain ⟨x3, y3⟩ := keepB hW z3_7 r3_7 c3_7; obtain ⟨x4, y4⟩ := keepB hW z4_7 r4_7 c4_7; obtain ⟨x5, y5⟩ := keepB hW z5_7 r5_7 c5_7; obtain ⟨x6, y6⟩ := keepB hW z6_7 r6_7 c6_7; obtain ⟨x7, y7⟩ := keepB hW z7_7 r7_7 c7_7; obtain ⟨x11, y11⟩ := keepB hW z11_7 r11_7 c11_7; go_simp; first | done | rfl)); simp only [Act.put, List.setIfInBounds_toArray, List.set_cons_zero, List.set_cons_succ])
            (refine q_plain rfl ?_; apply Exists.intro; refine ⟨fun W hW => ?_, ?_⟩; (focus (obtain ⟨x3, y3⟩ := keepB hW z3_7 r3_7 c3_7; obtain ⟨x4, y4⟩ := keepB hW z4_7 r4_7 c4_7; obtain ⟨x5, y5⟩ := keepB hW z5_7 r5_7 c5_7; obtain ⟨x6, y6⟩ := keepB hW z6_7 r6_7 c6_7; obtain ⟨x7, y7⟩ := keepB hW z7_7 r7_7 c7_7; obtain ⟨x11, y11⟩ := keepB hW z11_7 r11_7 c11_7; go_simp; (go_at_call 87; exact (l01Add_any p (mtab (coF f) i a b) (tnK p n d c f F G i x y a b) (prK p c (act F a x) (act G b y) d) _ hp hp' (by omega) (by omega) A4.out A3.out).mono fun e w2 ⟨he, hw2⟩ => ⟨he, hW.trans (hw2.mono hW.size)⟩))); simp only [Act.put, List.setIfInBounds_toArray, List.set_cons_zero, List.set_cons_succ])
            refine wpQuiet_nil ?_
            intro W8 hw8
            obtain ⟨r3_8, c3_8, z3_8⟩ := keepZ hw8 z3_7 r3_7 c3_7
            obtain ⟨r4_8, c4_8, z4_8⟩ := keepZ hw8 z4_7 r4_7 c4_7
            obtain ⟨r5_8, c5_8, z5_8⟩ := keepZ hw8 z5_7 r5_7 c5_7
            obtain ⟨r6_8, c6_8, z6_8⟩ := keepZ hw8 z6_7 r6_7 c6_7
            obtain ⟨r7_8, c7_8, z7_8⟩ := keepZ hw8 z7_7 r7_7 c7_7
            obtain ⟨r11_8, c11_8, z11_8⟩ := keepZ hw8 z11_7 r11_7 c11_7
            obtain ⟨hb8, q8⟩ := bN hb7 hw8
            clear hw8 r3_7 c3_7 z3_7 r4_7 c4_7 z4_7 r5_7 c5_7 z5_7 r6_7 c6_7 z6_7 r7_7 c7_7 z7_7 r11_7 c11_7 z11_7 hb7
            go_wp2
            go_roundw
            case rel => exact ⟨b + 1, by omega, by go_num, bt, ⟨by simp [go_sem, r3_8, c3_8, n3_11, r4_8, c4_8, n4_11, r5_8, c5_8, n5_11, r6_8, c6_8, n6_11, r7_8, c7_8, n7_11, r11_8, c11_8, n11_3, n11_4, n11_5, n11_6, n11_7], (by rw [E3_7.out]; first | exact c3_8 | (simp [go_sem, r3_8, c3_8, n3_11, r4_8, c4_8, n4_11, r5_8, c5_8, n5_11, r6_8, c6_8, n6_11, r7_8, c7_8, n7_11, r11_8, c11_8, n11_3, n11_4, n11_5, n11_6, n11_7]; done))⟩, ⟨by simp [go_sem, r3_8, c3_8, n3_11, r4_8, c4_8, n4_11, r5_8, c5_8, n5_11, r6_8, c6_8, n6_11, r7_8, c7_8, n7_11, r11_8, c11_8, n11_3, n11_4, n11_5, n11_6, n11_7], (by rw [E4_7.out]; first | exact c4_8 | (simp [go_sem, r3_8, c3_8, n3_11, r4_8, c4_8, n4_11, r5_8, c5_8, n5_11, r6_8, c6_8, n6_11, r7_8, c7_8, n7_11, r11_8, c11_8, n11_3, n11_4, n11_5, n11_6, n11_7]; done))⟩, ⟨by simp [go_sem, r3_8, c3_8, n3_11, r4_8, c4_8, n4_11, r5_8, c5_8, n5_11, r6_8, c6_8, n6_11, r7_8, c7_8, n7_11, r11_8, c11_8, n11_3, n11_4, n11_5, n11_6, n11_7], (by rw [E5_7.out]; first | exact c5_8 | (simp [go_sem, r3_8, c3_8, n3_11, r4_8, c4_8, n4_11, r5_8, c5_8, n5_11, r6_8, c6_8, n6_11, r7_8, c7_8, n7_11, r11_8, c11_8, n11_3, n11_4, n11_5, n11_6, n11_7]; done))⟩, ⟨by simp [go_sem, r3_8, c3_8, n3_11, r4_8, c4_8, n4_11, r5_8, c5_8, n5_11, r6_8, c6_8, n6_11, r7_8, c7_8, n7_11, r11_8, c11_8, n11_3, n11_4, n11_5, n11_6, n11_7], (by rw [E6_7.out]; first | exact c6_8 | (simp [go_sem, r3_8, c3_8, n3_11, r4_8, c4_8, n4_11, r5_8, c5_8, n5_11, r6_8, c6_8, n6_11, r7_8, c7_8, n7_11, r11_8, c11_8, n11_3, n11_4, n11_5, n11_6, n11_7]; done))⟩, ⟨by simp [go_sem, r3_8, c3_8, n3_11, r4_8, c4_8, n4_11, r5_8, c5_8, n5_11, r6_8, c6_8, n6_11, r7_8, c7_8, n7_11, r11_8, c11_8, n11_3, n11_4, n11_5, n11_6, n11_7], (by rw [E7_7.out]; first | exact c7_8 | (simp [go_sem, r3_8, c3_8, n3_11, r4_8, c4_8, n4_11, r5_8, c5_8, n5_11, r6_8, c6_8, n6_11, r7_8, c7_8, n7_11, r11_8, c11_8, n11_3, n11_4, n11_5, n11_6, n11_7]; done))⟩, ⟨by simp [go_sem, r3_8, c3_8, n3_11, r4_8, c4_8, n4_11, r5_8, c5_8, n5_11, r6_8, c6_8, n6_11, r7_8, c7_8, n7_11, r11_8, c11_8, n11_3, n11_4, n11_5, n11_6, n11_7], (by first | (rw [blk_setRow _ _ _ _ r11_8, if_pos rfl]; exact tn_step p n d c f F G i x y a b) | exact (c11_8).trans (tn_step p n d c f F G i x y a b) | (simp [go_sem, r3_8, c3_8, n3_11, r4_8, c4_8, n4_11, r5_8, c5_8, n5_11, r6_8, c6_8, n6_11, r7_8, c7_8, n7_11, r11_8, c11_8, n11_3, n11_4, n11_5, n11_6, n11_7]; exact tn_step p n d c f F G i x y a b))⟩⟩
            case measure => simp [intOf]; try omega
          ·
           obtain rfl : n = b := by omega
           go_wp2
           go_roundw
           case rel => exact ⟨a + 1, by omega, by go_num, bt, ⟨by simp [go_sem, r3_7, c3_7, n3_11, r4_7, c4_7, n4_11, r5_7, c5_7, n5_11, r6_7, c6_7, n6_11, r7_7, c7_7, n7_11, r11_7, c11_7, n11_3, n11_4, n11_5, n11_6, n11_7], (by rw [E3_6.out]; first | exact c3_7 | (simp [go_sem, r3_7, c3_7, n3_11, r4_7, c4_7, n4_11, r5_7, c5_7, n5_11, r6_7, c6_7, n6_11, r7_7, c7_7, n7_11, r11_7, c11_7, n11_3, n11_4, n11_5, n11_6, n11_7]; done))⟩, ⟨by simp [go_sem, r3_7, c3_7, n3_11, r4_7, c4_7, n4_11, r5_7, c5_7, n5_11, r6_7, c6_7, n6_11, r7_7, c7_7, n7_11, r11_7, c11_7, n11_3, n11_4, n11_5, n11_6, n11_7], (by rw [E4_6.out]; first | exact c4_7 | (simp [go_sem, r3_7, c3_7, n3_11, r4_7, c4_7, n4_11, r5_7, c5_7, n5_11, r6_7, c6_7, n6_11, r7_7, c7_7, n7_11, r11_7, c11_7, n11_3, n11_4, n11_5, n11_6, n11_7]; done))⟩, ⟨by simp [go_sem, r3_7, c3_7, n3_11, r4_7, c4_7, n4_11, r5_7, c5_7, n5_11, r6_7, c6_7, n6_11, r7_7, c7_7, n7_11, r11_7, c11_7, n11_3, n11_4, n11_5, n11_6, n11_7], (by rw [E5_6.out]; first | exact c5_7 | (simp [go_sem, r3_7, c3_7, n3_11, r4_7, c4_7, n4_11, r5_7, c5_7, n5_11, r6_7, c6_7, n6_11, r7_7, c7_7, n7_11, r11_7, c11_7, n11_3, n11_4, n11_5, n11_6, n11_7]; done))⟩, ⟨by simp [go_sem, r3_7, c3_7, n3_11, r4_7, c4_7, n4_11, r5_7, c5_7, n5_11, r6_7, c6_7, n6_11, r7_7, c7_7, n7_11, r11_7, c11_7, n11_3, n11_4, n11_5, n11_6, n11_7], (by rw [E6_6.out]; first | exact c6_7 | (simp [go_sem, r3_7, c3_7, n3_11, r4_7, c4_7, n4_11, r5_7, c5_7, n5_11, r6_7, c6_7, n6_11, r7_7, c7_7, n7_11, r11_7, c11_7, n11_3, n11_4, n11_5, n11_6, n11_7]; done))⟩, ⟨by simp [go_sem, r3_7, c3_7, n3_11, r4_7, c4_7, n4_11, r5_7, c5_7, n5_11, r6_7, c6_7, n6_11, r7_7, c7_7, n7_11, r11_7, c11_7, n11_3, n11_4, n11_5, n11_6, n11_7], (by rw [E7_6.out]; first | exact c7_7 | (simp [go_sem, r3_7, c3_7, n3_11, r4_7, c4_7, n4_11, r5_7, c5_7, n5_11, r6_7, c6_7, n6_11, r7_7, c7_7, n7_11, r11_7, c11_7, n11_3, n11_4, n11_5, n11_6, n11_7]; done))⟩, ⟨by simp [go_sem, r3_7, c3_7, n3_11, r4_7, c4_7, n4_11, r5_7, c5_7, n5_11, r6_7, c6_7, n6_11, r7_7, c7_7, n7_11, r11_7, c11_7, n11_3, n11_4, n11_5, n11_6, n11_7], (by first | exact (c11_7).trans (tn_row p _ d c f F G i x y a) | (simp [go_sem, r3_7, c3_7, n3_11, r4_7, c4_7, n4_11, r5_7, c5_7, n5_11, r6_7, c6_7, n6_11, r7_7, c7_7, n7_11, r11_7, c11_7, n11_3, n11_4, n11_5, n11_6, n11_7]; exact tn_row p _ d c f F G i x y a))⟩⟩
           case measure => simp [intOf]; try omega
        ·
         obtain rfl : n = a := by omega
         go_wp2
         refine wp_quiet_tail 11 (Below W6.heap.size W6) (by kernel_rfl) (by kernel_rfl) (Below.refl _ _).drew ?_
         simp only [List.take_succ_cons, List.take_zero, List.drop_succ_cons, List.drop_zero]
         iterate 11 (refine q_plain rfl ?_; apply Exists.intro; refine ⟨fun W hW => ?_, ?_⟩; (focus (obtain ⟨x3, y3⟩ := keepB hW z3_6 r3_6 c3_6; obtain ⟨x4, y4⟩ := keepB hW z4_6 r4_6 c4_6; obtain ⟨x5, y5⟩ := keepB hW z5_6 r5_6 c5_6; obtain ⟨x6, y6⟩ := keepB hW z6_6 r6_6 c6_6; obtain ⟨x7, y7⟩ := keepB hW z7_6 r7_6 c7_6; obtain ⟨x11, y11⟩ := keepB hW z11_6 r11_6 c11_6; go_simp; first | done | rfl)); simp only [Act.put, List.setIfInBounds_toArray, List.set_cons_zero, List.set_cons_succ])
         refine wpQuiet_nil ?_
         intro W9 hw9
         obtain ⟨r3_9, c3_9, z3_9⟩ := keepZ hw9 z3_6 r3_6 c3_6
         obtain ⟨r4_9, c4_9, z4_9⟩ := keepZ hw9 z4_6 r4_6 c4_6
         obtain ⟨r5_9, c5_9, z5_9⟩ := keepZ hw9 z5_6 r5_6 c5_6
         obtain ⟨r6_9, c6_9, z6_9⟩ := keepZ hw9 z6_6 r6_6 c6_6
         obtain ⟨r7_9, c7_9, z7_9⟩ := keepZ hw9 z7_6 r7_6 c7_6
         obtain ⟨r11_9, c11_9, z11_9⟩ := keepZ hw9 z11_6 r11_6 c11_6
         obtain ⟨hb9, q9⟩ := bN hb6 hw9
         clear hw9 r3_6 c3_6 z3_6 r4_6 c4_6 z4_6 r5_6 c5_6 z5_6 r6_6 c6_6 z6_6 r7_6 c7_6 z7_6 r11_6 c11_6 z11_6 hb6
         go_wp2
         go_roundw
         case rel => exact ⟨y + 1, by omega, by go_num, bt, ⟨by simp [go_sem, r3_9, c3_9, n3_11, r4_9, c4_9, n4_11, r5_9, c5_9, n5_11, r6_9, c6_9, n6_11, r7_9, c7_9, n7_11, r11_9, c11_9, n11_3, n11_4, n11_5, n11_6, n11_7], (by rw [E3_4.out]; first | exact c3_9 | (simp [go_sem, r3_9, c3_9, n3_11, r4_9, c4_9, n4_11, r5_9, c5_9, n5_11, r6_9, c6_9, n6_11, r7_9, c7_9, n7_11, r11_9, c11_9, n11_3, n11_4, n11_5, n11_6, n11_7]; done))⟩, ⟨by simp [go_sem, r3_9, c3_9, n3_11, r4_9, c4_9, n4_11, r5_9, c5_9, n5_11, r6_9, c6_9, n6_11, r7_9, c7_9, n7_11, r11_9, c11_9, n11_3, n11_4, n11_5, n11_6, n11_7], (by rw [E4_4.out]; first | exact c4_9 | (simp [go_sem, r3_9, c3_9, n3_11, r4_9, c4_9, n4_11, r5_9, c5_9, n5_11, r6_9, c6_9, n6_11, r7_9, c7_9, n7_11, r11_9, c11_9, n11_3, n11_4, n11_5, n11_6, n11_7]; done))⟩, ⟨by simp [go_sem, r3_9, c3_9, n3_11, r4_9, c4_9, n4_11, r5_9, c5_9, n5_11, r6_9, c6_9, n6_11, r7_9, c7_9, n7_11, r11_9, c11_9, n11_3, n11_4, n11_5, n11_6, n11_7], (by rw [E5_4.out]; first | exact c5_9 | (simp [go_sem, r3_9, c3_9, n3_11, r4_9, c4_9, n4_11, r5_9, c5_9, n5_11, r6_9, c6_9, n6_11, r7_9, c7_9, n7_11, r11_9, c11_9, n11_3, n11_4, n11_5, n11_6, n11_7]; done))⟩, ⟨by simp [go_sem, r3_9, c3_9, n3_11, r4_9, c4_9, n4_11, r5_9, c5_9, n5_11, r6_9, c6_9, n6_11, r7_9, c7_9, n7_11, r11_9, c11_9, n11_3, n11_4, n11_5, n11_6, n11_7], (by rw [E6_4.out]; first | exact c6_9 | (simp [go_sem, r3_9, c3_9, n3_11, r4_9, c4_9, n4_11, r5_9, c5_9, n5_11, r6_9, c6_9, n6_11, r7_9, c7_9, n7_11, r11_9, c11_9, n11_3, n11_4, n11_5, n11_6, n11_7]; done))⟩, ⟨by simp [go_sem, r3_9, c3_9, n3_11, r4_9, c4_9, n4_11, r5_9, c5_9, n5_11, r6_9, c6_9, n6_11, r7_9, c7_9, n7_11, r11_9, c11_9, n11_3, n11_4, n11_5, n11_6, n11_7], (by first | (rw [blk_setRow _ _ _ _ r7_9, if_pos rfl]; exact ten_step HSS.out (by omega) (by omega) hsD h8) | exact (c7_9).trans (ten_step HSS.out (by omega) (by omega) hsD h8) | (simp [go_sem, r3_9, c3_9, n3_11, r4_9, c4_9, n4_11, r5_9, c5_9, n5_11, r6_9, c6_9, n6_11, r7_9, c7_9, n7_11, r11_9, c11_9, n11_3, n11_4, n11_5, n11_6, n11_7]; exact ten_step HSS.out (by omega) (by omega) hsD h8))⟩⟩
         case measure => simp [intOf]; try omega
      ·
       obtain rfl : c = y := by omega
       go_wp2
       go_roundw
       case rel => exact ⟨x + 1, by omega, by go_num, bt, ⟨by simp [go_sem, r3_4, c3_4, r4_4, c4_4, r5_4, c5_4, r6_4, c6_4, r7_4, c7_4], (by rw [E3_3.out]; first | exact c3_4 | (simp [go_sem, r3_4, c3_4, r4_4, c4_4, r5_4, c5_4, r6_4, c6_4, r7_4, c7_4]; done))⟩, ⟨by simp [go_sem, r3_4, c3_4, r4_4, c4_4, r5_4, c5_4, r6_4, c6_4, r7_4, c7_4], (by rw [E4_3.out]; first | exact c4_4 | (simp [go_sem, r3_4, c3_4, r4_4, c4_4, r5_4, c5_4, r6_4, c6_4, r7_4, c7_4]; done))⟩, ⟨by simp [go_sem, r3_4, c3_4, r4_4, c4_4, r5_4, c5_4, r6_4, c6_4, r7_4, c7_4], (by rw [E5_3.out]; first | exact c5_4 | (simp [go_sem, r3_4, c3_4, r4_4, c4_4, r5_4, c5_4, r6_4, c6_4, r7_4, c7_4]; done))⟩, ⟨by simp [go_sem, r3_4, c3_4, r4_4, c4_4, r5_4, c5_4, r6_4, c6_4, r7_4, c7_4], (by rw [E6_3.out]; first | exact c6_4 | (simp [go_sem, r3_4, c3_4, r4_4, c4_4, r5_4, c5_4, r6_4, c6_4, r7_4, c7_4]; done))⟩, ⟨by simp [go_sem, r3_4, c3_4, r4_4, c4_4, r5_4, c5_4, r6_4, c6_4, r7_4, c7_4], (by first | exact (c7_4).trans (ten_row) | (simp [go_sem, r3_4, c3_4, r4_4, c4_4, r5_4, c5_4, r6_4, c6_4, r7_4, c7_4]; exact ten_row))⟩⟩
       case measure => simp [intOf]; try omega
    ·
     obtain rfl : d = x := by omega
     go_wp2
     go_roundw
     case rel => exact ⟨i + 1, by omega, by go_num, bt, ⟨by simp [go_sem, r3_3, c3_3, r4_3, c4_3, r5_3, c5_3, r6_3, c6_3, r7_3, c7_3], (by rw [E3_2.out]; first | exact c3_3 | (simp [go_sem, r3_3, c3_3, r4_3, c4_3, r5_3, c5_3, r6_3, c6_3, r7_3, c7_3]; done))⟩, ⟨by simp [go_sem, r3_3, c3_3, r4_3, c4_3, r5_3, c5_3, r6_3, c6_3, r7_3, c7_3], (by rw [E4_2.out]; first | exact c4_3 | (simp [go_sem, r3_3, c3_3, r4_3, c4_3, r5_3, c5_3, r6_3, c6_3, r7_3, c7_3]; done))⟩, ⟨by simp [go_sem, r3_3, c3_3, r4_3, c4_3, r5_3, c5_3, r6_3, c6_3, r7_3, c7_3], (by rw [E5_2.out]; first | exact c5_3 | (simp [go_sem, r3_3, c3_3, r4_3, c4_3, r5_3, c5_3, r6_3, c6_3, r7_3, c7_3]; done))⟩, ⟨by simp [go_sem, r3_3, c3_3, r4_3, c4_3, r5_3, c5_3, r6_3, c6_3, r7_3, c7_3], (by rw [E6_2.out]; first | exact c6_3 | (simp [go_sem, r3_3, c3_3, r4_3, c4_3, r5_3, c5_3, r6_3, c6_3, r7_3, c7_3]; done))⟩, ⟨by simp [go_sem, r3_3, c3_3, r4_3, c4_3, r5_3, c5_3, r6_3, c6_3, r7_3, c7_3], (by first | exact (c7_3).trans (ten_map HD.out) | (simp [go_sem, r3_3, c3_3, r4_3, c4_3, r5_3, c5_3, r6_3, c6_3, r7_3, c7_3]; exact ten_map HD.out))⟩⟩
     case measure => simp [intOf]; try omega
  ·
   obtain rfl : n = i := by omega
   rw [fin_end] at c7_2
   go_wp2_with fail
   refine bodyPost_ret (result_cell rfl aggMod _ _ (mdl D (finM n D (tnG p n d c f F G))) _ rfl ?_ ?_) rfl ⟨rfl, ?_⟩
   · simp [go_sem, r3_2, c3_2, r4_2, c4_2, r5_2, c5_2, r6_2, c6_2, r7_2, c7_2]
   · simp [go_sem, r3_2, c3_2, r4_2, c4_2, r5_2, c5_2, r6_2, c6_2, r7_2, c7_2]
   · exact bt

set_option maxRecDepth 100000 in
set_option maxHeartbeats 1000000 in
theorem specTen_any (p n : Int) (f : Nat → Int) (d c : Int) (F G : Nat → Int) (w : World) (hf : Bytes 1104 f) (hF : Bytes 512 F) (hG : Bytes 512 G) :
    Calls Tryz.prog 21 #[.agg (hop p n f), .agg (mdl d F), .agg (mdl c G)] w fun e w' => e = .returned (.tuple #[.agg (mdl (onlyI (limOk (hm2 p n f d c F G) (d * c)) (d * c)) (onlyF (limOk (hm2 p n f d c F G) (d * c)) (finM n.toNat (d * c).toNat (tnG p n.toNat d.toNat c.toNat f F G)))), .int .i64 (limC (hm2 p n f d c F G) (d * c))]) ∧ Below w.heap.size w w' := by
 have Hf := Lib.hid hf; clear hf
 have HF := Lib.hid hF; clear hF
 have HG := Lib.hid hG; clear hG
 cases hc : hm2 p n f d c F G
 ·
  have hc1 : codeB false = 1 := rfl
  have H := Lib.hid (lim_no1 (ok := false) (D := d * c) rfl)
  go_enter Tryz.func21, Tryz.ntmps21
  go_wp2_with fail
  refine atomC fun W1 e1 => ?_
  have hb1 : Below w.heap.size w W1 := by rw [e1]; exact bt
  have q1 := hb1.size
  have R1 : IsRow W1 (w.heap.size) ∧ IsRow W1 (w.heap.size + 1) ∧ IsRow W1 (w.heap.size + 2) ∧ IsRow W1 (w.heap.size + 3) ∧ IsRow W1 (w.heap.size + 4) := by rw [e1]; simp [go_sem]
  obtain ⟨r3_1, r4_1, r5_1, r6_1, r12_1⟩ := R1
  have C1 := (⟨congrArg (blk · (w.heap.size)) e1, congrArg (blk · (w.heap.size + 1)) e1, congrArg (blk · (w.heap.size + 2)) e1, congrArg (blk · (w.heap.size + 3)) e1, congrArg (blk · (w.heap.size + 4)) e1⟩ : _ ∧ _ ∧ _ ∧ _ ∧ _); simp [go_sem] at C1
  obtain ⟨c3_1, c4_1, c5_1, c6_1, c12_1⟩ := C1
  have z3_1 := isRow_lt r3_1; have z4_1 := isRow_lt r4_1; have z5_1 := isRow_lt r5_1; have z6_1 := isRow_lt r6_1; have z12_1 := isRow_lt r12_1
  clear e1
  refine (code2 p n f d c F G _ _ Hf.out HF.out HG.out r12_1 c12_1).mono ?_; rintro _ W2 ⟨rfl, hw2⟩
  obtain ⟨r3_2, c3_2, z3_2⟩ := keepZ hw2 z3_1 r3_1 c3_1
  obtain ⟨r4_2, c4_2, z4_2⟩ := keepZ hw2 z4_1 r4_1 c4_1
  obtain ⟨r5_2, c5_2, z5_2⟩ := keepZ hw2 z5_1 r5_1 c5_1
  obtain ⟨r6_2, c6_2, z6_2⟩ := keepZ hw2 z6_1 r6_1 c6_1
  obtain ⟨r12_2, c12_2, z12_2⟩ := keepZ hw2 z12_1 r12_1 c12_1
  obtain ⟨hb2, q2⟩ := bN hb1 hw2
  clear hw2 r3_1 c3_1 z3_1 r4_1 c4_1 z4_1 r5_1 c5_1 z5_1 r6_1 c6_1 z6_1 r12_1 c12_1 z12_1 hb1
  go_wp2_with fail
  refine bodyPost_ret (result_cell_tmp rfl aggMod _ _ (mdl 0 zf) _ _ rfl rfl ?_ ?_) rfl ⟨ret_mod2 (by rw [H.out.2] <;> rfl) H.out.1.symm, ?_⟩
  · simp [go_sem, r3_2, c3_2, r4_2, c4_2, r5_2, c5_2, r6_2, c6_2, r12_2, c12_2]
  · simp [go_sem, r3_2, c3_2, r4_2, c4_2, r5_2, c5_2, r6_2, c6_2, r12_2, c12_2]
  · exact bt
 ·
  by_cases hL : 8 < d * c
  ·
   have hc1 : codeB true = 0 := rfl
   have H := Lib.hid (lim_no2 (ok := true) rfl hL)
   have hh := (hm2_parts hc).1
   have hm1 := (hm2_parts hc).2.1
   have hm2 := (hm2_parts hc).2.2
   obtain ⟨hp2, hp31, hn1, hn8⟩ := sizes_range (hopf_sizes hh)
   obtain ⟨n, rfl⟩ := Int.eq_ofNat_of_zero_le (show 0 ≤ n by omega)
   have hp : 0 < p := by omega
   have hp' : p ≤ 255 := by omega
   have hn : n ≤ 8 := by omega
   have HH := Lib.hid hh
   rw [Int.toNat_natCast] at hm1 hm2
   obtain ⟨_, _, hd1, hd8⟩ := sizes_range (modB_sizes (hopf_sizes hh) hm1)
   obtain ⟨d, rfl⟩ := Int.eq_ofNat_of_zero_le (show 0 ≤ d by omega)
   have hd : d ≤ 8 := by omega
   have HS := Lib.hid (modB_shape HF.out hm1)
   obtain ⟨_, _, he1, he8⟩ := sizes_range (modB_sizes (hopf_sizes hh) hm2)
   obtain ⟨c, rfl⟩ := Int.eq_ofNat_of_zero_le (show 0 ≤ c by omega)
   have he : c ≤ 8 := by omega
   have HT := Lib.hid (modB_shape HG.out hm2)
   clear hm1 hm2 hh
   obtain ⟨D, hD⟩ : ∃ D : Nat, D = d * c := ⟨_, rfl⟩
   have hDi : (d : Int) * c = (D : Int) := by rw [hD, Int.natCast_mul]
   rw [hDi] at hL
   have HDi := Lib.hid hDi
   have HD := Lib.hid hD
   clear hD hDi
   have h8 : 8 < D := by omega
   have hm : d * c ≤ 8 * 8 := Nat.mul_le_mul hd he
   have hD64 : D ≤ 64 := by rw [HD.out]; exact hm
   clear hm
   have q0 : IntKind.i64.wrap ((d : Int) * c) = D := by rw [HDi.out]; exact IntWalk.i64_in _ (by omega)
   have y1 : decide (8 < D) = true := decide_eq_true h8
   have y2 : decide ((8 : Int) < (D : Int)) = true := decide_eq_true (by omega)
   go_enter Tryz.func21, Tryz.ntmps21
   go_wp2_with fail
   refine atomC fun W3 e3 => ?_
   have hb3 : Below w.heap.size w W3 := by rw [e3]; exact bt
   have q3 := hb3.size
   have R3 : IsRow W3 (w.heap.size) ∧ IsRow W3 (w.heap.size + 1) ∧ IsRow W3 (w.heap.size + 2) ∧ IsRow W3 (w.heap.size + 3) ∧ IsRow W3 (w.heap.size + 4) := by rw [e3]; simp [go_sem]
   obtain ⟨r3_3, r4_3, r5_3, r6_3, r12_3⟩ := R3
   have C3 := (⟨congrArg (blk · (w.heap.size)) e3, congrArg (blk · (w.heap.size + 1)) e3, congrArg (blk · (w.heap.size + 2)) e3, congrArg (blk · (w.heap.size + 3)) e3, congrArg (blk · (w.heap.size + 4)) e3⟩ : _ ∧ _ ∧ _ ∧ _ ∧ _); simp [go_sem] at C3
   obtain ⟨c3_3, c4_3, c5_3, c6_3, c12_3⟩ := C3
   have z3_3 := isRow_lt r3_3; have z4_3 := isRow_lt r4_3; have z5_3 := isRow_lt r5_3; have z6_3 := isRow_lt r6_3; have z12_3 := isRow_lt r12_3
   clear e3
   refine (code2 p n f d c F G _ _ Hf.out HF.out HG.out r12_3 c12_3).mono ?_; rintro _ W4 ⟨rfl, hw4⟩
   obtain ⟨r3_4, c3_4, z3_4⟩ := keepZ hw4 z3_3 r3_3 c3_3
   obtain ⟨r4_4, c4_4, z4_4⟩ := keepZ hw4 z4_3 r4_3 c4_3
   obtain ⟨r5_4, c5_4, z5_4⟩ := keepZ hw4 z5_3 r5_3 c5_3
   obtain ⟨r6_4, c6_4, z6_4⟩ := keepZ hw4 z6_3 r6_3 c6_3
   obtain ⟨r12_4, c12_4, z12_4⟩ := keepZ hw4 z12_3 r12_3 c12_3
   obtain ⟨hb4, q4⟩ := bN hb3 hw4
   clear hw4 r3_3 c3_3 z3_3 r4_3 c4_3 z4_3 r5_3 c5_3 z5_3 r6_3 c6_3 z6_3 r12_3 c12_3 z12_3 hb3
   go_wp2_with fail
   refine bodyPost_ret (result_cell_tmp rfl aggMod _ _ (mdl 0 zf) _ _ rfl rfl ?_ ?_) rfl ⟨ret_mod2 (by rw [H.out.2] <;> rfl) H.out.1.symm, ?_⟩
   · simp [go_sem, r3_4, c3_4, r4_4, c4_4, r5_4, c5_4, r6_4, c6_4, r12_4, c12_4]
   · simp [go_sem, r3_4, c3_4, r4_4, c4_4, r5_4, c5_4, r6_4, c6_4, r12_4, c12_4]
   · exact bt
  ·
   have hc1 : codeB true = 0 := rfl
   have H := Lib.hid (lim_yes (ok := true) rfl hL)
   have hh := (hm2_parts hc).1
   have hm1 := (hm2_parts hc).2.1
   have hm2 := (hm2_parts hc).2.2
   obtain ⟨hp2, hp31, hn1, hn8⟩ := sizes_range (hopf_sizes hh)
   obtain ⟨n, rfl⟩ := Int.eq_ofNat_of_zero_le (show 0 ≤ n by omega)
   have hp : 0 < p := by omega
   have hp' : p ≤ 255 := by omega
   have hn : n ≤ 8 := by omega
   have HH := Lib.hid hh
   rw [Int.toNat_natCast] at hm1 hm2
   obtain ⟨_, _, hd1, hd8⟩ := sizes_range (modB_sizes (hopf_sizes hh) hm1)
   obtain ⟨d, rfl⟩ := Int.eq_ofNat_of_zero_le (show 0 ≤ d by omega)
   have hd : d ≤ 8 := by omega
   have HS := Lib.hid (modB_shape HF.out hm1)
   obtain ⟨_, _, he1, he8⟩ := sizes_range (modB_sizes (hopf_sizes hh) hm2)
   obtain ⟨c, rfl⟩ := Int.eq_ofNat_of_zero_le (show 0 ≤ c by omega)
   have he : c ≤ 8 := by omega
   have HT := Lib.hid (modB_shape HG.out hm2)
   clear hm1 hm2 hh
   obtain ⟨D, hD⟩ : ∃ D : Nat, D = d * c := ⟨_, rfl⟩
   have hDi : (d : Int) * c = (D : Int) := by rw [hD, Int.natCast_mul]
   rw [hDi] at hL
   have HDi := Lib.hid hDi
   have HD := Lib.hid hD
   clear hD hDi
   have h8 : D ≤ 8 := by omega
   have q0 : IntKind.i64.wrap ((d : Int) * c) = D := by rw [HDi.out]; exact IntWalk.i64_in _ (by omega)
   have y1 : decide (8 < D) = false := decide_eq_false (by omega)
   have y2 : decide ((8 : Int) < (D : Int)) = false := decide_eq_false (by omega)
   go_enter Tryz.func21, Tryz.ntmps21
   go_wp2_with fail
   refine atomC fun W5 e5 => ?_
   have hb5 : Below w.heap.size w W5 := by rw [e5]; exact bt
   have q5 := hb5.size
   have R5 : IsRow W5 (w.heap.size) ∧ IsRow W5 (w.heap.size + 1) ∧ IsRow W5 (w.heap.size + 2) ∧ IsRow W5 (w.heap.size + 3) ∧ IsRow W5 (w.heap.size + 4) := by rw [e5]; simp [go_sem]
   obtain ⟨r3_5, r4_5, r5_5, r6_5, r12_5⟩ := R5
   have C5 := (⟨congrArg (blk · (w.heap.size)) e5, congrArg (blk · (w.heap.size + 1)) e5, congrArg (blk · (w.heap.size + 2)) e5, congrArg (blk · (w.heap.size + 3)) e5, congrArg (blk · (w.heap.size + 4)) e5⟩ : _ ∧ _ ∧ _ ∧ _ ∧ _); simp [go_sem] at C5
   obtain ⟨c3_5, c4_5, c5_5, c6_5, c12_5⟩ := C5
   have z3_5 := isRow_lt r3_5; have z4_5 := isRow_lt r4_5; have z5_5 := isRow_lt r5_5; have z6_5 := isRow_lt r6_5; have z12_5 := isRow_lt r12_5
   clear e5
   refine (code2 p n f d c F G _ _ Hf.out HF.out HG.out r12_5 c12_5).mono ?_; rintro _ W6 ⟨rfl, hw6⟩
   obtain ⟨r3_6, c3_6, z3_6⟩ := keepZ hw6 z3_5 r3_5 c3_5
   obtain ⟨r4_6, c4_6, z4_6⟩ := keepZ hw6 z4_5 r4_5 c4_5
   obtain ⟨r5_6, c5_6, z5_6⟩ := keepZ hw6 z5_5 r5_5 c5_5
   obtain ⟨r6_6, c6_6, z6_6⟩ := keepZ hw6 z6_5 r6_5 c6_5
   obtain ⟨r12_6, c12_6, z12_6⟩ := keepZ hw6 z12_5 r12_5 c12_5
   obtain ⟨hb6, q6⟩ := bN hb5 hw6
   clear hw6 r3_5 c3_5 z3_5 r4_5 c4_5 z4_5 r5_5 c5_5 z5_5 r6_5 c6_5 z6_5 r12_5 c12_5 z12_5 hb5
   go_wp2_with fail
   refine (l06Tensor_any p n d c D f F G _ hp hp' hp2 hn hd he (by omega) Hf.out HF.out HG.out HD.out h8).mono ?_; rintro _ W7 ⟨rfl, hw7⟩
   obtain ⟨r6_7, c6_7, z6_7⟩ := keepZ hw7 z6_6 r6_6 c6_6
   obtain ⟨hb7, q7⟩ := bN hb6 hw7
   clear hw7 r6_6 c6_6 z6_6 hb6
   go_wp2_with fail
   refine bodyPost_ret (result_cell_tmp rfl aggMod _ _ (mdl D (finM n D (tnG p n d c f F G))) _ _ rfl rfl ?_ ?_) rfl ⟨ret_mod2 (by rw [H.out.2]; show mdl D (finM n D (tnG p n d c f F G)) = mdl ((d : Int) * c) (finM n ((d : Int) * c).toNat (tnG p n d c f F G)); rw [HDi.out, Int.toNat_natCast]) H.out.1.symm, ?_⟩
   · simp [go_sem, r6_7, c6_7]
   · simp [go_sem, r6_7, c6_7]
   · exact bt

set_option maxRecDepth 100000 in
set_option maxHeartbeats 2000000 in
theorem lawTensorModule (fp fn : Int) (f : Nat → Int) (md : Int) (m : Nat → Int) (kd : Int) (k : Nat → Int) (w : World) (_wfp : (Lit.int .i64 fp).wf = true) (_wfn : (Lit.int .i64 fn).wf = true) (hf : Bytes 1104 f) (_wmd : (Lit.int .i64 md).wf = true) (hm : Bytes 512 m) (_wkd : (Lit.int .i64 kd).wf = true) (hk : Bytes 512 k) :
    Calls Tryz.prog 5 #[.agg (hop fp fn f), .agg (mdl md m), .agg (mdl kd k)] w fun e w' => e = .returned (.bool true) ∧ Below w.heap.size w w' := by
 have Hf := Lib.hid hf; clear hf
 have Hm := Lib.hid hm; clear hm
 have Hk := Lib.hid hk; clear hk
 go_enter Tryz.func5, Tryz.ntmps5
 go_wp2
 refine atomW fun W1 e1 => ?_
 have hb1 : Below w.heap.size w W1 := by rw [e1]; exact bt
 have q1 := hb1.size
 have R1 : IsRow W1 (w.heap.size) ∧ IsRow W1 (w.heap.size + 1) ∧ IsRow W1 (w.heap.size + 2) := by rw [e1]; simp [go_sem]
 obtain ⟨r3_1, r4_1, r5_1⟩ := R1
 have C1 := (⟨congrArg (blk · (w.heap.size)) e1, congrArg (blk · (w.heap.size + 1)) e1, congrArg (blk · (w.heap.size + 2)) e1⟩ : _ ∧ _ ∧ _); simp [go_sem] at C1
 obtain ⟨c3_1, c4_1, c5_1⟩ := C1
 have z3_1 := isRow_lt r3_1; have z4_1 := isRow_lt r4_1; have z5_1 := isRow_lt r5_1
 clear e1
 refine wp_quiet_alloc_late 10 9 _ _ (.cells (mdl 0 zf) 41) (Below W1.heap.size W1) (Made W1 (mdl 0 zf)) (by kernel_rfl) rfl rfl rfl (by kernel_rfl) (by kernel_rfl) (fun c a w d v h => by cases d <;> exact h) (fun a W => (xallocMod _ _ _ _ _ _ _).trans (allocMod W)) (closed_below W1) (closed_made W1 _) (fun b W h => h.1) (fun W h => made_new W1 _ _ W h) (Below.refl _ _).drew ?_
 simp only [List.take_succ_cons, List.take_zero, List.drop_succ_cons, List.drop_zero]
 iterate 1 (refine e_plain rfl ?_; apply Exists.intro; refine ⟨fun D hD hK W hW => ?_, ?_⟩; (focus (obtain ⟨x3, y3⟩ := keepB (hD W hW) z3_1 r3_1 c3_1; obtain ⟨x4, y4⟩ := keepB (hD W hW) z4_1 r4_1 c4_1; obtain ⟨x5, y5⟩ := keepB (hD W hW) z5_1 r5_1 c5_1; unfold Oper.quietAt; go_simp; first | done | rfl)); simp only [Act.put, List.setIfInBounds_toArray, List.set_cons_zero, List.set_cons_succ])
 (refine e_plain rfl ?_; apply Exists.intro; refine ⟨fun D hD hK W hW => ?_, ?_⟩; (focus (obtain ⟨x3, y3⟩ := keepB (hD W hW) z3_1 r3_1 c3_1; obtain ⟨x4, y4⟩ := keepB (hD W hW) z4_1 r4_1 c4_1; obtain ⟨x5, y5⟩ := keepB (hD W hW) z5_1 r5_1 c5_1; unfold Oper.quietAt; go_simp; (go_at_call 15; exact (toHopf_any _ _ _ _).mono fun e w2 ⟨he, hw2⟩ => ⟨he, hK _ _ hW hw2⟩))); simp only [Act.put, List.setIfInBounds_toArray, List.set_cons_zero, List.set_cons_succ])
 iterate 1 (refine e_plain rfl ?_; apply Exists.intro; refine ⟨fun D hD hK W hW => ?_, ?_⟩; (focus (obtain ⟨x3, y3⟩ := keepB (hD W hW) z3_1 r3_1 c3_1; obtain ⟨x4, y4⟩ := keepB (hD W hW) z4_1 r4_1 c4_1; obtain ⟨x5, y5⟩ := keepB (hD W hW) z5_1 r5_1 c5_1; unfold Oper.quietAt; go_simp; first | done | rfl)); simp only [Act.put, List.setIfInBounds_toArray, List.set_cons_zero, List.set_cons_succ])
 (refine e_plain rfl ?_; apply Exists.intro; refine ⟨fun D hD hK W hW => ?_, ?_⟩; (focus (obtain ⟨x3, y3⟩ := keepB (hD W hW) z3_1 r3_1 c3_1; obtain ⟨x4, y4⟩ := keepB (hD W hW) z4_1 r4_1 c4_1; obtain ⟨x5, y5⟩ := keepB (hD W hW) z5_1 r5_1 c5_1; unfold Oper.quietAt; go_simp; (go_at_call 18; exact (toModule_any _ _ _).mono fun e w2 ⟨he, hw2⟩ => ⟨he, hK _ _ hW hw2⟩))); simp only [Act.put, List.setIfInBounds_toArray, List.set_cons_zero, List.set_cons_succ])
 iterate 1 (refine e_plain rfl ?_; apply Exists.intro; refine ⟨fun D hD hK W hW => ?_, ?_⟩; (focus (obtain ⟨x3, y3⟩ := keepB (hD W hW) z3_1 r3_1 c3_1; obtain ⟨x4, y4⟩ := keepB (hD W hW) z4_1 r4_1 c4_1; obtain ⟨x5, y5⟩ := keepB (hD W hW) z5_1 r5_1 c5_1; unfold Oper.quietAt; go_simp; first | done | rfl)); simp only [Act.put, List.setIfInBounds_toArray, List.set_cons_zero, List.set_cons_succ])
 (refine e_plain rfl ?_; apply Exists.intro; refine ⟨fun D hD hK W hW => ?_, ?_⟩; (focus (obtain ⟨x3, y3⟩ := keepB (hD W hW) z3_1 r3_1 c3_1; obtain ⟨x4, y4⟩ := keepB (hD W hW) z4_1 r4_1 c4_1; obtain ⟨x5, y5⟩ := keepB (hD W hW) z5_1 r5_1 c5_1; unfold Oper.quietAt; go_simp; (go_at_call 18; exact (toModule_any _ _ _).mono fun e w2 ⟨he, hw2⟩ => ⟨he, hK _ _ hW hw2⟩))); simp only [Act.put, List.setIfInBounds_toArray, List.set_cons_zero, List.set_cons_succ])
 (refine e_plain rfl ?_; apply Exists.intro; refine ⟨fun D hD hK W hW => ?_, ?_⟩; (focus (obtain ⟨x3, y3⟩ := keepB (hD W hW) z3_1 r3_1 c3_1; obtain ⟨x4, y4⟩ := keepB (hD W hW) z4_1 r4_1 c4_1; obtain ⟨x5, y5⟩ := keepB (hD W hW) z5_1 r5_1 c5_1; unfold Oper.quietAt; go_simp; (go_at_call 21; exact (specTen_any _ _ _ _ _ _ _ _ Hf.out Hm.out Hk.out).mono fun e w2 ⟨he, hw2⟩ => ⟨he, hK _ _ hW hw2⟩))); simp only [Act.put, List.setIfInBounds_toArray, List.set_cons_zero, List.set_cons_succ])
 iterate 3 (refine e_plain rfl ?_; apply Exists.intro; refine ⟨fun D hD hK W hW => ?_, ?_⟩; (focus (obtain ⟨x3, y3⟩ := keepB (hD W hW) z3_1 r3_1 c3_1; obtain ⟨x4, y4⟩ := keepB (hD W hW) z4_1 r4_1 c4_1; obtain ⟨x5, y5⟩ := keepB (hD W hW) z5_1 r5_1 c5_1; unfold Oper.quietAt; go_simp; first | done | rfl)); simp only [Act.put, List.setIfInBounds_toArray, List.set_cons_zero, List.set_cons_succ])
 refine e_nil ?_
 intro a2 W2 hW2
 obtain ⟨hw2, hl2, m1_2, m2_2⟩ := hW2
 have n3_7 : (w.heap.size) ≠ (a2) := by have := z3_1; omega
 have n7_3 : (a2) ≠ (w.heap.size) := by have := z3_1; omega
 have n4_7 : (w.heap.size + 1) ≠ (a2) := by have := z4_1; omega
 have n7_4 : (a2) ≠ (w.heap.size + 1) := by have := z4_1; omega
 have n5_7 : (w.heap.size + 2) ≠ (a2) := by have := z5_1; omega
 have n7_5 : (a2) ≠ (w.heap.size + 2) := by have := z5_1; omega
 obtain ⟨r3_2, c3_2, z3_2⟩ := keepZ hw2 z3_1 r3_1 c3_1
 obtain ⟨r4_2, c4_2, z4_2⟩ := keepZ hw2 z4_1 r4_1 c4_1
 obtain ⟨r5_2, c5_2, z5_2⟩ := keepZ hw2 z5_1 r5_1 c5_1
 obtain ⟨hb2, q2⟩ := bN hb1 hw2
 clear hw2 r3_1 c3_1 z3_1 r4_1 c4_1 z4_1 r5_1 c5_1 z5_1 hb1
 have z7_2 := isRow_lt m1_2
 simp only [Act.put, List.setIfInBounds_toArray, List.set_cons_zero, List.set_cons_succ]
 go_wp2
 refine atomW fun W3 e3 => ?_
 have hb3 : Below w.heap.size w W3 := by rw [e3]; exact bt
 have q3 := hb3.size
 have R3 : IsRow W3 (w.heap.size) ∧ IsRow W3 (w.heap.size + 1) ∧ IsRow W3 (w.heap.size + 2) ∧ IsRow W3 (a2) := by rw [e3]; simp [go_sem, r3_2, c3_2, n3_7, r4_2, c4_2, n4_7, r5_2, c5_2, n5_7, m1_2, m2_2, n7_3, n7_4, n7_5]
 obtain ⟨r3_3, r4_3, r5_3, r7_3⟩ := R3
 have C3 := (⟨congrArg (blk · (w.heap.size)) e3, congrArg (blk · (w.heap.size + 1)) e3, congrArg (blk · (w.heap.size + 2)) e3, congrArg (blk · (a2)) e3⟩ : _ ∧ _ ∧ _ ∧ _); simp [go_sem, r3_2, c3_2, n3_7, r4_2, c4_2, n4_7, r5_2, c5_2, n5_7, m1_2, m2_2, n7_3, n7_4, n7_5] at C3
 obtain ⟨c3_3, c4_3, c5_3, c7_3⟩ := C3
 have z3_3 := isRow_lt r3_3; have z4_3 := isRow_lt r4_3; have z5_3 := isRow_lt r5_3; have z7_3 := isRow_lt r7_3
 clear e3 r3_2 c3_2 z3_2 r4_2 c4_2 z4_2 r5_2 c5_2 z5_2 m1_2 m2_2 z7_2 hb2
 refine wp_quiet_alloc_late 10 9 _ _ (.cells (mdl 0 zf) 41) (Below W3.heap.size W3) (Made W3 (mdl 0 zf)) (by kernel_rfl) rfl rfl rfl (by kernel_rfl) (by kernel_rfl) (fun c a w d v h => by cases d <;> exact h) (fun a W => (xallocMod _ _ _ _ _ _ _).trans (allocMod W)) (closed_below W3) (closed_made W3 _) (fun b W h => h.1) (fun W h => made_new W3 _ _ W h) (Below.refl _ _).drew ?_
 simp only [List.take_succ_cons, List.take_zero, List.drop_succ_cons, List.drop_zero]
 iterate 1 (refine e_plain rfl ?_; apply Exists.intro; refine ⟨fun D hD hK W hW => ?_, ?_⟩; (focus (obtain ⟨x3, y3⟩ := keepB (hD W hW) z3_3 r3_3 c3_3; obtain ⟨x4, y4⟩ := keepB (hD W hW) z4_3 r4_3 c4_3; obtain ⟨x5, y5⟩ := keepB (hD W hW) z5_3 r5_3 c5_3; obtain ⟨x7, y7⟩ := keepB (hD W hW) z7_3 r7_3 c7_3; unfold Oper.quietAt; go_simp; first | done | rfl)); simp only [Act.put, List.setIfInBounds_toArray, List.set_cons_zero, List.set_cons_succ])
 (refine e_plain rfl ?_; apply Exists.intro; refine ⟨fun D hD hK W hW => ?_, ?_⟩; (focus (obtain ⟨x3, y3⟩ := keepB (hD W hW) z3_3 r3_3 c3_3; obtain ⟨x4, y4⟩ := keepB (hD W hW) z4_3 r4_3 c4_3; obtain ⟨x5, y5⟩ := keepB (hD W hW) z5_3 r5_3 c5_3; obtain ⟨x7, y7⟩ := keepB (hD W hW) z7_3 r7_3 c7_3; unfold Oper.quietAt; go_simp; (go_at_call 15; exact (toHopf_any _ _ _ _).mono fun e w2 ⟨he, hw2⟩ => ⟨he, hK _ _ hW hw2⟩))); simp only [Act.put, List.setIfInBounds_toArray, List.set_cons_zero, List.set_cons_succ])
 iterate 1 (refine e_plain rfl ?_; apply Exists.intro; refine ⟨fun D hD hK W hW => ?_, ?_⟩; (focus (obtain ⟨x3, y3⟩ := keepB (hD W hW) z3_3 r3_3 c3_3; obtain ⟨x4, y4⟩ := keepB (hD W hW) z4_3 r4_3 c4_3; obtain ⟨x5, y5⟩ := keepB (hD W hW) z5_3 r5_3 c5_3; obtain ⟨x7, y7⟩ := keepB (hD W hW) z7_3 r7_3 c7_3; unfold Oper.quietAt; go_simp; first | done | rfl)); simp only [Act.put, List.setIfInBounds_toArray, List.set_cons_zero, List.set_cons_succ])
 (refine e_plain rfl ?_; apply Exists.intro; refine ⟨fun D hD hK W hW => ?_, ?_⟩; (focus (obtain ⟨x3, y3⟩ := keepB (hD W hW) z3_3 r3_3 c3_3; obtain ⟨x4, y4⟩ := keepB (hD W hW) z4_3 r4_3 c4_3; obtain ⟨x5, y5⟩ := keepB (hD W hW) z5_3 r5_3 c5_3; obtain ⟨x7, y7⟩ := keepB (hD W hW) z7_3 r7_3 c7_3; unfold Oper.quietAt; go_simp; (go_at_call 18; exact (toModule_any _ _ _).mono fun e w2 ⟨he, hw2⟩ => ⟨he, hK _ _ hW hw2⟩))); simp only [Act.put, List.setIfInBounds_toArray, List.set_cons_zero, List.set_cons_succ])
 iterate 1 (refine e_plain rfl ?_; apply Exists.intro; refine ⟨fun D hD hK W hW => ?_, ?_⟩; (focus (obtain ⟨x3, y3⟩ := keepB (hD W hW) z3_3 r3_3 c3_3; obtain ⟨x4, y4⟩ := keepB (hD W hW) z4_3 r4_3 c4_3; obtain ⟨x5, y5⟩ := keepB (hD W hW) z5_3 r5_3 c5_3; obtain ⟨x7, y7⟩ := keepB (hD W hW) z7_3 r7_3 c7_3; unfold Oper.quietAt; go_simp; first | done | rfl)); simp only [Act.put, List.setIfInBounds_toArray, List.set_cons_zero, List.set_cons_succ])
 (refine e_plain rfl ?_; apply Exists.intro; refine ⟨fun D hD hK W hW => ?_, ?_⟩; (focus (obtain ⟨x3, y3⟩ := keepB (hD W hW) z3_3 r3_3 c3_3; obtain ⟨x4, y4⟩ := keepB (hD W hW) z4_3 r4_3 c4_3; obtain ⟨x5, y5⟩ := keepB (hD W hW) z5_3 r5_3 c5_3; obtain ⟨x7, y7⟩ := keepB (hD W hW) z7_3 r7_3 c7_3; unfold Oper.quietAt; go_simp; (go_at_call 18; exact (toModule_any _ _ _).mono fun e w2 ⟨he, hw2⟩ => ⟨he, hK _ _ hW hw2⟩))); simp only [Act.put, List.setIfInBounds_toArray, List.set_cons_zero, List.set_cons_succ])
 (refine e_plain rfl ?_; apply Exists.intro; refine ⟨fun D hD hK W hW => ?_, ?_⟩; (focus (obtain ⟨x3, y3⟩ := keepB (hD W hW) z3_3 r3_3 c3_3; obtain ⟨x4, y4⟩ := keepB (hD W hW) z4_3 r4_3 c4_3; obtain ⟨x5, y5⟩ := keepB (hD W hW) z5_3 r5_3 c5_3; obtain ⟨x7, y7⟩ := keepB (hD W hW) z7_3 r7_3 c7_3; unfold Oper.quietAt; go_simp; (go_at_call 22; exact (implTen_any _ _ _ _ _ _ _ _ Hf.out Hm.out Hk.out).mono fun e w2 ⟨he, hw2⟩ => ⟨he, hK _ _ hW hw2⟩))); simp only [Act.put, List.setIfInBounds_toArray, List.set_cons_zero, List.set_cons_succ])
 iterate 3 (refine e_plain rfl ?_; apply Exists.intro; refine ⟨fun D hD hK W hW => ?_, ?_⟩; (focus (obtain ⟨x3, y3⟩ := keepB (hD W hW) z3_3 r3_3 c3_3; obtain ⟨x4, y4⟩ := keepB (hD W hW) z4_3 r4_3 c4_3; obtain ⟨x5, y5⟩ := keepB (hD W hW) z5_3 r5_3 c5_3; obtain ⟨x7, y7⟩ := keepB (hD W hW) z7_3 r7_3 c7_3; unfold Oper.quietAt; go_simp; first | done | rfl)); simp only [Act.put, List.setIfInBounds_toArray, List.set_cons_zero, List.set_cons_succ])
 refine e_nil ?_
 intro a4 W4 hW4
 obtain ⟨hw4, hl4, m1_4, m2_4⟩ := hW4
 have n3_9 : (w.heap.size) ≠ (a4) := by have := z3_3; omega
 have n9_3 : (a4) ≠ (w.heap.size) := by have := z3_3; omega
 have n4_9 : (w.heap.size + 1) ≠ (a4) := by have := z4_3; omega
 have n9_4 : (a4) ≠ (w.heap.size + 1) := by have := z4_3; omega
 have n5_9 : (w.heap.size + 2) ≠ (a4) := by have := z5_3; omega
 have n9_5 : (a4) ≠ (w.heap.size + 2) := by have := z5_3; omega
 have n7_9 : (a2) ≠ (a4) := by have := z7_3; omega
 have n9_7 : (a4) ≠ (a2) := by have := z7_3; omega
 obtain ⟨r3_4, c3_4, z3_4⟩ := keepZ hw4 z3_3 r3_3 c3_3
 obtain ⟨r4_4, c4_4, z4_4⟩ := keepZ hw4 z4_3 r4_3 c4_3
 obtain ⟨r5_4, c5_4, z5_4⟩ := keepZ hw4 z5_3 r5_3 c5_3
 obtain ⟨r7_4, c7_4, z7_4⟩ := keepZ hw4 z7_3 r7_3 c7_3
 obtain ⟨hb4, q4⟩ := bN hb3 hw4
 clear hw4 r3_3 c3_3 z3_3 r4_3 c4_3 z4_3 r5_3 c5_3 z5_3 r7_3 c7_3 z7_3 hb3
 have z9_4 := isRow_lt m1_4
 simp only [Act.put, List.setIfInBounds_toArray, List.set_cons_zero, List.set_cons_succ]
 go_wp2_with fail
 refine atomC fun W5 e5 => ?_
 have hb5 : Below w.heap.size w W5 := by rw [e5]; exact bt
 have q5 := hb5.size
 clear e5 hb4
 refine (eqModule_same _ _ _).mono ?_; rintro _ W6 ⟨rfl, hw6⟩
 obtain ⟨hb6, q6⟩ := bN hb5 hw6
 clear hw6 hb5
 go_wp2_with fail
 go_ret
 exact ⟨rfl, bt⟩

end Go.Proofs.YtfmhgfnadgaiaaaGreat
