/- Sums of modules. -/
import Derived.Test.YtfmhgfnadgaiaaaGreatM3
namespace Go.Proofs.YtfmhgfnadgaiaaaGreat
open Go.RowKit
set_option linter.unusedSimpArgs false
set_option linter.unusedVariables false
attribute [local irreducible] wpQuiet wpQE

theorem copyRow {P : Program} {w : World} {ops : Array Oper} {rest : List Oper} {o : Oper} {a : Act} {Q : Exit → Act → World → Prop} (hgd : o.guard = none) (d s : Operand) (dT sT : TypeId)
    (ho : o.op = .call { callee := .builtin .copy, args := #[d, s], argTypes := #[dT, sT] }) (elem : TypeId) (hu : P.underlying dT = some (.slice elem)) (hsz : (P.info? elem).map (·.size) = some 1)
    (g off dLen dCap g' off' sLen sCap : Nat) (hd : a.eval d = .slice (some ⟨g, off, none⟩) dLen dCap) (hs : a.eval s = .slice (some ⟨g', off', none⟩) sLen sCap)
    (N : Nat) (F : Nat → Int) (hr : IsRow w g) (hc : blk w g = row N F) (M : Nat) (v : Nat → Int) (hr' : IsRow w g') (hc' : blk w g' = row M v) (k : Nat) (hk : k = min sLen dLen) (hfit : off + k ≤ N) (hfit' : off' + k ≤ M)
    (h : wpList P ops Q rest (a.put o.dst (goInt k)) (w.setRow g (row N fun t => if off ≤ t ∧ t < off + k then v (off' + (t - off)) else F t))) : wpList P ops Q (o :: rest) a w := by
  obtain ⟨t, ht⟩ := isRow_heap hr
  rw [hc] at ht
  have hl : ((List.range k).map fun j => Value.int .u8 (v (off' + j))).length = k := by simp
  have e : ((row N F).toList.take off ++ (((List.range k).map fun j => Value.int .u8 (v (off' + j))) ++ (row N F).toList.drop (off + k))).toArray = row N fun t => if off ≤ t ∧ t < off + k then v (off' + (t - off)) else F t := by
    apply Array.ext_getElem?
    intro i
    rw [List.getElem?_toArray, List.getElem?_append, List.getElem?_append, hl]
    simp only [List.length_take, Array.length_toList, row_size, List.getElem?_take, List.getElem?_drop, Array.getElem?_toList]
    by_cases h1 : i < off
    · rw [if_pos (by omega), if_pos h1, row_get? N F i (by omega), row_get? N _ i (by omega), if_neg (by omega)]
    · rw [if_neg (by omega)]
      by_cases h2 : i < off + k
      · rw [if_pos (by omega), List.getElem?_map, List.getElem?_range (by omega), row_get? N _ i (by omega), if_pos (by omega)]
        show some (Value.int .u8 (v (off' + (i - min off N)))) = _
        rw [show min off N = off by omega]
      · rw [if_neg (by omega)]
        by_cases h3 : i < N
        · rw [show off + k + (i - min off N - k) = i by omega, row_get? N F i h3, row_get? N _ i h3, if_neg (by omega)]
        · rw [row_get_none N F _ (by omega), row_get_none N _ i (by omega)]
  refine wpList_copy_own hgd d s dT sT ho elem hu hsz g off dLen dCap ⟨g', off', none⟩ sLen sCap hd hs (row N F) t ht ((List.range k).map fun j => .int .u8 (v (off' + j))) (by rw [hl, hk]) (fun j x hj => ?_) (by rw [hl, row_size]; exact hfit) (fun x hx => ?_) ?_
  · have hjk : j < k := by
      have := (List.getElem?_eq_some_iff.1 hj).1
      omega
    rw [List.getElem?_map, List.getElem?_range hjk] at hj
    have e2 : Addr.add ⟨g', off', none⟩ j = ⟨g', off' + j, none⟩ := by
      unfold Addr.add
      by_cases h : j = 0
      · subst h; rw [if_pos rfl]; rfl
      · rw [if_neg h]
    rw [e2, cell_blk, hc', row_get? M v _ (by omega)]
    exact hj
  · obtain ⟨j, _, rfl⟩ := List.mem_map.1 hx
    rfl
  · rw [hl, e]; exact h

@[go_sem] theorem sliceLow (b d : Nat) (hd : d < 8) (w : World) : (Instr.sliceAt 29 (.pointer (some ⟨b, 0, none⟩)) (some (.int .i64 d)) none none).run Tryz.prog w = .ok (.slice (some ⟨b, d, none⟩) (8 - d) (8 - d)) w := by
  rcases (show d = 0 ∨ d = 1 ∨ d = 2 ∨ d = 3 ∨ d = 4 ∨ d = 5 ∨ d = 6 ∨ d = 7 by omega) with rfl | rfl | rfl | rfl | rfl | rfl | rfl | rfl
  all_goals kernel_rfl

@[go_sem ↓] theorem xbuildSum (ρ : Operand → Value) (dst : Option Tmp) (a b : Operand) (ty : TypeId) (pos : String) (after : Array Edge) (guard : Option (Nat × Bool)) (w : World) :
    (execOp ρ ⟨dst, .build 85 #[(0, a), (1, b)], ty, pos, after, guard⟩).run Tryz.prog w = buildS Tryz.prog 85 #[(0, ρ a), (1, ρ b)] w := by kernel_rfl
@[go_sem] theorem buildSum (t u : TypeId) (v v' : Value) (w : World) : buildS Tryz.prog 85 #[(0, .iface t v), (1, .iface u v')] w = .ok (.value (.agg #[.iface t v, .iface u v'])) w := by
  refine build_struct (fields := fieldsOf Tryz.prog 85) (places := #[(0, 1), (1, 1)]) (zc := #[.nilIface, .nilIface]) (by kernel_rfl) (by kernel_rfl) (fun w => by kernel_rfl) ?_ w
  show Instr.fill _ _ [_, _] = _
  rw [fill_cell (off := 0) rfl rfl (by simp), fill_cell (off := 1) rfl rfl (by simp)]
  rfl
/-- v moved by b places -/
def movF (v : Nat → Int) (b : Nat) : Nat → Int := fun t => if b ≤ t then v (t - b) else 0
def movK (v : Nat → Int) (b i : Nat) : Nat → Int := fun t => if b ≤ t ∧ t < b + i then v (t - b) else 0
theorem mov_zero (v : Nat → Int) (b : Nat) : row 8 zf = row 8 (movK v b 0) := row_congr fun t _ => by unfold movK zf; rw [if_neg (by omega)]
theorem mov_step (v : Nat → Int) (b i : Nat) : row 8 (upd (movK v b i) (i + b) (v i)) = row 8 (movK v b (i + 1)) := row_congr fun t _ => by
  unfold upd movK
  by_cases h : t = i + b
  · rw [if_pos h, if_pos (by omega), show t - b = i by omega]
  · rw [if_neg h]
    exact ifj (by omega) _
theorem mov_end {v : Nat → Int} {b i : Nat} (h : i = 8 - b) : row 8 (movK v b i) = row 8 (movF v b) := row_congr fun t ht => by
  unfold movK movF
  exact ifj (by omega) _
def sumG (d : Nat) (F G : Nat → Int) (i j : Nat) : Nat → Int := if j < d then act F i j else movF (act G i (j - d)) d
theorem sum_copy {d : Nat} {F G : Nat → Int} {i j : Nat} (h : ¬ j < d) (hd : d ≤ 8) : row 8 (sumG d F G i j) = row 8 (fun t => if d ≤ t ∧ t < 8 then act G i (j - d) (t - d) else zf t) := row_congr fun t ht => by
  unfold sumG movF zf
  rw [if_neg h]
  by_cases h2 : d ≤ t
  · rw [if_pos h2, if_pos (by omega)]
  · rw [if_neg h2, if_neg (by omega)]
/-- by the reference model: written up to i, j -/
def suP (d e : Nat) (F G : Nat → Int) (i j : Nat) : Nat → Int := fun u => if (d ≤ u / 8 % 8 ∧ u / 8 % 8 < d + e) ∧ (u / 64 < i ∨ (u / 64 = i ∧ u / 8 % 8 < d + j)) then movF (act G (u / 64) (u / 8 % 8 - d)) d (u % 8) else F u
theorem ife {P Q : Prop} [Decidable P] [Decidable Q] (h : P ↔ Q) (x y : Int) : (if P then x else y) = if Q then x else y := by
  by_cases hp : P
  · rw [if_pos hp, if_pos (h.1 hp)]
  · rw [if_neg hp, if_neg fun hq => hp (h.2 hq)]
theorem su_zero (x : Int) (d e : Nat) (F G : Nat → Int) : mdl x F = mdl x (suP d e F G 0 0) := mdl_congr fun u _ => by unfold suP; rw [if_neg (by omega)]
theorem su_step {x : Int} {d e : Nat} {F G : Nat → Int} {i j : Nat} (hi : i < 8) (hj : j < e) (hd : d + e ≤ 8) : lay (mdl x (suP d e F G i j)) (1 + i * 64 + (d + j) * 8) (row 8 (movF (act G i j) d)) = mdl x (suP d e F G i (j + 1)) := by
  rw [show 1 + i * 64 + (d + j) * 8 = 1 + (i * 64 + (d + j) * 8) by omega, lay_mdl _ _ _ _ _ (by omega)]
  refine mdl_congr fun u hu => ?_
  by_cases h : i * 64 + (d + j) * 8 ≤ u ∧ u < i * 64 + (d + j) * 8 + 8
  · rw [if_pos h]
    unfold suP
    rw [if_pos (by omega), show u / 64 = i by omega, show u / 8 % 8 - d = j by omega, show u - (i * 64 + (d + j) * 8) = u % 8 by omega]
  · rw [if_neg h]
    unfold suP
    exact ife (by omega) _ _
theorem su_stepS {x : Int} {d e : Nat} {F G : Nat → Int} {i j s : Nat} (hs : s = d + j) (hi : i < 8) (hj : j < e) (hd : d + e ≤ 8) : lay (mdl x (suP d e F G i j)) (1 + i * 64 + s * 8) (row 8 (movF (act G i j) d)) = mdl x (suP d e F G i (j + 1)) := by
  subst hs; exact su_step hi hj hd
theorem su_row {x : Int} {d e : Nat} {F G : Nat → Int} {i : Nat} : mdl x (suP d e F G i e) = mdl x (suP d e F G (i + 1) 0) := mdl_congr fun u hu => by
  unfold suP
  exact ife (by omega) _ _
theorem su_end {p x : Int} {n d e : Nat} {F G : Nat → Int} (hS : ModS p n d F) (hd : d + e ≤ 8) : mdl x (suP d e F G n 0) = mdl x (finM n (d + e) (sumG d F G)) := mdl_congr fun u hu => by
  unfold suP finM sumG
  have e1 : act F (u / 64) (u / 8 % 8) (u % 8) = F u := by unfold act; congr 1; omega
  by_cases h1 : u / 64 < n
  · by_cases h2 : u / 8 % 8 < d
    · rw [if_neg (by omega), if_pos (by omega), if_pos h2, e1]
    · by_cases h3 : u / 8 % 8 < d + e
      · rw [if_pos (by omega), if_pos (by omega), if_neg h2]
      · rw [if_neg (by omega), if_neg (by omega), ← e1]
        exact hS.low _ _ _ (by omega) (by omega) (by omega) (by omega)
  · rw [if_neg (by omega), if_neg (by omega), ← e1]
    exact hS.far _ _ _ (by omega) (by omega) (by omega) (by omega)
/-- ErrNone, ErrInvalid, ErrLimit -/
def limC (ok : Bool) (D : Int) : Int := match ok with | false => 1 | true => if 8 < D then 3 else 0
def limOk (ok : Bool) (D : Int) : Bool := ok && decide (D ≤ 8)
theorem lim_no1 {ok : Bool} {D : Int} (h : ok = false) : limC ok D = 1 ∧ limOk ok D = false := by unfold limC limOk; rw [h]; exact ⟨rfl, rfl⟩
theorem lim_no2 {ok : Bool} {D : Int} (h : ok = true) (h2 : 8 < D) : limC ok D = 3 ∧ limOk ok D = false := by
  unfold limC limOk; rw [h]
  exact ⟨if_pos h2, by rw [decide_eq_false (by omega)]; rfl⟩
theorem lim_yes {ok : Bool} {D : Int} (h : ok = true) (h2 : ¬ 8 < D) : limC ok D = 0 ∧ limOk ok D = true := by
  unfold limC limOk; rw [h]
  exact ⟨if_neg h2, by rw [decide_eq_true (by omega)]; rfl⟩
theorem ret_mod2 {d e a b : Int} {F G : Nat → Int} (h : mdl d F = mdl e G) (h2 : a = b) : Ending.returned (.tuple #[.agg (mdl d F), .int .i64 a]) = .returned (.tuple #[.agg (mdl e G), .int .i64 b]) := by rw [h, h2]

set_option maxRecDepth 100000 in
set_option maxHeartbeats 1000000 in
theorem sdim_any (d c D : Nat) (F G : Nat → Int) (w : World) (hd : d ≤ 8) (he : c ≤ 8) (hD : D = d + c) :
    Calls Tryz.prog 234 #[.agg #[.iface 41 (.agg (mdl d F)), .iface 41 (.agg (mdl c G))]] w fun e w' => e = .returned (.int .i64 D) ∧ Below w.heap.size w w' := by
 have q0 : IntKind.i64.wrap ((d : Int) + c) = D := by rw [IntWalk.i64_in _ (by omega)]; omega
 clear hD
 go_enter Tryz.func234, Tryz.ntmps234
 go_wp2
 refine atomW fun W1 e1 => ?_
 have hb1 : Below w.heap.size w W1 := by rw [e1]; exact bt
 have q1 := hb1.size
 have r1_1 : IsRow W1 (w.heap.size) := by rw [e1]; simp [go_sem]
 have c1_1 := congrArg (fun x => blk x (w.heap.size)) e1; simp [go_sem] at c1_1
 have z1_1 := isRow_lt r1_1
 clear e1
 refine wp_quiet_all (Below W1.heap.size W1) (by kernel_rfl) (by kernel_rfl) (Below.refl _ _).drew ?_
 iterate 2 (refine q_plain rfl ?_; apply Exists.intro; refine ⟨fun W hW => ?_, ?_⟩; (focus (obtain ⟨x1, y1⟩ := keepB hW z1_1 r1_1 c1_1; go_simp; first | done | rfl)); simp only [Act.put, List.setIfInBounds_toArray, List.set_cons_zero, List.set_cons_succ])
 (refine q_plain rfl ?_; apply Exists.intro; refine ⟨fun W hW => ?_, ?_⟩; (focus (obtain ⟨x1, y1⟩ := keepB hW z1_1 r1_1 c1_1; go_simp; (go_at_call 232; exact (mdim_any d F _).mono fun e w2 ⟨he, hw2⟩ => ⟨he, hW.trans (hw2.mono hW.size)⟩))); simp only [Act.put, List.setIfInBounds_toArray, List.set_cons_zero, List.set_cons_succ])
 iterate 2 (refine q_plain rfl ?_; apply Exists.intro; refine ⟨fun W hW => ?_, ?_⟩; (focus (obtain ⟨x1, y1⟩ := keepB hW z1_1 r1_1 c1_1; go_simp; first | done | rfl)); simp only [Act.put, List.setIfInBounds_toArray, List.set_cons_zero, List.set_cons_succ])
 (refine q_plain rfl ?_; apply Exists.intro; refine ⟨fun W hW => ?_, ?_⟩; (focus (obtain ⟨x1, y1⟩ := keepB hW z1_1 r1_1 c1_1; go_simp; (go_at_call 232; exact (mdim_any c G _).mono fun e w2 ⟨he, hw2⟩ => ⟨he, hW.trans (hw2.mono hW.size)⟩))); simp only [Act.put, List.setIfInBounds_toArray, List.set_cons_zero, List.set_cons_succ])
 iterate 2 (refine q_plain rfl ?_; apply Exists.intro; refine ⟨fun W hW => ?_, ?_⟩; (focus (obtain ⟨x1, y1⟩ := keepB hW z1_1 r1_1 c1_1; go_simp; first | done | rfl)); simp only [Act.put, List.setIfInBounds_toArray, List.set_cons_zero, List.set_cons_succ])
 refine wpQuiet_nil ?_
 intro W2 hw2
 obtain ⟨r1_2, c1_2, z1_2⟩ := keepZ hw2 z1_1 r1_1 c1_1
 obtain ⟨hb2, q2⟩ := bN hb1 hw2
 clear hw2 r1_1 c1_1 z1_1 hb1
 go_wp2_with fail
 go_ret
 exact ⟨rfl, bt⟩

set_option maxRecDepth 100000 in
set_option maxHeartbeats 1000000 in
theorem simage_any (d c i j : Nat) (F G : Nat → Int) (w : World) (hd : d ≤ 8) (he : c ≤ 8) (hi : i < 8) (hj : j < d + c) (hj8 : j < 8) :
    Calls Tryz.prog 235 #[.agg #[.iface 41 (.agg (mdl d F)), .iface 41 (.agg (mdl c G))], .int .i64 i, .int .i64 j] w fun e w' => e = .returned (.agg (row 8 (sumG d F G i j))) ∧ Below w.heap.size w w' := by
 by_cases hjd : j < d
 ·
  have y1 : decide (j < d) = true := decide_eq_true hjd
  have H : Hid (sumG d F G i j = act F i j) := Lib.hid (if_pos hjd)
  go_enter Tryz.func235, Tryz.ntmps235
  go_wp2_with fail
  refine atomC fun W1 e1 => ?_
  have hb1 : Below w.heap.size w W1 := by rw [e1]; exact bt
  have q1 := hb1.size
  have R1 : IsRow W1 (w.heap.size) ∧ IsRow W1 (w.heap.size + 1) := by rw [e1]; simp [go_sem]
  obtain ⟨r3_1, r6_1⟩ := R1
  have C1 := (⟨congrArg (blk · (w.heap.size)) e1, congrArg (blk · (w.heap.size + 1)) e1⟩ : _ ∧ _); simp [go_sem] at C1
  obtain ⟨c3_1, c6_1⟩ := C1
  have z3_1 := isRow_lt r3_1; have z6_1 := isRow_lt r6_1
  clear e1
  refine (mdim_any d F _).mono ?_; rintro _ W2 ⟨rfl, hw2⟩
  obtain ⟨r3_2, c3_2, z3_2⟩ := keepZ hw2 z3_1 r3_1 c3_1
  obtain ⟨r6_2, c6_2, z6_2⟩ := keepZ hw2 z6_1 r6_1 c6_1
  obtain ⟨hb2, q2⟩ := bN hb1 hw2
  clear hw2 r3_1 c3_1 z3_1 r6_1 c6_1 z6_1 hb1
  go_wp2_with fail
  refine (mimage_any d F i j _ hi (by omega)).mono ?_; rintro _ W3 ⟨rfl, hw3⟩
  obtain ⟨r6_3, c6_3, z6_3⟩ := keepZ hw3 z6_2 r6_2 c6_2
  obtain ⟨hb3, q3⟩ := bN hb2 hw3
  clear hw3 r6_2 c6_2 z6_2 hb2
  go_wp2_with fail
  refine bodyPost_ret (result_cell rfl aggVec _ _ (row 8 (act F i j)) _ rfl ?_ ?_) rfl ⟨by rw [H.out], ?_⟩
  · simp [go_sem, r6_3, c6_3]
  · simp [go_sem, r6_3, c6_3]
  · exact bt
 ·
  have y1 : decide (j < d) = false := decide_eq_false hjd
  have q0 : IntKind.i64.wrap ((j : Int) - d) = ((j - d : Nat) : Int) := by rw [IntWalk.i64_in _ (by omega)]; omega
  have H := Lib.hid (sum_copy (F := F) (G := G) (i := i) hjd hd)
  have z1 : d < 8 := by omega
  have z2 : (d : Int) < 8 := by omega
  have z3 : ¬ d = 8 := by omega
  have z4 : ¬ 8 = d := by omega
  have z5 : ¬ 8 ≤ d := by omega
  have z6 : ¬ 8 - d = 0 := by omega
  go_enter Tryz.func235, Tryz.ntmps235
  go_wp2_with fail
  refine atomC fun W4 e4 => ?_
  have hb4 : Below w.heap.size w W4 := by rw [e4]; exact bt
  have q4 := hb4.size
  have R4 : IsRow W4 (w.heap.size) ∧ IsRow W4 (w.heap.size + 1) := by rw [e4]; simp [go_sem]
  obtain ⟨r3_4, r6_4⟩ := R4
  have C4 := (⟨congrArg (blk · (w.heap.size)) e4, congrArg (blk · (w.heap.size + 1)) e4⟩ : _ ∧ _); simp [go_sem] at C4
  obtain ⟨c3_4, c6_4⟩ := C4
  have z3_4 := isRow_lt r3_4; have z6_4 := isRow_lt r6_4
  clear e4
  refine (mdim_any d F _).mono ?_; rintro _ W5 ⟨rfl, hw5⟩
  obtain ⟨r3_5, c3_5, z3_5⟩ := keepZ hw5 z3_4 r3_4 c3_4
  obtain ⟨r6_5, c6_5, z6_5⟩ := keepZ hw5 z6_4 r6_4 c6_4
  obtain ⟨hb5, q5⟩ := bN hb4 hw5
  clear hw5 r3_4 c3_4 z3_4 r6_4 c6_4 z6_4 hb4
  go_wp2_with fail
  have nw6_W5_0 : (w.heap.size + 1) ≠ W5.heap.size := by omega
  refine atomC fun W6 e6 => ?_
  have hb6 : Below w.heap.size w W6 := by rw [e6]; exact bt
  have q6 := hb6.size
  have R6 : IsRow W6 (w.heap.size + 1) ∧ IsRow W6 (W5.heap.size) := by rw [e6]; simp [go_sem, r6_5, c6_5, nw6_W5_0, r3_5]
  obtain ⟨r6_6, r8_6⟩ := R6
  have C6 := (⟨congrArg (blk · (w.heap.size + 1)) e6, congrArg (blk · (W5.heap.size)) e6⟩ : _ ∧ _); simp [go_sem, r6_5, c6_5, nw6_W5_0, r3_5] at C6
  obtain ⟨c6_6, c8_6⟩ := C6
  have z6_6 := isRow_lt r6_6; have z8_6 := isRow_lt r8_6
  have n6_8 : (w.heap.size + 1) ≠ (W5.heap.size) := by omega
  have n8_6 : (W5.heap.size) ≠ (w.heap.size + 1) := by omega
  clear e6 nw6_W5_0 r6_5 c6_5 z6_5 hb5
  refine (mimage_any c G i (j - d) _ hi (by omega)).mono ?_; rintro _ W7 ⟨rfl, hw7⟩
  obtain ⟨r6_7, c6_7, z6_7⟩ := keepZ hw7 z6_6 r6_6 c6_6
  obtain ⟨r8_7, c8_7, z8_7⟩ := keepZ hw7 z8_6 r8_6 c8_6
  obtain ⟨hb7, q7⟩ := bN hb6 hw7
  clear hw7 r6_6 c6_6 z6_6 r8_6 c8_6 z8_6 hb6
  go_wp2
  have nw6_W7_0 : (w.heap.size + 1) ≠ W7.heap.size := by omega
  have nw8_W7_0 : (W5.heap.size) ≠ W7.heap.size := by omega
  refine atomW fun W8 e8 => ?_
  have hb8 : Below w.heap.size w W8 := by rw [e8]; exact bt
  have q8 := hb8.size
  have R8 : IsRow W8 (w.heap.size + 1) ∧ IsRow W8 (W5.heap.size) ∧ IsRow W8 (W7.heap.size) := by rw [e8]; simp [go_sem, r6_7, c6_7, n6_8, r8_7, c8_7, n8_6, nw6_W7_0, nw8_W7_0]
  obtain ⟨r6_8, r8_8, r9_8⟩ := R8
  have C8 := (⟨congrArg (blk · (w.heap.size + 1)) e8, congrArg (blk · (W5.heap.size)) e8, congrArg (blk · (W7.heap.size)) e8⟩ : _ ∧ _ ∧ _); simp [go_sem, r6_7, c6_7, n6_8, r8_7, c8_7, n8_6, nw6_W7_0, nw8_W7_0] at C8
  obtain ⟨c6_8, c8_8, c9_8⟩ := C8
  have z6_8 := isRow_lt r6_8; have z8_8 := isRow_lt r8_8; have z9_8 := isRow_lt r9_8
  have n6_9 : (w.heap.size + 1) ≠ (W7.heap.size) := by omega
  have n8_9 : (W5.heap.size) ≠ (W7.heap.size) := by omega
  have n9_6 : (W7.heap.size) ≠ (w.heap.size + 1) := by omega
  have n9_8 : (W7.heap.size) ≠ (W5.heap.size) := by omega
  clear e8 nw6_W7_0 nw8_W7_0 r6_7 c6_7 z6_7 r8_7 c8_7 z8_7 hb7
  refine wp_quiet_tail 3 (Below W8.heap.size W8) (by kernel_rfl) (by kernel_rfl) (Below.refl _ _).drew ?_
  simp only [List.take_succ_cons, List.take_zero, List.drop_succ_cons, List.drop_zero]
  iterate 3 (refine q_plain rfl ?_; apply Exists.intro; refine ⟨fun W hW => ?_, ?_⟩; (focus (obtain ⟨x6, y6⟩ := keepB hW z6_8 r6_8 c6_8; obtain ⟨x8, y8⟩ := keepB hW z8_8 r8_8 c8_8; obtain ⟨x9, y9⟩ := keepB hW z9_8 r9_8 c9_8; go_simp; first | done | rfl)); simp only [Act.put, List.setIfInBounds_toArray, List.set_cons_zero, List.set_cons_succ])
  refine wpQuiet_nil ?_
  intro W9 hw9
  obtain ⟨r6_9, c6_9, z6_9⟩ := keepZ hw9 z6_8 r6_8 c6_8
  obtain ⟨r8_9, c8_9, z8_9⟩ := keepZ hw9 z8_8 r8_8 c8_8
  obtain ⟨r9_9, c9_9, z9_9⟩ := keepZ hw9 z9_8 r9_8 c9_8
  obtain ⟨hb9, q9⟩ := bN hb8 hw9
  clear hw9 r6_8 c6_8 z6_8 r8_8 c8_8 z8_8 r9_8 c9_8 z9_8 hb8
  refine copyRow rfl _ _ _ _ rfl 5 (by kernel_rfl) (by kernel_rfl) _ _ _ _ _ _ _ _ rfl rfl 8 zf r8_9 c8_9 8 (act G i (j - d)) r9_9 c9_9 (8 - d) (by omega) (by omega) (by omega) ?_
  go_wp2_with fail
  refine bodyPost_ret (result_cell rfl aggVec _ _ (row 8 (fun t => if d ≤ t ∧ t < 8 then act G i (j - d) (t - d) else zf t)) _ rfl ?_ ?_) rfl ⟨by rw [H.out], ?_⟩
  · simp [go_sem, r6_9, c6_9, n6_8, n6_9, r8_9, c8_9, n8_6, n8_9, r9_9, c9_9, n9_6, n9_8]
  · simp [go_sem, r6_9, c6_9, n6_8, n6_9, r8_9, c8_9, n8_6, n8_9, r9_9, c9_9, n9_6, n9_8]
  · exact bt

set_option maxRecDepth 100000 in
set_option maxHeartbeats 1000000 in
theorem moduleOf_sum (p : Int) (n d c D : Nat) (f F G : Nat → Int) (w : World) (hd : d ≤ 8) (he : c ≤ 8) (hD : D = d + c) (hD' : D ≤ 8) (hn : n ≤ 8) :
    Calls Tryz.prog 85 #[.agg (hop p n f), .iface 85 (.agg #[.iface 41 (.agg (mdl d F)), .iface 41 (.agg (mdl c G))])] w fun e w' => e = .returned (.agg (mdl D (finM n D (sumG d F G)))) ∧ Below w.heap.size w w' := by
 have HD := Lib.hid hD; clear hD
 go_enter Tryz.func85, Tryz.ntmps85
 go_wp2_with fail
 refine atomC fun W1 e1 => ?_
 have hb1 : Below w.heap.size w W1 := by rw [e1]; exact bt
 have q1 := hb1.size
 have R1 : IsRow W1 (w.heap.size) ∧ IsRow W1 (w.heap.size + 1) := by rw [e1]; simp [go_sem]
 obtain ⟨r2_1, r4_1⟩ := R1
 have C1 := (⟨congrArg (blk · (w.heap.size)) e1, congrArg (blk · (w.heap.size + 1)) e1⟩ : _ ∧ _); simp [go_sem] at C1
 obtain ⟨c2_1, c4_1⟩ := C1
 have z2_1 := isRow_lt r2_1; have z4_1 := isRow_lt r4_1
 clear e1
 refine (sdim_any d c D F G _ hd he HD.out).mono ?_; rintro _ W2 ⟨rfl, hw2⟩
 obtain ⟨r2_2, c2_2, z2_2⟩ := keepZ hw2 z2_1 r2_1 c2_1
 obtain ⟨r4_2, c4_2, z4_2⟩ := keepZ hw2 z4_1 r4_1 c4_1
 obtain ⟨hb2, q2⟩ := bN hb1 hw2
 clear hw2 r2_1 c2_1 z2_1 r4_1 c4_1 z4_1 hb1
 go_wp2
 have nw4_W2_0 : (w.heap.size + 1) ≠ W2.heap.size := by omega
 refine atomW fun W3 e3 => ?_
 have hb3 : Below w.heap.size w W3 := by rw [e3]; exact bt
 have q3 := hb3.size
 have R3 : IsRow W3 (w.heap.size + 1) ∧ IsRow W3 (W2.heap.size) := by rw [e3]; simp [go_sem, r4_2, c4_2, nw4_W2_0, r2_2]
 obtain ⟨r4_3, r5_3⟩ := R3
 have C3 := (⟨congrArg (blk · (w.heap.size + 1)) e3, congrArg (blk · (W2.heap.size)) e3⟩ : _ ∧ _); simp [go_sem, r4_2, c4_2, nw4_W2_0, r2_2] at C3
 obtain ⟨c4_3, c5_3⟩ := C3
 have z4_3 := isRow_lt r4_3; have z5_3 := isRow_lt r5_3
 have n4_5 : (w.heap.size + 1) ≠ (W2.heap.size) := by omega
 have n5_4 : (W2.heap.size) ≠ (w.heap.size + 1) := by omega
 clear e3 nw4_W2_0 r4_2 c4_2 z4_2 hb2
 go_loopw [13] (fun s13 wr => ∃ i : Nat, i ≤ n ∧ s13 = .int .i64 i ∧ Below w.heap.size w wr ∧ (IsRow wr (w.heap.size + 1) ∧ blk wr (w.heap.size + 1) = blk W3 (w.heap.size + 1)) ∧ (IsRow wr (W2.heap.size) ∧ blk wr (W2.heap.size) = mdl D (finK D (sumG d F G) i 0))) (fun s13 _ => n - (intOf s13).toNat)
 case atStart => exact ⟨0, by omega, rfl, hb3, ⟨r4_3, rfl⟩, ⟨r5_3, c5_3.trans (fin_zero D D (sumG d F G))⟩⟩
 case round =>
  obtain ⟨i, hle4, rfl, hb4, ⟨r4_4, c4_4⟩, ⟨r5_4, c5_4⟩⟩ := hrel
  obtain ⟨W4, rfl⟩ : ∃ W4 : World, W4 = wr := ⟨_, rfl⟩
  have q4 := hb4.size
  have E4_4 := Lib.hid c4_3; replace c4_4 := c4_4.trans c4_3
  have z4_4 := isRow_lt r4_4
  have z5_4 := isRow_lt r5_4
  clear r4_3 c4_3 z4_3 r5_3 c5_3 z5_3 hb3
  by_cases hlt4 : i < n
  ·
   have i0_4 : (0 : Int) ≤ (i : Int) := by omega
   have i8_4 : (i : Int) < 8 := by omega
   have k8_4 : i < 8 := by omega
   have m8_4 : i * 8 + 8 ≤ 64 := by omega
   have m64_4 : i * 64 + 64 ≤ 512 := by omega
   have l1_4 : 10 + i * 64 + 64 ≤ 522 := by omega
   go_wp2_with fail
   refine (sdim_any d c D F G _ hd he HD.out).mono ?_; rintro _ W5 ⟨rfl, hw5⟩
   obtain ⟨r4_5, c4_5, z4_5⟩ := keepZ hw5 z4_4 r4_4 c4_4
   obtain ⟨r5_5, c5_5, z5_5⟩ := keepZ hw5 z5_4 r5_4 c5_4
   obtain ⟨hb5, q5⟩ := bN hb4 hw5
   clear hw5 r4_4 c4_4 z4_4 r5_4 c5_4 z5_4 hb4
   go_wp2
   go_loopw [18] (fun s18 wr => ∃ j : Nat, j ≤ D ∧ s18 = .int .i64 j ∧ Below w.heap.size w wr ∧ (IsRow wr (w.heap.size + 1) ∧ blk wr (w.heap.size + 1) = blk W5 (w.heap.size + 1)) ∧ (IsRow wr (W2.heap.size) ∧ blk wr (W2.heap.size) = mdl D (finK D (sumG d F G) i j))) (fun s18 _ => D - (intOf s18).toNat)
   case atStart => exact ⟨0, by omega, rfl, hb5, ⟨r4_5, rfl⟩, ⟨r5_5, c5_5⟩⟩
   case round =>
    obtain ⟨j, hle6, rfl, hb6, ⟨r4_6, c4_6⟩, ⟨r5_6, c5_6⟩⟩ := hrel
    obtain ⟨W6, rfl⟩ : ∃ W6 : World, W6 = wr := ⟨_, rfl⟩
    have q6 := hb6.size
    have E4_6 := Lib.hid c4_5; replace c4_6 := c4_6.trans c4_5
    have z4_6 := isRow_lt r4_6
    have z5_6 := isRow_lt r5_6
    clear r4_5 c4_5 z4_5 r5_5 c5_5 z5_5 hb5
    by_cases hlt6 : j < D
    ·
     have i0_6 : (0 : Int) ≤ (j : Int) := by omega
     have i8_6 : (j : Int) < 8 := by omega
     have k8_6 : j < 8 := by omega
     have m8_6 : j * 8 + 8 ≤ 64 := by omega
     have m64_6 : j * 64 + 64 ≤ 512 := by omega
     have l1_6 : 10 + j * 64 + 64 ≤ 522 := by omega
     have l2_6i : 10 + i * 64 + j * 8 + 8 ≤ 522 := by omega
     have l3_6i : 10 + j * 64 + i * 8 + 8 ≤ 522 := by omega
     have l4_6i : i * 64 + j * 8 + 8 ≤ 512 := by omega
     have l5_6i : j * 64 + i * 8 + 8 ≤ 512 := by omega
     have l6_6i : i * 8 + j < 64 := by omega
     have l7_6i : j * 8 + i < 64 := by omega
     have l6 : 1 + i * 64 + 64 ≤ 513 := by omega
     have l7 : 1 + i * 64 + j * 8 + 8 ≤ 513 := by omega
     go_wp2
     refine wp_quiet_tail 9 (Below W6.heap.size W6) (by kernel_rfl) (by kernel_rfl) (Below.refl _ _).drew ?_
     simp only [List.take_succ_cons, List.take_zero, List.drop_succ_cons, List.drop_zero]
     iterate 5 (refine q_plain rfl ?_; apply Exists.intro; refine ⟨fun W hW => ?_, ?_⟩; (focus (obtain ⟨x4, y4⟩ := keepB hW z4_6 r4_6 c4_6; obtain ⟨x5, y5⟩ := keepB hW z5_6 r5_6 c5_6; go_simp; first | done | rfl)); simp only [Act.put, List.setIfInBounds_toArray, List.set_cons_zero, List.set_cons_succ])
     (refine q_plain rfl ?_; apply Exists.intro; refine ⟨fun W hW => ?_, ?_⟩; (focus (obtain ⟨x4, y4⟩ := keepB hW z4_6 r4_6 c4_6; obtain ⟨x5, y5⟩ := keepB hW z5_6 r5_6 c5_6; go_simp; (go_at_call 235; exact (simage_any d c i j F G _ hd he (by omega) (by have := HD.out; omega) (by omega)).mono fun e w2 ⟨he, hw2⟩ => ⟨he, hW.trans (hw2.mono hW.size)⟩))); simp only [Act.put, List.setIfInBounds_toArray, List.set_cons_zero, List.set_cons_succ])
     iterate 3 (refine q_plain rfl ?_; apply Exists.intro; refine ⟨fun W hW => ?_, ?_⟩; (focus (obtain ⟨x4, y4⟩ := keepB hW z4_6 r4_6 c4_6; obtain ⟨x5, y5⟩ := keepB hW z5_6 r5_6 c5_6; go_simp; first | done | rfl)); simp only [Act.put, List.setIfInBounds_toArray, List.set_cons_zero, List.set_cons_succ])
     refine wpQuiet_nil ?_
     intro W7 hw7
     obtain ⟨r4_7, c4_7, z4_7⟩ := keepZ hw7 z4_6 r4_6 c4_6
     obtain ⟨r5_7, c5_7, z5_7⟩ := keepZ hw7 z5_6 r5_6 c5_6
     obtain ⟨hb7, q7⟩ := bN hb6 hw7
     clear hw7 r4_6 c4_6 z4_6 r5_6 c5_6 z5_6 hb6
     go_wp2
     go_roundw
     case rel => exact ⟨j + 1, by omega, by go_num, bt, ⟨by simp [go_sem, r4_7, c4_7, n4_5, r5_7, c5_7, n5_4], (by rw [E4_6.out]; first | exact c4_7 | (simp [go_sem, r4_7, c4_7, n4_5, r5_7, c5_7, n5_4]; done))⟩, ⟨by simp [go_sem, r4_7, c4_7, n4_5, r5_7, c5_7, n5_4], (by first | (rw [blk_setRow _ _ _ _ r5_7, if_pos rfl]; exact fin_step (by omega) (by omega) (by omega)) | exact (c5_7).trans (fin_step (by omega) (by omega) (by omega)) | (simp [go_sem, r4_7, c4_7, n4_5, r5_7, c5_7, n5_4]; exact fin_step (by omega) (by omega) (by omega)))⟩⟩
     case measure => simp [intOf]; try omega
    ·
     obtain rfl : D = j := by omega
     go_wp2
     go_roundw
     case rel => exact ⟨i + 1, by omega, by go_num, bt, ⟨by simp [go_sem, r4_6, c4_6, n4_5, r5_6, c5_6, n5_4], (by rw [E4_4.out]; first | exact c4_6 | (simp [go_sem, r4_6, c4_6, n4_5, r5_6, c5_6, n5_4]; done))⟩, ⟨by simp [go_sem, r4_6, c4_6, n4_5, r5_6, c5_6, n5_4], (by first | exact (c5_6).trans (fin_row _ _ _ _) | (simp [go_sem, r4_6, c4_6, n4_5, r5_6, c5_6, n5_4]; exact fin_row _ _ _ _))⟩⟩
     case measure => simp [intOf]; try omega
  ·
   obtain rfl : n = i := by omega
   rw [fin_end] at c5_4
   go_wp2_with fail
   refine bodyPost_ret (result_cell rfl aggMod _ _ (mdl D (finM n D (sumG d F G))) _ rfl ?_ ?_) rfl ⟨rfl, ?_⟩
   · simp [go_sem, r4_4, c4_4, n4_5, r5_4, c5_4, n5_4]
   · simp [go_sem, r4_4, c4_4, n4_5, r5_4, c5_4, n5_4]
   · exact bt

set_option maxRecDepth 100000 in
set_option maxHeartbeats 1000000 in
theorem withinSum_no (p : Int) (n d c D : Nat) (f F G : Nat → Int) (w : World) (hd : d ≤ 8) (he : c ≤ 8) (hD : D = d + c) (hn : n ≤ 8) (h8 : 8 < D) :
    Calls Tryz.prog 58 #[.agg (hop p n f), .iface 85 (.agg #[.iface 41 (.agg (mdl d F)), .iface 41 (.agg (mdl c G))])] w fun e w' => e = .returned (.tuple #[.agg (mdl 0 zf), .int .i64 3]) ∧ Below w.heap.size w w' := by
 have HD := Lib.hid hD; clear hD
 have y1 : decide (8 < D) = true := decide_eq_true h8
 have y2 : decide ((8 : Int) < (D : Int)) = true := decide_eq_true (by omega)
 go_enter Tryz.func58, Tryz.ntmps58
 go_wp2_with fail
 refine atomC fun W1 e1 => ?_
 have hb1 : Below w.heap.size w W1 := by rw [e1]; exact bt
 have q1 := hb1.size
 have R1 : IsRow W1 (w.heap.size) ∧ IsRow W1 (w.heap.size + 1) := by rw [e1]; simp [go_sem]
 obtain ⟨r2_1, r4_1⟩ := R1
 have C1 := (⟨congrArg (blk · (w.heap.size)) e1, congrArg (blk · (w.heap.size + 1)) e1⟩ : _ ∧ _); simp [go_sem] at C1
 obtain ⟨c2_1, c4_1⟩ := C1
 have z2_1 := isRow_lt r2_1; have z4_1 := isRow_lt r4_1
 clear e1
 refine (sdim_any d c D F G _ hd he HD.out).mono ?_; rintro _ W2 ⟨rfl, hw2⟩
 obtain ⟨r2_2, c2_2, z2_2⟩ := keepZ hw2 z2_1 r2_1 c2_1
 obtain ⟨r4_2, c4_2, z4_2⟩ := keepZ hw2 z4_1 r4_1 c4_1
 obtain ⟨hb2, q2⟩ := bN hb1 hw2
 clear hw2 r2_1 c2_1 z2_1 r4_1 c4_1 z4_1 hb1
 go_wp2_with fail
 refine bodyPost_ret (result_cell_tmp rfl aggMod _ _ (mdl 0 zf) _ _ rfl rfl ?_ ?_) rfl ⟨by rfl, ?_⟩
 · simp [go_sem, r2_2, c2_2, r4_2, c4_2]
 · simp [go_sem, r2_2, c2_2, r4_2, c4_2]
 · exact bt

set_option maxRecDepth 100000 in
set_option maxHeartbeats 1000000 in
theorem withinSum_yes (p : Int) (n d c D : Nat) (f F G : Nat → Int) (w : World) (hd : d ≤ 8) (he : c ≤ 8) (hD : D = d + c) (hn : n ≤ 8) (h8 : D ≤ 8) :
    Calls Tryz.prog 58 #[.agg (hop p n f), .iface 85 (.agg #[.iface 41 (.agg (mdl d F)), .iface 41 (.agg (mdl c G))])] w fun e w' => e = .returned (.tuple #[.agg (mdl D (finM n D (sumG d F G))), .int .i64 0]) ∧ Below w.heap.size w w' := by
 have HD := Lib.hid hD; clear hD
 have y1 : decide (8 < D) = false := decide_eq_false (by omega)
 have y2 : decide ((8 : Int) < (D : Int)) = false := decide_eq_false (by omega)
 go_enter Tryz.func58, Tryz.ntmps58
 go_wp2_with fail
 refine atomC fun W1 e1 => ?_
 have hb1 : Below w.heap.size w W1 := by rw [e1]; exact bt
 have q1 := hb1.size
 have R1 : IsRow W1 (w.heap.size) ∧ IsRow W1 (w.heap.size + 1) := by rw [e1]; simp [go_sem]
 obtain ⟨r2_1, r4_1⟩ := R1
 have C1 := (⟨congrArg (blk · (w.heap.size)) e1, congrArg (blk · (w.heap.size + 1)) e1⟩ : _ ∧ _); simp [go_sem] at C1
 obtain ⟨c2_1, c4_1⟩ := C1
 have z2_1 := isRow_lt r2_1; have z4_1 := isRow_lt r4_1
 clear e1
 refine (sdim_any d c D F G _ hd he HD.out).mono ?_; rintro _ W2 ⟨rfl, hw2⟩
 obtain ⟨r2_2, c2_2, z2_2⟩ := keepZ hw2 z2_1 r2_1 c2_1
 obtain ⟨r4_2, c4_2, z4_2⟩ := keepZ hw2 z4_1 r4_1 c4_1
 obtain ⟨hb2, q2⟩ := bN hb1 hw2
 clear hw2 r2_1 c2_1 z2_1 r4_1 c4_1 z4_1 hb1
 go_wp2_with fail
 refine (moduleOf_sum p n d c D f F G _ hd he HD.out h8 hn).mono ?_; rintro _ W3 ⟨rfl, hw3⟩
 obtain ⟨r4_3, c4_3, z4_3⟩ := keepZ hw3 z4_2 r4_2 c4_2
 obtain ⟨hb3, q3⟩ := bN hb2 hw3
 clear hw3 r4_2 c4_2 z4_2 hb2
 go_wp2_with fail
 refine bodyPost_ret (result_cell_tmp rfl aggMod _ _ (mdl D (finM n D (sumG d F G))) _ _ rfl rfl ?_ ?_) rfl ⟨by rfl, ?_⟩
 · simp [go_sem, r4_3, c4_3]
 · simp [go_sem, r4_3, c4_3]
 · exact bt

set_option maxRecDepth 100000 in
set_option maxHeartbeats 1000000 in
theorem implSum_any (p n : Int) (f : Nat → Int) (d c : Int) (F G : Nat → Int) (w : World) (hf : Bytes 1104 f) (hF : Bytes 512 F) (hG : Bytes 512 G) :
    Calls Tryz.prog 19 #[.agg (hop p n f), .agg (mdl d F), .agg (mdl c G)] w fun e w' => e = .returned (.tuple #[.agg (mdl (onlyI (limOk (hm2 p n f d c F G) (d + c)) (d + c)) (onlyF (limOk (hm2 p n f d c F G) (d + c)) (finM n.toNat (d + c).toNat (sumG d.toNat F G)))), .int .i64 (limC (hm2 p n f d c F G) (d + c))]) ∧ Below w.heap.size w w' := by
 have Hf := Lib.hid hf; clear hf
 have HF := Lib.hid hF; clear hF
 have HG := Lib.hid hG; clear hG
 cases hc : hm2 p n f d c F G
 ·
  have H := Lib.hid (lim_no1 (ok := false) (D := d + c) rfl)
  go_enter Tryz.func19, Tryz.ntmps19
  go_wp2_with fail
  refine atomC fun W1 e1 => ?_
  have hb1 : Below w.heap.size w W1 := by rw [e1]; exact bt
  have q1 := hb1.size
  have R1 : IsRow W1 (w.heap.size) ∧ IsRow W1 (w.heap.size + 1) ∧ IsRow W1 (w.heap.size + 2) ∧ IsRow W1 (w.heap.size + 3) ∧ IsRow W1 (w.heap.size + 4) := by rw [e1]; simp [go_sem]
  obtain ⟨r3_1, r4_1, r5_1, r6_1, r11_1⟩ := R1
  have C1 := (⟨congrArg (blk · (w.heap.size)) e1, congrArg (blk · (w.heap.size + 1)) e1, congrArg (blk · (w.heap.size + 2)) e1, congrArg (blk · (w.heap.size + 3)) e1, congrArg (blk · (w.heap.size + 4)) e1⟩ : _ ∧ _ ∧ _ ∧ _ ∧ _); simp [go_sem] at C1
  obtain ⟨c3_1, c4_1, c5_1, c6_1, c11_1⟩ := C1
  have z3_1 := isRow_lt r3_1; have z4_1 := isRow_lt r4_1; have z5_1 := isRow_lt r5_1; have z6_1 := isRow_lt r6_1; have z11_1 := isRow_lt r11_1
  clear e1
  refine (areMod2 p n f d c F G _ _ Hf.out HF.out HG.out r11_1 c11_1).mono ?_; rintro _ W2 ⟨rfl, hw2⟩
  obtain ⟨r3_2, c3_2, z3_2⟩ := keepZ hw2 z3_1 r3_1 c3_1
  obtain ⟨r4_2, c4_2, z4_2⟩ := keepZ hw2 z4_1 r4_1 c4_1
  obtain ⟨r5_2, c5_2, z5_2⟩ := keepZ hw2 z5_1 r5_1 c5_1
  obtain ⟨r6_2, c6_2, z6_2⟩ := keepZ hw2 z6_1 r6_1 c6_1
  obtain ⟨r11_2, c11_2, z11_2⟩ := keepZ hw2 z11_1 r11_1 c11_1
  obtain ⟨hb2, q2⟩ := bN hb1 hw2
  clear hw2 r3_1 c3_1 z3_1 r4_1 c4_1 z4_1 r5_1 c5_1 z5_1 r6_1 c6_1 z6_1 r11_1 c11_1 z11_1 hb1
  go_wp2_with fail
  refine bodyPost_ret (result_cell_tmp rfl aggMod _ _ (mdl 0 zf) _ _ rfl rfl ?_ ?_) rfl ⟨ret_mod2 (by rw [H.out.2] <;> rfl) H.out.1.symm, ?_⟩
  · simp [go_sem, r3_2, c3_2, r4_2, c4_2, r5_2, c5_2, r6_2, c6_2, r11_2, c11_2]
  · simp [go_sem, r3_2, c3_2, r4_2, c4_2, r5_2, c5_2, r6_2, c6_2, r11_2, c11_2]
  · exact bt
 ·
  by_cases hL : 8 < d + c
  ·
   have H := Lib.hid (lim_no2 (ok := true) rfl hL)
   have hh := (hm2_parts hc).1
   have hm1 := (hm2_parts hc).2.1
   have hm2 := (hm2_parts hc).2.2
   obtain ⟨hp2, hp31, hn1, hn8⟩ := sizes_range (hopf_sizes hh)
   obtain ⟨n, rfl⟩ := Int.eq_ofNat_of_zero_le (show 0 ≤ n by omega)
   have hp : 0 < p := by omega
   have hp' : p ≤ 255 := by omega
   have hn : n ≤ 8 := by omega
   have HH := Lib.hid hh
   rw [Int.toNat_natCast] at hm1 hm2
   obtain ⟨_, _, hd1, hd8⟩ := sizes_range (modB_sizes (hopf_sizes hh) hm1)
   obtain ⟨d, rfl⟩ := Int.eq_ofNat_of_zero_le (show 0 ≤ d by omega)
   have hd : d ≤ 8 := by omega
   have HS := Lib.hid (modB_shape HF.out hm1)
   obtain ⟨_, _, he1, he8⟩ := sizes_range (modB_sizes (hopf_sizes hh) hm2)
   obtain ⟨c, rfl⟩ := Int.eq_ofNat_of_zero_le (show 0 ≤ c by omega)
   have he : c ≤ 8 := by omega
   have HT := Lib.hid (modB_shape HG.out hm2)
   clear hm1 hm2 hh
   obtain ⟨D, hD⟩ : ∃ D : Nat, D = d + c := ⟨_, rfl⟩
   have HDi := Lib.hid (show (d : Int) + c = (D : Int) by omega)
   have h8 : 8 < D := by omega
   have HD := Lib.hid hD
   clear hD
   go_enter Tryz.func19, Tryz.ntmps19
   go_wp2_with fail
   refine atomC fun W3 e3 => ?_
   have hb3 : Below w.heap.size w W3 := by rw [e3]; exact bt
   have q3 := hb3.size
   have R3 : IsRow W3 (w.heap.size) ∧ IsRow W3 (w.heap.size + 1) ∧ IsRow W3 (w.heap.size + 2) ∧ IsRow W3 (w.heap.size + 3) ∧ IsRow W3 (w.heap.size + 4) := by rw [e3]; simp [go_sem]
   obtain ⟨r3_3, r4_3, r5_3, r6_3, r11_3⟩ := R3
   have C3 := (⟨congrArg (blk · (w.heap.size)) e3, congrArg (blk · (w.heap.size + 1)) e3, congrArg (blk · (w.heap.size + 2)) e3, congrArg (blk · (w.heap.size + 3)) e3, congrArg (blk · (w.heap.size + 4)) e3⟩ : _ ∧ _ ∧ _ ∧ _ ∧ _); simp [go_sem] at C3
   obtain ⟨c3_3, c4_3, c5_3, c6_3, c11_3⟩ := C3
   have z3_3 := isRow_lt r3_3; have z4_3 := isRow_lt r4_3; have z5_3 := isRow_lt r5_3; have z6_3 := isRow_lt r6_3; have z11_3 := isRow_lt r11_3
   clear e3
   refine (areMod2 p n f d c F G _ _ Hf.out HF.out HG.out r11_3 c11_3).mono ?_; rintro _ W4 ⟨rfl, hw4⟩
   obtain ⟨r3_4, c3_4, z3_4⟩ := keepZ hw4 z3_3 r3_3 c3_3
   obtain ⟨r4_4, c4_4, z4_4⟩ := keepZ hw4 z4_3 r4_3 c4_3
   obtain ⟨r5_4, c5_4, z5_4⟩ := keepZ hw4 z5_3 r5_3 c5_3
   obtain ⟨r6_4, c6_4, z6_4⟩ := keepZ hw4 z6_3 r6_3 c6_3
   obtain ⟨r11_4, c11_4, z11_4⟩ := keepZ hw4 z11_3 r11_3 c11_3
   obtain ⟨hb4, q4⟩ := bN hb3 hw4
   clear hw4 r3_3 c3_3 z3_3 r4_3 c4_3 z4_3 r5_3 c5_3 z5_3 r6_3 c6_3 z6_3 r11_3 c11_3 z11_3 hb3
   go_wp2_with fail
   refine (withinSum_no p n d c D f F G _ hd he HD.out hn h8).mono ?_; rintro _ W5 ⟨rfl, hw5⟩
   obtain ⟨r6_5, c6_5, z6_5⟩ := keepZ hw5 z6_4 r6_4 c6_4
   obtain ⟨hb5, q5⟩ := bN hb4 hw5
   clear hw5 r6_4 c6_4 z6_4 hb4
   go_wp2_with fail
   refine bodyPost_ret (result_cell_tmp rfl aggMod _ _ (mdl 0 zf) _ _ rfl rfl ?_ ?_) rfl ⟨ret_mod2 (by rw [H.out.2] <;> rfl) H.out.1.symm, ?_⟩
   · simp [go_sem, r6_5, c6_5]
   · simp [go_sem, r6_5, c6_5]
   · exact bt
  ·
   have H := Lib.hid (lim_yes (ok := true) rfl hL)
   have hh := (hm2_parts hc).1
   have hm1 := (hm2_parts hc).2.1
   have hm2 := (hm2_parts hc).2.2
   obtain ⟨hp2, hp31, hn1, hn8⟩ := sizes_range (hopf_sizes hh)
   obtain ⟨n, rfl⟩ := Int.eq_ofNat_of_zero_le (show 0 ≤ n by omega)
   have hp : 0 < p := by omega
   have hp' : p ≤ 255 := by omega
   have hn : n ≤ 8 := by omega
   have HH := Lib.hid hh
   rw [Int.toNat_natCast] at hm1 hm2
   obtain ⟨_, _, hd1, hd8⟩ := sizes_range (modB_sizes (hopf_sizes hh) hm1)
   obtain ⟨d, rfl⟩ := Int.eq_ofNat_of_zero_le (show 0 ≤ d by omega)
   have hd : d ≤ 8 := by omega
   have HS := Lib.hid (modB_shape HF.out hm1)
   obtain ⟨_, _, he1, he8⟩ := sizes_range (modB_sizes (hopf_sizes hh) hm2)
   obtain ⟨c, rfl⟩ := Int.eq_ofNat_of_zero_le (show 0 ≤ c by omega)
   have he : c ≤ 8 := by omega
   have HT := Lib.hid (modB_shape HG.out hm2)
   clear hm1 hm2 hh
   obtain ⟨D, hD⟩ : ∃ D : Nat, D = d + c := ⟨_, rfl⟩
   have HDi := Lib.hid (show (d : Int) + c = (D : Int) by omega)
   have h8 : D ≤ 8 := by omega
   have HD := Lib.hid hD
   clear hD
   go_enter Tryz.func19, Tryz.ntmps19
   go_wp2_with fail
   refine atomC fun W6 e6 => ?_
   have hb6 : Below w.heap.size w W6 := by rw [e6]; exact bt
   have q6 := hb6.size
   have R6 : IsRow W6 (w.heap.size) ∧ IsRow W6 (w.heap.size + 1) ∧ IsRow W6 (w.heap.size + 2) ∧ IsRow W6 (w.heap.size + 3) ∧ IsRow W6 (w.heap.size + 4) := by rw [e6]; simp [go_sem]
   obtain ⟨r3_6, r4_6, r5_6, r6_6, r11_6⟩ := R6
   have C6 := (⟨congrArg (blk · (w.heap.size)) e6, congrArg (blk · (w.heap.size + 1)) e6, congrArg (blk · (w.heap.size + 2)) e6, congrArg (blk · (w.heap.size + 3)) e6, congrArg (blk · (w.heap.size + 4)) e6⟩ : _ ∧ _ ∧ _ ∧ _ ∧ _); simp [go_sem] at C6
   obtain ⟨c3_6, c4_6, c5_6, c6_6, c11_6⟩ := C6
   have z3_6 := isRow_lt r3_6; have z4_6 := isRow_lt r4_6; have z5_6 := isRow_lt r5_6; have z6_6 := isRow_lt r6_6; have z11_6 := isRow_lt r11_6
   clear e6
   refine (areMod2 p n f d c F G _ _ Hf.out HF.out HG.out r11_6 c11_6).mono ?_; rintro _ W7 ⟨rfl, hw7⟩
   obtain ⟨r3_7, c3_7, z3_7⟩ := keepZ hw7 z3_6 r3_6 c3_6
   obtain ⟨r4_7, c4_7, z4_7⟩ := keepZ hw7 z4_6 r4_6 c4_6
   obtain ⟨r5_7, c5_7, z5_7⟩ := keepZ hw7 z5_6 r5_6 c5_6
   obtain ⟨r6_7, c6_7, z6_7⟩ := keepZ hw7 z6_6 r6_6 c6_6
   obtain ⟨r11_7, c11_7, z11_7⟩ := keepZ hw7 z11_6 r11_6 c11_6
   obtain ⟨hb7, q7⟩ := bN hb6 hw7
   clear hw7 r3_6 c3_6 z3_6 r4_6 c4_6 z4_6 r5_6 c5_6 z5_6 r6_6 c6_6 z6_6 r11_6 c11_6 z11_6 hb6
   go_wp2_with fail
   refine (withinSum_yes p n d c D f F G _ hd he HD.out hn h8).mono ?_; rintro _ W8 ⟨rfl, hw8⟩
   obtain ⟨r6_8, c6_8, z6_8⟩ := keepZ hw8 z6_7 r6_7 c6_7
   obtain ⟨hb8, q8⟩ := bN hb7 hw8
   clear hw8 r6_7 c6_7 z6_7 hb7
   go_wp2_with fail
   refine bodyPost_ret (result_cell_tmp rfl aggMod _ _ (mdl D (finM n D (sumG d F G))) _ _ rfl rfl ?_ ?_) rfl ⟨ret_mod2 (by rw [H.out.2]; show mdl D (finM n D (sumG d F G)) = mdl ((d : Int) + c) (finM n ((d : Int) + c).toNat (sumG d F G)); rw [HDi.out, Int.toNat_natCast]) H.out.1.symm, ?_⟩
   · simp [go_sem, r6_8, c6_8]
   · simp [go_sem, r6_8, c6_8]
   · exact bt

set_option maxRecDepth 100000 in
set_option maxHeartbeats 1000000 in
theorem moved_any (b : Nat) (v : Nat → Int) (w : World) (hb : b ≤ 8) :
    Calls Tryz.prog 55 #[.agg (row 8 v), .int .i64 b] w fun e w' => e = .returned (.agg (row 8 (movF v b))) ∧ Below w.heap.size w w' := by
 go_enter Tryz.func55, Tryz.ntmps55
 go_wp2
 refine atomW fun W1 e1 => ?_
 have hb1 : Below w.heap.size w W1 := by rw [e1]; exact bt
 have q1 := hb1.size
 have R1 : IsRow W1 (w.heap.size) ∧ IsRow W1 (w.heap.size + 1) ∧ IsRow W1 (w.heap.size + 2) := by rw [e1]; simp [go_sem]
 obtain ⟨r2_1, r4_1, r5_1⟩ := R1
 have C1 := (⟨congrArg (blk · (w.heap.size)) e1, congrArg (blk · (w.heap.size + 1)) e1, congrArg (blk · (w.heap.size + 2)) e1⟩ : _ ∧ _ ∧ _); simp [go_sem] at C1
 obtain ⟨c2_1, c4_1, c5_1⟩ := C1
 have z2_1 := isRow_lt r2_1; have z4_1 := isRow_lt r4_1; have z5_1 := isRow_lt r5_1
 clear e1
 go_loopw [6] (fun s6 wr => ∃ i : Nat, i ≤ 8 - b ∧ s6 = .int .i64 i ∧ Below w.heap.size w wr ∧ (IsRow wr (w.heap.size) ∧ blk wr (w.heap.size) = blk W1 (w.heap.size)) ∧ (IsRow wr (w.heap.size + 1) ∧ blk wr (w.heap.size + 1) = blk W1 (w.heap.size + 1)) ∧ (IsRow wr (w.heap.size + 2) ∧ blk wr (w.heap.size + 2) = row 8 (movK v b i))) (fun s6 _ => 8 - b - (intOf s6).toNat)
 case atStart => exact ⟨0, by omega, rfl, hb1, ⟨r2_1, rfl⟩, ⟨r4_1, rfl⟩, ⟨r5_1, c5_1.trans (mov_zero v b)⟩⟩
 case round =>
  obtain ⟨i, hle2, rfl, hb2, ⟨r2_2, c2_2⟩, ⟨r4_2, c4_2⟩, ⟨r5_2, c5_2⟩⟩ := hrel
  obtain ⟨W2, rfl⟩ : ∃ W2 : World, W2 = wr := ⟨_, rfl⟩
  have q2 := hb2.size
  have E2_2 := Lib.hid c2_1; replace c2_2 := c2_2.trans c2_1
  have z2_2 := isRow_lt r2_2
  have E4_2 := Lib.hid c4_1; replace c4_2 := c4_2.trans c4_1
  have z4_2 := isRow_lt r4_2
  have z5_2 := isRow_lt r5_2
  clear r2_1 c2_1 z2_1 r4_1 c4_1 z4_1 r5_1 c5_1 z5_1 hb1
  have q0 : IntKind.i64.wrap ((i : Int) + b) = ((i + b : Nat) : Int) := by rw [IntWalk.i64_in _ (by omega)]; omega
  by_cases hlt2 : i < 8 - b
  ·
   have i0_2 : (0 : Int) ≤ (i : Int) := by omega
   have i8_2 : (i : Int) < 8 := by omega
   have k8_2 : i < 8 := by omega
   have m8_2 : i * 8 + 8 ≤ 64 := by omega
   have m64_2 : i * 64 + 64 ≤ 512 := by omega
   have l1_2 : 10 + i * 64 + 64 ≤ 522 := by omega
   have y1 : i + b < 8 := by omega
   have y2 : ((i + b : Nat) : Int) < 8 := by omega
   have y3 : (i : Int) + b < 8 := by omega
   go_wp2
   go_roundw
   case rel => exact ⟨i + 1, by omega, by go_num, bt, ⟨by simp [go_sem, r2_2, c2_2, r4_2, c4_2, r5_2, c5_2], (by rw [E2_2.out]; first | exact c2_2 | (simp [go_sem, r2_2, c2_2, r4_2, c4_2, r5_2, c5_2]; done))⟩, ⟨by simp [go_sem, r2_2, c2_2, r4_2, c4_2, r5_2, c5_2], (by rw [E4_2.out]; first | exact c4_2 | (simp [go_sem, r2_2, c2_2, r4_2, c4_2, r5_2, c5_2]; done))⟩, ⟨by simp [go_sem, r2_2, c2_2, r4_2, c4_2, r5_2, c5_2], (by first | (rw [blk_setRow _ _ _ _ r5_2, if_pos rfl]; exact mov_step v b i) | exact (c5_2).trans (mov_step v b i) | (simp [go_sem, r2_2, c2_2, r4_2, c4_2, r5_2, c5_2]; exact mov_step v b i))⟩⟩
   case measure => simp [intOf]; try omega
  ·
   have hend2 : i = 8 - b := by omega
   have y1 : ¬ i + b < 8 := by omega
   have y2 : decide (i + b < 8) = false := decide_eq_false (by omega)
   have y3 : decide ((i : Int) + b < 8) = false := decide_eq_false (by omega)
   have y4 : ¬ (i : Int) + b < 8 := by omega
   rw [mov_end (v := v) (b := b) (i := i) (by omega)] at c5_2
   go_wp2_with fail
   refine bodyPost_ret (result_cell rfl aggVec _ _ (row 8 (movF v b)) _ rfl ?_ ?_) rfl ⟨rfl, ?_⟩
   · simp [go_sem, r2_2, c2_2, r4_2, c4_2, r5_2, c5_2]
   · simp [go_sem, r2_2, c2_2, r4_2, c4_2, r5_2, c5_2]
   · exact bt

set_option maxRecDepth 100000 in
set_option maxHeartbeats 4000000 in
theorem specSum_any (p n : Int) (f : Nat → Int) (d c : Int) (F G : Nat → Int) (w : World) (hf : Bytes 1104 f) (hF : Bytes 512 F) (hG : Bytes 512 G) :
    Calls Tryz.prog 17 #[.agg (hop p n f), .agg (mdl d F), .agg (mdl c G)] w fun e w' => e = .returned (.tuple #[.agg (mdl (onlyI (limOk (hm2 p n f d c F G) (d + c)) (d + c)) (onlyF (limOk (hm2 p n f d c F G) (d + c)) (finM n.toNat (d + c).toNat (sumG d.toNat F G)))), .int .i64 (limC (hm2 p n f d c F G) (d + c))]) ∧ Below w.heap.size w w' := by
 have Hf := Lib.hid hf; clear hf
 have HF := Lib.hid hF; clear hF
 have HG := Lib.hid hG; clear hG
 cases hc : hm2 p n f d c F G
 ·
  have hc1 : codeB false = 1 := rfl
  have H := Lib.hid (lim_no1 (ok := false) (D := d + c) rfl)
  go_enter Tryz.func17, Tryz.ntmps17
  go_wp2_with fail
  refine atomC fun W1 e1 => ?_
  have hb1 : Below w.heap.size w W1 := by rw [e1]; exact bt
  have q1 := hb1.size
  have R1 : IsRow W1 (w.heap.size) ∧ IsRow W1 (w.heap.size + 1) ∧ IsRow W1 (w.heap.size + 2) ∧ IsRow W1 (w.heap.size + 3) ∧ IsRow W1 (w.heap.size + 4) := by rw [e1]; simp [go_sem]
  obtain ⟨r3_1, r4_1, r5_1, r6_1, r15_1⟩ := R1
  have C1 := (⟨congrArg (blk · (w.heap.size)) e1, congrArg (blk · (w.heap.size + 1)) e1, congrArg (blk · (w.heap.size + 2)) e1, congrArg (blk · (w.heap.size + 3)) e1, congrArg (blk · (w.heap.size + 4)) e1⟩ : _ ∧ _ ∧ _ ∧ _ ∧ _); simp [go_sem] at C1
  obtain ⟨c3_1, c4_1, c5_1, c6_1, c15_1⟩ := C1
  have z3_1 := isRow_lt r3_1; have z4_1 := isRow_lt r4_1; have z5_1 := isRow_lt r5_1; have z6_1 := isRow_lt r6_1; have z15_1 := isRow_lt r15_1
  clear e1
  refine (code2 p n f d c F G _ _ Hf.out HF.out HG.out r15_1 c15_1).mono ?_; rintro _ W2 ⟨rfl, hw2⟩
  obtain ⟨r3_2, c3_2, z3_2⟩ := keepZ hw2 z3_1 r3_1 c3_1
  obtain ⟨r4_2, c4_2, z4_2⟩ := keepZ hw2 z4_1 r4_1 c4_1
  obtain ⟨r5_2, c5_2, z5_2⟩ := keepZ hw2 z5_1 r5_1 c5_1
  obtain ⟨r6_2, c6_2, z6_2⟩ := keepZ hw2 z6_1 r6_1 c6_1
  obtain ⟨r15_2, c15_2, z15_2⟩ := keepZ hw2 z15_1 r15_1 c15_1
  obtain ⟨hb2, q2⟩ := bN hb1 hw2
  clear hw2 r3_1 c3_1 z3_1 r4_1 c4_1 z4_1 r5_1 c5_1 z5_1 r6_1 c6_1 z6_1 r15_1 c15_1 z15_1 hb1
  go_wp2_with fail
  refine bodyPost_ret (result_cell_tmp rfl aggMod _ _ (mdl 0 zf) _ _ rfl rfl ?_ ?_) rfl ⟨ret_mod2 (by rw [H.out.2] <;> rfl) H.out.1.symm, ?_⟩
  · simp [go_sem, r3_2, c3_2, r4_2, c4_2, r5_2, c5_2, r6_2, c6_2, r15_2, c15_2]
  · simp [go_sem, r3_2, c3_2, r4_2, c4_2, r5_2, c5_2, r6_2, c6_2, r15_2, c15_2]
  · exact bt
 ·
  by_cases hL : 8 < d + c
  ·
   have hc1 : codeB true = 0 := rfl
   have H := Lib.hid (lim_no2 (ok := true) rfl hL)
   have hh := (hm2_parts hc).1
   have hm1 := (hm2_parts hc).2.1
   have hm2 := (hm2_parts hc).2.2
   obtain ⟨hp2, hp31, hn1, hn8⟩ := sizes_range (hopf_sizes hh)
   obtain ⟨n, rfl⟩ := Int.eq_ofNat_of_zero_le (show 0 ≤ n by omega)
   have hp : 0 < p := by omega
   have hp' : p ≤ 255 := by omega
   have hn : n ≤ 8 := by omega
   have HH := Lib.hid hh
   rw [Int.toNat_natCast] at hm1 hm2
   obtain ⟨_, _, hd1, hd8⟩ := sizes_range (modB_sizes (hopf_sizes hh) hm1)
   obtain ⟨d, rfl⟩ := Int.eq_ofNat_of_zero_le (show 0 ≤ d by omega)
   have hd : d ≤ 8 := by omega
   have HS := Lib.hid (modB_shape HF.out hm1)
   obtain ⟨_, _, he1, he8⟩ := sizes_range (modB_sizes (hopf_sizes hh) hm2)
   obtain ⟨c, rfl⟩ := Int.eq_ofNat_of_zero_le (show 0 ≤ c by omega)
   have he : c ≤ 8 := by omega
   have HT := Lib.hid (modB_shape HG.out hm2)
   clear hm1 hm2 hh
   have q0 : IntKind.i64.wrap ((d : Int) + c) = (d : Int) + c := IntWalk.i64_in _ (by omega)
   have y1 : decide (8 < (d : Int) + c) = true := decide_eq_true hL
   go_enter Tryz.func17, Tryz.ntmps17
   go_wp2_with fail
   refine atomC fun W3 e3 => ?_
   have hb3 : Below w.heap.size w W3 := by rw [e3]; exact bt
   have q3 := hb3.size
   have R3 : IsRow W3 (w.heap.size) ∧ IsRow W3 (w.heap.size + 1) ∧ IsRow W3 (w.heap.size + 2) ∧ IsRow W3 (w.heap.size + 3) ∧ IsRow W3 (w.heap.size + 4) := by rw [e3]; simp [go_sem]
   obtain ⟨r3_3, r4_3, r5_3, r6_3, r15_3⟩ := R3
   have C3 := (⟨congrArg (blk · (w.heap.size)) e3, congrArg (blk · (w.heap.size + 1)) e3, congrArg (blk · (w.heap.size + 2)) e3, congrArg (blk · (w.heap.size + 3)) e3, congrArg (blk · (w.heap.size + 4)) e3⟩ : _ ∧ _ ∧ _ ∧ _ ∧ _); simp [go_sem] at C3
   obtain ⟨c3_3, c4_3, c5_3, c6_3, c15_3⟩ := C3
   have z3_3 := isRow_lt r3_3; have z4_3 := isRow_lt r4_3; have z5_3 := isRow_lt r5_3; have z6_3 := isRow_lt r6_3; have z15_3 := isRow_lt r15_3
   clear e3
   refine (code2 p n f d c F G _ _ Hf.out HF.out HG.out r15_3 c15_3).mono ?_; rintro _ W4 ⟨rfl, hw4⟩
   obtain ⟨r3_4, c3_4, z3_4⟩ := keepZ hw4 z3_3 r3_3 c3_3
   obtain ⟨r4_4, c4_4, z4_4⟩ := keepZ hw4 z4_3 r4_3 c4_3
   obtain ⟨r5_4, c5_4, z5_4⟩ := keepZ hw4 z5_3 r5_3 c5_3
   obtain ⟨r6_4, c6_4, z6_4⟩ := keepZ hw4 z6_3 r6_3 c6_3
   obtain ⟨r15_4, c15_4, z15_4⟩ := keepZ hw4 z15_3 r15_3 c15_3
   obtain ⟨hb4, q4⟩ := bN hb3 hw4
   clear hw4 r3_3 c3_3 z3_3 r4_3 c4_3 z4_3 r5_3 c5_3 z5_3 r6_3 c6_3 z6_3 r15_3 c15_3 z15_3 hb3
   go_wp2_with fail
   refine bodyPost_ret (result_cell_tmp rfl aggMod _ _ (mdl 0 zf) _ _ rfl rfl ?_ ?_) rfl ⟨ret_mod2 (by rw [H.out.2] <;> rfl) H.out.1.symm, ?_⟩
   · simp [go_sem, r3_4, c3_4, r4_4, c4_4, r5_4, c5_4, r6_4, c6_4, r15_4, c15_4]
   · simp [go_sem, r3_4, c3_4, r4_4, c4_4, r5_4, c5_4, r6_4, c6_4, r15_4, c15_4]
   · exact bt
  ·
   have hc1 : codeB true = 0 := rfl
   have H := Lib.hid (lim_yes (ok := true) rfl hL)
   have hh := (hm2_parts hc).1
   have hm1 := (hm2_parts hc).2.1
   have hm2 := (hm2_parts hc).2.2
   obtain ⟨hp2, hp31, hn1, hn8⟩ := sizes_range (hopf_sizes hh)
   obtain ⟨n, rfl⟩ := Int.eq_ofNat_of_zero_le (show 0 ≤ n by omega)
   have hp : 0 < p := by omega
   have hp' : p ≤ 255 := by omega
   have hn : n ≤ 8 := by omega
   have HH := Lib.hid hh
   rw [Int.toNat_natCast] at hm1 hm2
   obtain ⟨_, _, hd1, hd8⟩ := sizes_range (modB_sizes (hopf_sizes hh) hm1)
   obtain ⟨d, rfl⟩ := Int.eq_ofNat_of_zero_le (show 0 ≤ d by omega)
   have hd : d ≤ 8 := by omega
   have HS := Lib.hid (modB_shape HF.out hm1)
   obtain ⟨_, _, he1, he8⟩ := sizes_range (modB_sizes (hopf_sizes hh) hm2)
   obtain ⟨c, rfl⟩ := Int.eq_ofNat_of_zero_le (show 0 ≤ c by omega)
   have he : c ≤ 8 := by omega
   have HT := Lib.hid (modB_shape HG.out hm2)
   clear hm1 hm2 hh
   have HW : Hid (IntKind.i64.wrap ((d : Int) + c) = (d : Int) + c) := Lib.hid (IntWalk.i64_in _ (by omega))
   have q0 := HW.out
   have y1 : decide (8 < (d : Int) + c) = false := decide_eq_false hL
   have hde : d + c ≤ 8 := by omega
   have HE := Lib.hid (su_end (x := (d : Int) + c) (e := c) (G := G) HS.out hde)
   go_enter Tryz.func17, Tryz.ntmps17
   go_wp2_with fail
   refine atomC fun W5 e5 => ?_
   have hb5 : Below w.heap.size w W5 := by rw [e5]; exact bt
   have q5 := hb5.size
   have R5 : IsRow W5 (w.heap.size) ∧ IsRow W5 (w.heap.size + 1) ∧ IsRow W5 (w.heap.size + 2) ∧ IsRow W5 (w.heap.size + 3) ∧ IsRow W5 (w.heap.size + 4) := by rw [e5]; simp [go_sem]
   obtain ⟨r3_5, r4_5, r5_5, r6_5, r15_5⟩ := R5
   have C5 := (⟨congrArg (blk · (w.heap.size)) e5, congrArg (blk · (w.heap.size + 1)) e5, congrArg (blk · (w.heap.size + 2)) e5, congrArg (blk · (w.heap.size + 3)) e5, congrArg (blk · (w.heap.size + 4)) e5⟩ : _ ∧ _ ∧ _ ∧ _ ∧ _); simp [go_sem] at C5
   obtain ⟨c3_5, c4_5, c5_5, c6_5, c15_5⟩ := C5
   have z3_5 := isRow_lt r3_5; have z4_5 := isRow_lt r4_5; have z5_5 := isRow_lt r5_5; have z6_5 := isRow_lt r6_5; have z15_5 := isRow_lt r15_5
   clear e5
   refine (code2 p n f d c F G _ _ Hf.out HF.out HG.out r15_5 c15_5).mono ?_; rintro _ W6 ⟨rfl, hw6⟩
   obtain ⟨r3_6, c3_6, z3_6⟩ := keepZ hw6 z3_5 r3_5 c3_5
   obtain ⟨r4_6, c4_6, z4_6⟩ := keepZ hw6 z4_5 r4_5 c4_5
   obtain ⟨r5_6, c5_6, z5_6⟩ := keepZ hw6 z5_5 r5_5 c5_5
   obtain ⟨r6_6, c6_6, z6_6⟩ := keepZ hw6 z6_5 r6_5 c6_5
   obtain ⟨r15_6, c15_6, z15_6⟩ := keepZ hw6 z15_5 r15_5 c15_5
   obtain ⟨hb6, q6⟩ := bN hb5 hw6
   clear hw6 r3_5 c3_5 z3_5 r4_5 c4_5 z4_5 r5_5 c5_5 z5_5 r6_5 c6_5 z6_5 r15_5 c15_5 z15_5 hb5
   go_wp2
   have nw3_W6_0 : (w.heap.size) ≠ W6.heap.size := by omega
   have nw4_W6_0 : (w.heap.size + 1) ≠ W6.heap.size := by omega
   have nw5_W6_0 : (w.heap.size + 2) ≠ W6.heap.size := by omega
   have nw6_W6_0 : (w.heap.size + 3) ≠ W6.heap.size := by omega
   refine atomW fun W7 e7 => ?_
   have hb7 : Below w.heap.size w W7 := by rw [e7]; exact bt
   have q7 := hb7.size
   have R7 : IsRow W7 (w.heap.size) ∧ IsRow W7 (w.heap.size + 1) ∧ IsRow W7 (w.heap.size + 2) ∧ IsRow W7 (w.heap.size + 3) ∧ IsRow W7 (W6.heap.size) := by rw [e7]; simp [go_sem, r3_6, c3_6, r4_6, c4_6, r5_6, c5_6, r6_6, c6_6, nw3_W6_0, nw4_W6_0, nw5_W6_0, nw6_W6_0, r15_6]
   obtain ⟨r3_7, r4_7, r5_7, r6_7, r9_7⟩ := R7
   have C7 := (⟨congrArg (blk · (w.heap.size)) e7, congrArg (blk · (w.heap.size + 1)) e7, congrArg (blk · (w.heap.size + 2)) e7, congrArg (blk · (w.heap.size + 3)) e7, congrArg (blk · (W6.heap.size)) e7⟩ : _ ∧ _ ∧ _ ∧ _ ∧ _); simp [go_sem, r3_6, c3_6, r4_6, c4_6, r5_6, c5_6, r6_6, c6_6, nw3_W6_0, nw4_W6_0, nw5_W6_0, nw6_W6_0, r15_6] at C7
   obtain ⟨c3_7, c4_7, c5_7, c6_7, c9_7⟩ := C7
   have z3_7 := isRow_lt r3_7; have z4_7 := isRow_lt r4_7; have z5_7 := isRow_lt r5_7; have z6_7 := isRow_lt r6_7; have z9_7 := isRow_lt r9_7
   have n3_9 : (w.heap.size) ≠ (W6.heap.size) := by omega
   have n4_9 : (w.heap.size + 1) ≠ (W6.heap.size) := by omega
   have n5_9 : (w.heap.size + 2) ≠ (W6.heap.size) := by omega
   have n6_9 : (w.heap.size + 3) ≠ (W6.heap.size) := by omega
   have n9_3 : (W6.heap.size) ≠ (w.heap.size) := by omega
   have n9_4 : (W6.heap.size) ≠ (w.heap.size + 1) := by omega
   have n9_5 : (W6.heap.size) ≠ (w.heap.size + 2) := by omega
   have n9_6 : (W6.heap.size) ≠ (w.heap.size + 3) := by omega
   clear e7 nw3_W6_0 nw4_W6_0 nw5_W6_0 nw6_W6_0 r3_6 c3_6 z3_6 r4_6 c4_6 z4_6 r5_6 c5_6 z5_6 r6_6 c6_6 z6_6 hb6
   go_loopw [10] (fun s10 wr => ∃ i : Nat, i ≤ n ∧ s10 = .int .i64 i ∧ Below w.heap.size w wr ∧ (IsRow wr (w.heap.size) ∧ blk wr (w.heap.size) = blk W7 (w.heap.size)) ∧ (IsRow wr (w.heap.size + 1) ∧ blk wr (w.heap.size + 1) = blk W7 (w.heap.size + 1)) ∧ (IsRow wr (w.heap.size + 2) ∧ blk wr (w.heap.size + 2) = blk W7 (w.heap.size + 2)) ∧ (IsRow wr (w.heap.size + 3) ∧ blk wr (w.heap.size + 3) = blk W7 (w.heap.size + 3)) ∧ (IsRow wr (W6.heap.size) ∧ blk wr (W6.heap.size) = mdl ((d : Int) + c) (suP d c F G i 0))) (fun s10 _ => n - (intOf s10).toNat)
   case atStart => exact ⟨0, by omega, rfl, hb7, ⟨r3_7, rfl⟩, ⟨r4_7, rfl⟩, ⟨r5_7, rfl⟩, ⟨r6_7, rfl⟩, ⟨r9_7, c9_7.trans (su_zero _ d c F G)⟩⟩
   case round =>
    obtain ⟨i, hle8, rfl, hb8, ⟨r3_8, c3_8⟩, ⟨r4_8, c4_8⟩, ⟨r5_8, c5_8⟩, ⟨r6_8, c6_8⟩, ⟨r9_8, c9_8⟩⟩ := hrel
    obtain ⟨W8, rfl⟩ : ∃ W8 : World, W8 = wr := ⟨_, rfl⟩
    have q8 := hb8.size
    have E3_8 := Lib.hid c3_7; replace c3_8 := c3_8.trans c3_7
    have z3_8 := isRow_lt r3_8
    have E4_8 := Lib.hid c4_7; replace c4_8 := c4_8.trans c4_7
    have z4_8 := isRow_lt r4_8
    have E5_8 := Lib.hid c5_7; replace c5_8 := c5_8.trans c5_7
    have z5_8 := isRow_lt r5_8
    have E6_8 := Lib.hid c6_7; replace c6_8 := c6_8.trans c6_7
    have z6_8 := isRow_lt r6_8
    have z9_8 := isRow_lt r9_8
    clear r3_7 c3_7 z3_7 r4_7 c4_7 z4_7 r5_7 c5_7 z5_7 r6_7 c6_7 z6_7 r9_7 c9_7 z9_7 hb7
    by_cases hlt8 : i < n
    ·
     have i0_8 : (0 : Int) ≤ (i : Int) := by omega
     have i8_8 : (i : Int) < 8 := by omega
     have k8_8 : i < 8 := by omega
     have m8_8 : i * 8 + 8 ≤ 64 := by omega
     have m64_8 : i * 64 + 64 ≤ 512 := by omega
     have l1_8 : 10 + i * 64 + 64 ≤ 522 := by omega
     go_wp2
     go_loopw [11] (fun s11 wr => ∃ j : Nat, j ≤ c ∧ s11 = .int .i64 j ∧ Below w.heap.size w wr ∧ (IsRow wr (w.heap.size) ∧ blk wr (w.heap.size) = blk W8 (w.heap.size)) ∧ (IsRow wr (w.heap.size + 1) ∧ blk wr (w.heap.size + 1) = blk W8 (w.heap.size + 1)) ∧ (IsRow wr (w.heap.size + 2) ∧ blk wr (w.heap.size + 2) = blk W8 (w.heap.size + 2)) ∧ (IsRow wr (w.heap.size + 3) ∧ blk wr (w.heap.size + 3) = blk W8 (w.heap.size + 3)) ∧ (IsRow wr (W6.heap.size) ∧ blk wr (W6.heap.size) = mdl ((d : Int) + c) (suP d c F G i j))) (fun s11 _ => c - (intOf s11).toNat)
     case atStart => exact ⟨0, by omega, rfl, hb8, ⟨r3_8, rfl⟩, ⟨r4_8, rfl⟩, ⟨r5_8, rfl⟩, ⟨r6_8, rfl⟩, ⟨r9_8, c9_8⟩⟩
     case round =>
      obtain ⟨j, hle9, rfl, hb9, ⟨r3_9, c3_9⟩, ⟨r4_9, c4_9⟩, ⟨r5_9, c5_9⟩, ⟨r6_9, c6_9⟩, ⟨r9_9, c9_9⟩⟩ := hrel
      obtain ⟨W9, rfl⟩ : ∃ W9 : World, W9 = wr := ⟨_, rfl⟩
      have q9 := hb9.size
      have E3_9 := Lib.hid c3_8; replace c3_9 := c3_9.trans c3_8
      have z3_9 := isRow_lt r3_9
      have E4_9 := Lib.hid c4_8; replace c4_9 := c4_9.trans c4_8
      have z4_9 := isRow_lt r4_9
      have E5_9 := Lib.hid c5_8; replace c5_9 := c5_9.trans c5_8
      have z5_9 := isRow_lt r5_9
      have E6_9 := Lib.hid c6_8; replace c6_9 := c6_9.trans c6_8
      have z6_9 := isRow_lt r6_9
      have z9_9 := isRow_lt r9_9
      clear r3_8 c3_8 z3_8 r4_8 c4_8 z4_8 r5_8 c5_8 z5_8 r6_8 c6_8 z6_8 r9_8 c9_8 z9_8 hb8
      by_cases hlt9 : j < c
      ·
       have i0_9 : (0 : Int) ≤ (j : Int) := by omega
       have i8_9 : (j : Int) < 8 := by omega
       have k8_9 : j < 8 := by omega
       have m8_9 : j * 8 + 8 ≤ 64 := by omega
       have m64_9 : j * 64 + 64 ≤ 512 := by omega
       have l1_9 : 10 + j * 64 + 64 ≤ 522 := by omega
       have l2_9i : 10 + i * 64 + j * 8 + 8 ≤ 522 := by omega
       have l3_9i : 10 + j * 64 + i * 8 + 8 ≤ 522 := by omega
       have l4_9i : i * 64 + j * 8 + 8 ≤ 512 := by omega
       have l5_9i : j * 64 + i * 8 + 8 ≤ 512 := by omega
       have l6_9i : i * 8 + j < 64 := by omega
       have l7_9i : j * 8 + i < 64 := by omega
       obtain ⟨s, hs⟩ : ∃ s : Nat, s = d + j := ⟨_, rfl⟩
       have q1 : IntKind.i64.wrap ((d : Int) + j) = (s : Int) := by rw [IntWalk.i64_in _ (by omega)]; omega
       have s8 : s < 8 := by omega
       have s9 : (s : Int) < 8 := by omega
       have HSS := Lib.hid hs
       clear hs
       have e1 := mdl_act8 c G i j (by omega) (by omega)
       have m1 : 1 + i * 64 + 64 ≤ 513 := by omega
       have m2 : 1 + i * 64 + j * 8 + 8 ≤ 513 := by omega
       have m3 : 1 + i * 64 + s * 8 + 8 ≤ 513 := by omega
       go_wp2
       refine wp_quiet_tail 17 (Below W9.heap.size W9) (by kernel_rfl) (by kernel_rfl) (Below.refl _ _).drew ?_
       simp only [List.take_succ_cons, List.take_zero, List.drop_succ_cons, List.drop_zero]
       iterate 13 (refine q_plain rfl ?_; apply Exists.intro; refine ⟨fun W hW => ?_, ?_⟩; (focus (obtain ⟨x3, y3⟩ := keepB hW z3_9 r3_9 c3_9; obtain ⟨x4, y4⟩ := keepB hW z4_9 r4_9 c4_9; obtain ⟨x5, y5⟩ := keepB hW z5_9 r5_9 c5_9; obtain ⟨x6, y6⟩ := keepB hW z6_9 r6_9 c6_9; obtain ⟨x9, y9⟩ := keepB hW z9_9 r9_9 c9_9; go_simp; first | done | rfl)); simp only [Act.put, List.setIfInBounds_toArray, List.set_cons_zero, List.set_cons_succ])
       (refine q_plain rfl ?_; apply Exists.intro; refine ⟨fun W hW => ?_, ?_⟩; (focus (obtain ⟨x3, y3⟩ := keepB hW z3_9 r3_9 c3_9; obtain ⟨x4, y4⟩ := keepB hW z4_9 r4_9 c4_9; obtain ⟨x5, y5⟩ := keepB hW z5_9 r5_9 c5_9; obtain ⟨x6, y6⟩ := keepB hW z6_9 r6_9 c6_9; obtain ⟨x9, y9⟩ := keepB hW z9_9 r9_9 c9_9; go_simp; (go_at_call 55; exact (moved_any d (act G i j) _ hd).mono fun e w2 ⟨he, hw2⟩ => ⟨he, hW.trans (hw2.mono hW.size)⟩))); simp only [Act.put, List.setIfInBounds_toArray, List.set_cons_zero, List.set_cons_succ])
       iterate 3 (refine q_plain rfl ?_; apply Exists.intro; refine ⟨fun W hW => ?_, ?_⟩; (focus (obtain ⟨x3, y3⟩ := keepB hW z3_9 r3_9 c3_9; obtain ⟨x4, y4⟩ := keepB hW z4_9 r4_9 c4_9; obtain ⟨x5, y5⟩ := keepB hW z5_9 r5_9 c5_9; obtain ⟨x6, y6⟩ := keepB hW z6_9 r6_9 c6_9; obtain ⟨x9, y9⟩ := keepB hW z9_9 r9_9 c9_9; go_simp; first | done | rfl)); simp only [Act.put, List.setIfInBounds_toArray, List.set_cons_zero, List.set_cons_succ])
       refine wpQuiet_nil ?_
       intro W10 hw10
       obtain ⟨r3_10, c3_10, z3_10⟩ := keepZ hw10 z3_9 r3_9 c3_9
       obtain ⟨r4_10, c4_10, z4_10⟩ := keepZ hw10 z4_9 r4_9 c4_9
       obtain ⟨r5_10, c5_10, z5_10⟩ := keepZ hw10 z5_9 r5_9 c5_9
       obtain ⟨r6_10, c6_10, z6_10⟩ := keepZ hw10 z6_9 r6_9 c6_9
       obtain ⟨r9_10, c9_10, z9_10⟩ := keepZ hw10 z9_9 r9_9 c9_9
       obtain ⟨hb10, q10⟩ := bN hb9 hw10
       clear hw10 r3_9 c3_9 z3_9 r4_9 c4_9 z4_9 r5_9 c5_9 z5_9 r6_9 c6_9 z6_9 r9_9 c9_9 z9_9 hb9
       go_wp2
       go_roundw
       case rel => exact ⟨j + 1, by omega, by go_num, bt, ⟨by simp [go_sem, r3_10, c3_10, n3_9, r4_10, c4_10, n4_9, r5_10, c5_10, n5_9, r6_10, c6_10, n6_9, r9_10, c9_10, n9_3, n9_4, n9_5, n9_6], (by rw [E3_9.out]; first | exact c3_10 | (simp [go_sem, r3_10, c3_10, n3_9, r4_10, c4_10, n4_9, r5_10, c5_10, n5_9, r6_10, c6_10, n6_9, r9_10, c9_10, n9_3, n9_4, n9_5, n9_6]; done))⟩, ⟨by simp [go_sem, r3_10, c3_10, n3_9, r4_10, c4_10, n4_9, r5_10, c5_10, n5_9, r6_10, c6_10, n6_9, r9_10, c9_10, n9_3, n9_4, n9_5, n9_6], (by rw [E4_9.out]; first | exact c4_10 | (simp [go_sem, r3_10, c3_10, n3_9, r4_10, c4_10, n4_9, r5_10, c5_10, n5_9, r6_10, c6_10, n6_9, r9_10, c9_10, n9_3, n9_4, n9_5, n9_6]; done))⟩, ⟨by simp [go_sem, r3_10, c3_10, n3_9, r4_10, c4_10, n4_9, r5_10, c5_10, n5_9, r6_10, c6_10, n6_9, r9_10, c9_10, n9_3, n9_4, n9_5, n9_6], (by rw [E5_9.out]; first | exact c5_10 | (simp [go_sem, r3_10, c3_10, n3_9, r4_10, c4_10, n4_9, r5_10, c5_10, n5_9, r6_10, c6_10, n6_9, r9_10, c9_10, n9_3, n9_4, n9_5, n9_6]; done))⟩, ⟨by simp [go_sem, r3_10, c3_10, n3_9, r4_10, c4_10, n4_9, r5_10, c5_10, n5_9, r6_10, c6_10, n6_9, r9_10, c9_10, n9_3, n9_4, n9_5, n9_6], (by rw [E6_9.out]; first | exact c6_10 | (simp [go_sem, r3_10, c3_10, n3_9, r4_10, c4_10, n4_9, r5_10, c5_10, n5_9, r6_10, c6_10, n6_9, r9_10, c9_10, n9_3, n9_4, n9_5, n9_6]; done))⟩, ⟨by simp [go_sem, r3_10, c3_10, n3_9, r4_10, c4_10, n4_9, r5_10, c5_10, n5_9, r6_10, c6_10, n6_9, r9_10, c9_10, n9_3, n9_4, n9_5, n9_6], (by first | (rw [blk_setRow _ _ _ _ r9_10, if_pos rfl]; exact su_stepS HSS.out (by omega) (by omega) hde) | exact (c9_10).trans (su_stepS HSS.out (by omega) (by omega) hde) | (simp [go_sem, r3_10, c3_10, n3_9, r4_10, c4_10, n4_9, r5_10, c5_10, n5_9, r6_10, c6_10, n6_9, r9_10, c9_10, n9_3, n9_4, n9_5, n9_6]; exact su_stepS HSS.out (by omega) (by omega) hde))⟩⟩
       case measure => simp [intOf]; try omega
      ·
       obtain rfl : c = j := by omega
       go_wp2
       go_roundw
       case rel => exact ⟨i + 1, by omega, by go_num, bt, ⟨by simp [go_sem, r3_9, c3_9, n3_9, r4_9, c4_9, n4_9, r5_9, c5_9, n5_9, r6_9, c6_9, n6_9, r9_9, c9_9, n9_3, n9_4, n9_5, n9_6], (by rw [E3_8.out]; first | exact c3_9 | (simp [go_sem, r3_9, c3_9, n3_9, r4_9, c4_9, n4_9, r5_9, c5_9, n5_9, r6_9, c6_9, n6_9, r9_9, c9_9, n9_3, n9_4, n9_5, n9_6]; done))⟩, ⟨by simp [go_sem, r3_9, c3_9, n3_9, r4_9, c4_9, n4_9, r5_9, c5_9, n5_9, r6_9, c6_9, n6_9, r9_9, c9_9, n9_3, n9_4, n9_5, n9_6], (by rw [E4_8.out]; first | exact c4_9 | (simp [go_sem, r3_9, c3_9, n3_9, r4_9, c4_9, n4_9, r5_9, c5_9, n5_9, r6_9, c6_9, n6_9, r9_9, c9_9, n9_3, n9_4, n9_5, n9_6]; done))⟩, ⟨by simp [go_sem, r3_9, c3_9, n3_9, r4_9, c4_9, n4_9, r5_9, c5_9, n5_9, r6_9, c6_9, n6_9, r9_9, c9_9, n9_3, n9_4, n9_5, n9_6], (by rw [E5_8.out]; first | exact c5_9 | (simp [go_sem, r3_9, c3_9, n3_9, r4_9, c4_9, n4_9, r5_9, c5_9, n5_9, r6_9, c6_9, n6_9, r9_9, c9_9, n9_3, n9_4, n9_5, n9_6]; done))⟩, ⟨by simp [go_sem, r3_9, c3_9, n3_9, r4_9, c4_9, n4_9, r5_9, c5_9, n5_9, r6_9, c6_9, n6_9, r9_9, c9_9, n9_3, n9_4, n9_5, n9_6], (by rw [E6_8.out]; first | exact c6_9 | (simp [go_sem, r3_9, c3_9, n3_9, r4_9, c4_9, n4_9, r5_9, c5_9, n5_9, r6_9, c6_9, n6_9, r9_9, c9_9, n9_3, n9_4, n9_5, n9_6]; done))⟩, ⟨by simp [go_sem, r3_9, c3_9, n3_9, r4_9, c4_9, n4_9, r5_9, c5_9, n5_9, r6_9, c6_9, n6_9, r9_9, c9_9, n9_3, n9_4, n9_5, n9_6], (by first | exact (c9_9).trans (su_row) | (simp [go_sem, r3_9, c3_9, n3_9, r4_9, c4_9, n4_9, r5_9, c5_9, n5_9, r6_9, c6_9, n6_9, r9_9, c9_9, n9_3, n9_4, n9_5, n9_6]; exact su_row))⟩⟩
       case measure => simp [intOf]; try omega
    ·
     obtain rfl : n = i := by omega
     rw [HE.out] at c9_8
     go_wp2_with fail
     refine bodyPost_ret (result_cell_tmp rfl aggMod _ _ (mdl ((d : Int) + c) (finM n (d + c) (sumG d F G))) _ _ rfl rfl ?_ ?_) rfl ⟨ret_mod2 (by rw [H.out.2]; show _ = mdl ((d : Int) + c) (finM n ((d : Int) + c).toNat (sumG d F G)); rw [show ((d : Int) + c).toNat = d + c by omega]) H.out.1.symm, ?_⟩
     · simp [go_sem, r3_8, c3_8, n3_9, r4_8, c4_8, n4_9, r5_8, c5_8, n5_9, r6_8, c6_8, n6_9, r9_8, c9_8, n9_3, n9_4, n9_5, n9_6]
     · simp [go_sem, r3_8, c3_8, n3_9, r4_8, c4_8, n4_9, r5_8, c5_8, n5_9, r6_8, c6_8, n6_9, r9_8, c9_8, n9_3, n9_4, n9_5, n9_6]
     · exact bt

set_option maxRecDepth 100000 in
set_option maxHeartbeats 2000000 in
theorem lawSumModule (fp fn : Int) (f : Nat → Int) (md : Int) (m : Nat → Int) (kd : Int) (k : Nat → Int) (w : World) (_wfp : (Lit.int .i64 fp).wf = true) (_wfn : (Lit.int .i64 fn).wf = true) (hf : Bytes 1104 f) (_wmd : (Lit.int .i64 md).wf = true) (hm : Bytes 512 m) (_wkd : (Lit.int .i64 kd).wf = true) (hk : Bytes 512 k) :
    Calls Tryz.prog 4 #[.agg (hop fp fn f), .agg (mdl md m), .agg (mdl kd k)] w fun e w' => e = .returned (.bool true) ∧ Below w.heap.size w w' := by
 have Hf := Lib.hid hf; clear hf
 have Hm := Lib.hid hm; clear hm
 have Hk := Lib.hid hk; clear hk
 go_enter Tryz.func4, Tryz.ntmps4
 go_wp2
 refine atomW fun W1 e1 => ?_
 have hb1 : Below w.heap.size w W1 := by rw [e1]; exact bt
 have q1 := hb1.size
 have R1 : IsRow W1 (w.heap.size) ∧ IsRow W1 (w.heap.size + 1) ∧ IsRow W1 (w.heap.size + 2) := by rw [e1]; simp [go_sem]
 obtain ⟨r3_1, r4_1, r5_1⟩ := R1
 have C1 := (⟨congrArg (blk · (w.heap.size)) e1, congrArg (blk · (w.heap.size + 1)) e1, congrArg (blk · (w.heap.size + 2)) e1⟩ : _ ∧ _ ∧ _); simp [go_sem] at C1
 obtain ⟨c3_1, c4_1, c5_1⟩ := C1
 have z3_1 := isRow_lt r3_1; have z4_1 := isRow_lt r4_1; have z5_1 := isRow_lt r5_1
 clear e1
 refine wp_quiet_alloc_late 10 9 _ _ (.cells (mdl 0 zf) 41) (Below W1.heap.size W1) (Made W1 (mdl 0 zf)) (by kernel_rfl) rfl rfl rfl (by kernel_rfl) (by kernel_rfl) (fun c a w d v h => by cases d <;> exact h) (fun a W => (xallocMod _ _ _ _ _ _ _).trans (allocMod W)) (closed_below W1) (closed_made W1 _) (fun b W h => h.1) (fun W h => made_new W1 _ _ W h) (Below.refl _ _).drew ?_
 simp only [List.take_succ_cons, List.take_zero, List.drop_succ_cons, List.drop_zero]
 iterate 1 (refine e_plain rfl ?_; apply Exists.intro; refine ⟨fun D hD hK W hW => ?_, ?_⟩; (focus (obtain ⟨x3, y3⟩ := keepB (hD W hW) z3_1 r3_1 c3_1; obtain ⟨x4, y4⟩ := keepB (hD W hW) z4_1 r4_1 c4_1; obtain ⟨x5, y5⟩ := keepB (hD W hW) z5_1 r5_1 c5_1; unfold Oper.quietAt; go_simp; first | done | rfl)); simp only [Act.put, List.setIfInBounds_toArray, List.set_cons_zero, List.set_cons_succ])
 (refine e_plain rfl ?_; apply Exists.intro; refine ⟨fun D hD hK W hW => ?_, ?_⟩; (focus (obtain ⟨x3, y3⟩ := keepB (hD W hW) z3_1 r3_1 c3_1; obtain ⟨x4, y4⟩ := keepB (hD W hW) z4_1 r4_1 c4_1; obtain ⟨x5, y5⟩ := keepB (hD W hW) z5_1 r5_1 c5_1; unfold Oper.quietAt; go_simp; (go_at_call 15; exact (toHopf_any _ _ _ _).mono fun e w2 ⟨he, hw2⟩ => ⟨he, hK _ _ hW hw2⟩))); simp only [Act.put, List.setIfInBounds_toArray, List.set_cons_zero, List.set_cons_succ])
 iterate 1 (refine e_plain rfl ?_; apply Exists.intro; refine ⟨fun D hD hK W hW => ?_, ?_⟩; (focus (obtain ⟨x3, y3⟩ := keepB (hD W hW) z3_1 r3_1 c3_1; obtain ⟨x4, y4⟩ := keepB (hD W hW) z4_1 r4_1 c4_1; obtain ⟨x5, y5⟩ := keepB (hD W hW) z5_1 r5_1 c5_1; unfold Oper.quietAt; go_simp; first | done | rfl)); simp only [Act.put, List.setIfInBounds_toArray, List.set_cons_zero, List.set_cons_succ])
 (refine e_plain rfl ?_; apply Exists.intro; refine ⟨fun D hD hK W hW => ?_, ?_⟩; (focus (obtain ⟨x3, y3⟩ := keepB (hD W hW) z3_1 r3_1 c3_1; obtain ⟨x4, y4⟩ := keepB (hD W hW) z4_1 r4_1 c4_1; obtain ⟨x5, y5⟩ := keepB (hD W hW) z5_1 r5_1 c5_1; unfold Oper.quietAt; go_simp; (go_at_call 18; exact (toModule_any _ _ _).mono fun e w2 ⟨he, hw2⟩ => ⟨he, hK _ _ hW hw2⟩))); simp only [Act.put, List.setIfInBounds_toArray, List.set_cons_zero, List.set_cons_succ])
 iterate 1 (refine e_plain rfl ?_; apply Exists.intro; refine ⟨fun D hD hK W hW => ?_, ?_⟩; (focus (obtain ⟨x3, y3⟩ := keepB (hD W hW) z3_1 r3_1 c3_1; obtain ⟨x4, y4⟩ := keepB (hD W hW) z4_1 r4_1 c4_1; obtain ⟨x5, y5⟩ := keepB (hD W hW) z5_1 r5_1 c5_1; unfold Oper.quietAt; go_simp; first | done | rfl)); simp only [Act.put, List.setIfInBounds_toArray, List.set_cons_zero, List.set_cons_succ])
 (refine e_plain rfl ?_; apply Exists.intro; refine ⟨fun D hD hK W hW => ?_, ?_⟩; (focus (obtain ⟨x3, y3⟩ := keepB (hD W hW) z3_1 r3_1 c3_1; obtain ⟨x4, y4⟩ := keepB (hD W hW) z4_1 r4_1 c4_1; obtain ⟨x5, y5⟩ := keepB (hD W hW) z5_1 r5_1 c5_1; unfold Oper.quietAt; go_simp; (go_at_call 18; exact (toModule_any _ _ _).mono fun e w2 ⟨he, hw2⟩ => ⟨he, hK _ _ hW hw2⟩))); simp only [Act.put, List.setIfInBounds_toArray, List.set_cons_zero, List.set_cons_succ])
 (refine e_plain rfl ?_; apply Exists.intro; refine ⟨fun D hD hK W hW => ?_, ?_⟩; (focus (obtain ⟨x3, y3⟩ := keepB (hD W hW) z3_1 r3_1 c3_1; obtain ⟨x4, y4⟩ := keepB (hD W hW) z4_1 r4_1 c4_1; obtain ⟨x5, y5⟩ := keepB (hD W hW) z5_1 r5_1 c5_1; unfold Oper.quietAt; go_simp; (go_at_call 17; exact (specSum_any _ _ _ _ _ _ _ _ Hf.out Hm.out Hk.out).mono fun e w2 ⟨he, hw2⟩ => ⟨he, hK _ _ hW hw2⟩))); simp only [Act.put, List.setIfInBounds_toArray, List.set_cons_zero, List.set_cons_succ])
 iterate 3 (refine e_plain rfl ?_; apply Exists.intro; refine ⟨fun D hD hK W hW => ?_, ?_⟩; (focus (obtain ⟨x3, y3⟩ := keepB (hD W hW) z3_1 r3_1 c3_1; obtain ⟨x4, y4⟩ := keepB (hD W hW) z4_1 r4_1 c4_1; obtain ⟨x5, y5⟩ := keepB (hD W hW) z5_1 r5_1 c5_1; unfold Oper.quietAt; go_simp; first | done | rfl)); simp only [Act.put, List.setIfInBounds_toArray, List.set_cons_zero, List.set_cons_succ])
 refine e_nil ?_
 intro a2 W2 hW2
 obtain ⟨hw2, hl2, m1_2, m2_2⟩ := hW2
 have n3_7 : (w.heap.size) ≠ (a2) := by have := z3_1; omega
 have n7_3 : (a2) ≠ (w.heap.size) := by have := z3_1; omega
 have n4_7 : (w.heap.size + 1) ≠ (a2) := by have := z4_1; omega
 have n7_4 : (a2) ≠ (w.heap.size + 1) := by have := z4_1; omega
 have n5_7 : (w.heap.size + 2) ≠ (a2) := by have := z5_1; omega
 have n7_5 : (a2) ≠ (w.heap.size + 2) := by have := z5_1; omega
 obtain ⟨r3_2, c3_2, z3_2⟩ := keepZ hw2 z3_1 r3_1 c3_1
 obtain ⟨r4_2, c4_2, z4_2⟩ := keepZ hw2 z4_1 r4_1 c4_1
 obtain ⟨r5_2, c5_2, z5_2⟩ := keepZ hw2 z5_1 r5_1 c5_1
 obtain ⟨hb2, q2⟩ := bN hb1 hw2
 clear hw2 r3_1 c3_1 z3_1 r4_1 c4_1 z4_1 r5_1 c5_1 z5_1 hb1
 have z7_2 := isRow_lt m1_2
 simp only [Act.put, List.setIfInBounds_toArray, List.set_cons_zero, List.set_cons_succ]
 go_wp2
 refine atomW fun W3 e3 => ?_
 have hb3 : Below w.heap.size w W3 := by rw [e3]; exact bt
 have q3 := hb3.size
 have R3 : IsRow W3 (w.heap.size) ∧ IsRow W3 (w.heap.size + 1) ∧ IsRow W3 (w.heap.size + 2) ∧ IsRow W3 (a2) := by rw [e3]; simp [go_sem, r3_2, c3_2, n3_7, r4_2, c4_2, n4_7, r5_2, c5_2, n5_7, m1_2, m2_2, n7_3, n7_4, n7_5]
 obtain ⟨r3_3, r4_3, r5_3, r7_3⟩ := R3
 have C3 := (⟨congrArg (blk · (w.heap.size)) e3, congrArg (blk · (w.heap.size + 1)) e3, congrArg (blk · (w.heap.size + 2)) e3, congrArg (blk · (a2)) e3⟩ : _ ∧ _ ∧ _ ∧ _); simp [go_sem, r3_2, c3_2, n3_7, r4_2, c4_2, n4_7, r5_2, c5_2, n5_7, m1_2, m2_2, n7_3, n7_4, n7_5] at C3
 obtain ⟨c3_3, c4_3, c5_3, c7_3⟩ := C3
 have z3_3 := isRow_lt r3_3; have z4_3 := isRow_lt r4_3; have z5_3 := isRow_lt r5_3; have z7_3 := isRow_lt r7_3
 clear e3 r3_2 c3_2 z3_2 r4_2 c4_2 z4_2 r5_2 c5_2 z5_2 m1_2 m2_2 z7_2 hb2
 refine wp_quiet_alloc_late 10 9 _ _ (.cells (mdl 0 zf) 41) (Below W3.heap.size W3) (Made W3 (mdl 0 zf)) (by kernel_rfl) rfl rfl rfl (by kernel_rfl) (by kernel_rfl) (fun c a w d v h => by cases d <;> exact h) (fun a W => (xallocMod _ _ _ _ _ _ _).trans (allocMod W)) (closed_below W3) (closed_made W3 _) (fun b W h => h.1) (fun W h => made_new W3 _ _ W h) (Below.refl _ _).drew ?_
 simp only [List.take_succ_cons, List.take_zero, List.drop_succ_cons, List.drop_zero]
 iterate 1 (refine e_plain rfl ?_; apply Exists.intro; refine ⟨fun D hD hK W hW => ?_, ?_⟩; (focus (obtain ⟨x3, y3⟩ := keepB (hD W hW) z3_3 r3_3 c3_3; obtain ⟨x4, y4⟩ := keepB (hD W hW) z4_3 r4_3 c4_3; obtain ⟨x5, y5⟩ := keepB (hD W hW) z5_3 r5_3 c5_3; obtain ⟨x7, y7⟩ := keepB (hD W hW) z7_3 r7_3 c7_3; unfold Oper.quietAt; go_simp; first | done | rfl)); simp only [Act.put, List.setIfInBounds_toArray, List.set_cons_zero, List.set_cons_succ])
 (refine e_plain rfl ?_; apply Exists.intro; refine ⟨fun D hD hK W hW => ?_, ?_⟩; (focus (obtain ⟨x3, y3⟩ := keepB (hD W hW) z3_3 r3_3 c3_3; obtain ⟨x4, y4⟩ := keepB (hD W hW) z4_3 r4_3 c4_3; obtain ⟨x5, y5⟩ := keepB (hD W hW) z5_3 r5_3 c5_3; obtain ⟨x7, y7⟩ := keepB (hD W hW) z7_3 r7_3 c7_3; unfold Oper.quietAt; go_simp; (go_at_call 15; exact (toHopf_any _ _ _ _).mono fun e w2 ⟨he, hw2⟩ => ⟨he, hK _ _ hW hw2⟩))); simp only [Act.put, List.setIfInBounds_toArray, List.set_cons_zero, List.set_cons_succ])
 iterate 1 (refine e_plain rfl ?_; apply Exists.intro; refine ⟨fun D hD hK W hW => ?_, ?_⟩; (focus (obtain ⟨x3, y3⟩ := keepB (hD W hW) z3_3 r3_3 c3_3; obtain ⟨x4, y4⟩ := keepB (hD W hW) z4_3 r4_3 c4_3; obtain ⟨x5, y5⟩ := keepB (hD W hW) z5_3 r5_3 c5_3; obtain ⟨x7, y7⟩ := keepB (hD W hW) z7_3 r7_3 c7_3; unfold Oper.quietAt; go_simp; first | done | rfl)); simp only [Act.put, List.setIfInBounds_toArray, List.set_cons_zero, List.set_cons_succ])
 (refine e_plain rfl ?_; apply Exists.intro; refine ⟨fun D hD hK W hW => ?_, ?_⟩; (focus (obtain ⟨x3, y3⟩ := keepB (hD W hW) z3_3 r3_3 c3_3; obtain ⟨x4, y4⟩ := keepB (hD W hW) z4_3 r4_3 c4_3; obtain ⟨x5, y5⟩ := keepB (hD W hW) z5_3 r5_3 c5_3; obtain ⟨x7, y7⟩ := keepB (hD W hW) z7_3 r7_3 c7_3; unfold Oper.quietAt; go_simp; (go_at_call 18; exact (toModule_any _ _ _).mono fun e w2 ⟨he, hw2⟩ => ⟨he, hK _ _ hW hw2⟩))); simp only [Act.put, List.setIfInBounds_toArray, List.set_cons_zero, List.set_cons_succ])
 iterate 1 (refine e_plain rfl ?_; apply Exists.intro; refine ⟨fun D hD hK W hW => ?_, ?_⟩; (focus (obtain ⟨x3, y3⟩ := keepB (hD W hW) z3_3 r3_3 c3_3; obtain ⟨x4, y4⟩ := keepB (hD W hW) z4_3 r4_3 c4_3; obtain ⟨x5, y5⟩ := keepB (hD W hW) z5_3 r5_3 c5_3; obtain ⟨x7, y7⟩ := keepB (hD W hW) z7_3 r7_3 c7_3; unfold Oper.quietAt; go_simp; first | done | rfl)); simp only [Act.put, List.setIfInBounds_toArray, List.set_cons_zero, List.set_cons_succ])
 (refine e_plain rfl ?_; apply Exists.intro; refine ⟨fun D hD hK W hW => ?_, ?_⟩; (focus (obtain ⟨x3, y3⟩ := keepB (hD W hW) z3_3 r3_3 c3_3; obtain ⟨x4, y4⟩ := keepB (hD W hW) z4_3 r4_3 c4_3; obtain ⟨x5, y5⟩ := keepB (hD W hW) z5_3 r5_3 c5_3; obtain ⟨x7, y7⟩ := keepB (hD W hW) z7_3 r7_3 c7_3; unfold Oper.quietAt; go_simp; (go_at_call 18; exact (toModule_any _ _ _).mono fun e w2 ⟨he, hw2⟩ => ⟨he, hK _ _ hW hw2⟩))); simp only [Act.put, List.setIfInBounds_toArray, List.set_cons_zero, List.set_cons_succ])
 (refine e_plain rfl ?_; apply Exists.intro; refine ⟨fun D hD hK W hW => ?_, ?_⟩; (focus (obtain ⟨x3, y3⟩ := keepB (hD W hW) z3_3 r3_3 c3_3; obtain ⟨x4, y4⟩ := keepB (hD W hW) z4_3 r4_3 c4_3; obtain ⟨x5, y5⟩ := keepB (hD W hW) z5_3 r5_3 c5_3; obtain ⟨x7, y7⟩ := keepB (hD W hW) z7_3 r7_3 c7_3; unfold Oper.quietAt; go_simp; (go_at_call 19; exact (implSum_any _ _ _ _ _ _ _ _ Hf.out Hm.out Hk.out).mono fun e w2 ⟨he, hw2⟩ => ⟨he, hK _ _ hW hw2⟩))); simp only [Act.put, List.setIfInBounds_toArray, List.set_cons_zero, List.set_cons_succ])
 iterate 3 (refine e_plain rfl ?_; apply Exists.intro; refine ⟨fun D hD hK W hW => ?_, ?_⟩; (focus (obtain ⟨x3, y3⟩ := keepB (hD W hW) z3_3 r3_3 c3_3; obtain ⟨x4, y4⟩ := keepB (hD W hW) z4_3 r4_3 c4_3; obtain ⟨x5, y5⟩ := keepB (hD W hW) z5_3 r5_3 c5_3; obtain ⟨x7, y7⟩ := keepB (hD W hW) z7_3 r7_3 c7_3; unfold Oper.quietAt; go_simp; first | done | rfl)); simp only [Act.put, List.setIfInBounds_toArray, List.set_cons_zero, List.set_cons_succ])
 refine e_nil ?_
 intro a4 W4 hW4
 obtain ⟨hw4, hl4, m1_4, m2_4⟩ := hW4
 have n3_9 : (w.heap.size) ≠ (a4) := by have := z3_3; omega
 have n9_3 : (a4) ≠ (w.heap.size) := by have := z3_3; omega
 have n4_9 : (w.heap.size + 1) ≠ (a4) := by have := z4_3; omega
 have n9_4 : (a4) ≠ (w.heap.size + 1) := by have := z4_3; omega
 have n5_9 : (w.heap.size + 2) ≠ (a4) := by have := z5_3; omega
 have n9_5 : (a4) ≠ (w.heap.size + 2) := by have := z5_3; omega
 have n7_9 : (a2) ≠ (a4) := by have := z7_3; omega
 have n9_7 : (a4) ≠ (a2) := by have := z7_3; omega
 obtain ⟨r3_4, c3_4, z3_4⟩ := keepZ hw4 z3_3 r3_3 c3_3
 obtain ⟨r4_4, c4_4, z4_4⟩ := keepZ hw4 z4_3 r4_3 c4_3
 obtain ⟨r5_4, c5_4, z5_4⟩ := keepZ hw4 z5_3 r5_3 c5_3
 obtain ⟨r7_4, c7_4, z7_4⟩ := keepZ hw4 z7_3 r7_3 c7_3
 obtain ⟨hb4, q4⟩ := bN hb3 hw4
 clear hw4 r3_3 c3_3 z3_3 r4_3 c4_3 z4_3 r5_3 c5_3 z5_3 r7_3 c7_3 z7_3 hb3
 have z9_4 := isRow_lt m1_4
 simp only [Act.put, List.setIfInBounds_toArray, List.set_cons_zero, List.set_cons_succ]
 go_wp2_with fail
 refine atomC fun W5 e5 => ?_
 have hb5 : Below w.heap.size w W5 := by rw [e5]; exact bt
 have q5 := hb5.size
 clear e5 hb4
 refine (eqModule_same _ _ _).mono ?_; rintro _ W6 ⟨rfl, hw6⟩
 obtain ⟨hb6, q6⟩ := bN hb5 hw6
 clear hw6 hb5
 go_wp2_with fail
 go_ret
 exact ⟨rfl, bt⟩

end Go.Proofs.YtfmhgfnadgaiaaaGreat
