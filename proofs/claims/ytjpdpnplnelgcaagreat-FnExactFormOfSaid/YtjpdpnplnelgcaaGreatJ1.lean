/- Duals of Hopf algebras: both programs. -/
import Derived.Test.YtjpdpnplnelgcaaGreatI2
namespace Go.Proofs.YtjpdpnplnelgcaaGreat
open Go.RowKit
set_option linter.unusedSimpArgs false
set_option linter.unusedVariables false
attribute [local irreducible] wpQuiet wpQE

/-! ### a Hopf table of its parts -/
def joinH (u m c d s : Nat → Int) : Nat → Int := fun t => if t < 8 then u t else if t < 520 then m (t - 8) else if t < 528 then c (t - 520) else if t < 1040 then d (t - 528) else s (t - 1040)
theorem joinH_congr {p n : Int} {u m c d s u' m' c' d' s' : Nat → Int} (h1 : ∀ t, t < 8 → u t = u' t) (h2 : ∀ t, t < 512 → m t = m' t) (h3 : ∀ t, t < 8 → c t = c' t) (h4 : ∀ t, t < 512 → d t = d' t) (h5 : ∀ t, t < 64 → s t = s' t) :
    hop p n (joinH u m c d s) = hop p n (joinH u' m' c' d' s') := hop_congr fun i hi => by
  unfold joinH
  split
  · exact h1 _ (by omega)
  · split
    · exact h2 _ (by omega)
    · split
      · exact h3 _ (by omega)
      · split
        · exact h4 _ (by omega)
        · exact h5 _ (by omega)
theorem jh1 {u m c d s : Nat → Int} {t : Nat} (h : t < 8) : joinH u m c d s t = u t := by unfold joinH; rw [if_pos h]
theorem jh2 {u m c d s : Nat → Int} {t : Nat} (h : 8 ≤ t ∧ t < 520) : joinH u m c d s t = m (t - 8) := by unfold joinH; rw [if_neg (by omega), if_pos h.2]
theorem jh3 {u m c d s : Nat → Int} {t : Nat} (h : 520 ≤ t ∧ t < 528) : joinH u m c d s t = c (t - 520) := by unfold joinH; rw [if_neg (by omega), if_neg (by omega), if_pos h.2]
theorem jh4 {u m c d s : Nat → Int} {t : Nat} (h : 528 ≤ t ∧ t < 1040) : joinH u m c d s t = d (t - 528) := by unfold joinH; rw [if_neg (by omega), if_neg (by omega), if_neg (by omega), if_pos h.2]
theorem jh5 {u m c d s : Nat → Int} {t : Nat} (h : 1040 ≤ t) : joinH u m c d s t = s (t - 1040) := by unfold joinH; rw [if_neg (by omega), if_neg (by omega), if_neg (by omega), if_neg (by omega)]
theorem jhs (t : Nat) : t < 8 ∨ (8 ≤ t ∧ t < 520) ∨ (520 ≤ t ∧ t < 528) ∨ (528 ≤ t ∧ t < 1040) ∨ 1040 ≤ t := by omega
theorem updY {f : Nat → Int} {a t : Nat} {x : Int} (h : t = a) : upd f a x t = x := by unfold upd; rw [if_pos h]
theorem updN {f : Nat → Int} {a t : Nat} {x : Int} (h : t ≠ a) : upd f a x t = f t := by unfold upd; rw [if_neg h]
set_option maxRecDepth 100000 in
theorem hop_set {p n : Int} {f : Nat → Int} {a : Nat} (x : Int) (ha : a < 1104) : (hop p n f).setIfInBounds (2 + a) (.int .u8 x) = hop p n (upd f a x) := by
  apply hop_ext
  · rw [Array.getElem?_setIfInBounds, if_neg (by omega), hop_prime]
  · rw [Array.getElem?_setIfInBounds, if_neg (by omega), hop_len]
  · intro i hi
    rw [Array.getElem?_setIfInBounds, hop_size]
    unfold upd
    by_cases h : i = a
    · subst h; rw [if_pos rfl, if_pos (by omega), if_pos rfl]
    · rw [if_neg (by omega), if_neg h, hop_get p n f (2 + i) (by omega) (by omega), Nat.add_sub_cancel_left]
  · intro i hi; rw [Array.getElem?_setIfInBounds, if_neg (by omega), hop_none p n f i hi]

theorem set_m (p n : Int) (u m c d s : Nat → Int) {i j k : Nat} (hi : i < 8) (hj : j < 8) (hk : k < 8) (x : Int) : (hop p n (joinH u m c d s)).setIfInBounds (10 + i * 64 + j * 8 + k) (.int .u8 x) = hop p n (joinH u (upd m (i * 64 + (j * 8 + k)) x) c d s) := by
  rw [show 10 + i * 64 + j * 8 + k = 2 + (8 + (i * 64 + (j * 8 + k))) by omega, hop_set x (by omega)]
  refine hop_congr fun t _ => ?_
  rcases jhs t with h | h | h | h | h
  · rw [updN (by omega), jh1 h, jh1 h]
  · rw [jh2 h]
    by_cases e : t = 8 + (i * 64 + (j * 8 + k))
    · rw [updY e, updY (by omega)]
    · rw [updN e, updN (by omega), jh2 h]
  · rw [updN (by omega), jh3 h, jh3 h]
  · rw [updN (by omega), jh4 h, jh4 h]
  · rw [updN (by omega), jh5 h, jh5 h]
theorem set_d (p n : Int) (u m c d s : Nat → Int) {i j k : Nat} (hi : i < 8) (hj : j < 8) (hk : k < 8) (x : Int) : (hop p n (joinH u m c d s)).setIfInBounds (530 + i * 64 + j * 8 + k) (.int .u8 x) = hop p n (joinH u m c (upd d (i * 64 + (j * 8 + k)) x) s) := by
  rw [show 530 + i * 64 + j * 8 + k = 2 + (528 + (i * 64 + (j * 8 + k))) by omega, hop_set x (by omega)]
  refine hop_congr fun t _ => ?_
  rcases jhs t with h | h | h | h | h
  · rw [updN (by omega), jh1 h, jh1 h]
  · rw [updN (by omega), jh2 h, jh2 h]
  · rw [updN (by omega), jh3 h, jh3 h]
  · rw [jh4 h]
    by_cases e : t = 528 + (i * 64 + (j * 8 + k))
    · rw [updY e, updY (by omega)]
    · rw [updN e, updN (by omega), jh4 h]
  · rw [updN (by omega), jh5 h, jh5 h]
theorem set_s (p n : Int) (u m c d s : Nat → Int) {i j : Nat} (hi : i < 8) (hj : j < 8) (x : Int) : (hop p n (joinH u m c d s)).setIfInBounds (1042 + i * 8 + j) (.int .u8 x) = hop p n (joinH u m c d (upd s (i * 8 + j) x)) := by
  rw [show 1042 + i * 8 + j = 2 + (1040 + (i * 8 + j)) by omega, hop_set x (by omega)]
  refine hop_congr fun t _ => ?_
  rcases jhs t with h | h | h | h | h
  · rw [updN (by omega), jh1 h, jh1 h]
  · rw [updN (by omega), jh2 h, jh2 h]
  · rw [updN (by omega), jh3 h, jh3 h]
  · rw [updN (by omega), jh4 h, jh4 h]
  · rw [jh5 h]
    by_cases e : t = 1040 + (i * 8 + j)
    · rw [updY e, updY (by omega)]
    · rw [updN e, updN (by omega), jh5 h]
theorem hop_aq (p n : Int) (f : Nat → Int) (i j : Nat) (hi : i < 8) (hj : j < 8) : (hop p n f)[1042 + i * 8 + j]? = some (.int .u8 (anF f (i * 8 + j))) := by
  rw [hop_get p n f _ (by omega) (by omega), show 1042 + i * 8 + j - 2 = 1040 + (i * 8 + j) by omega]; rfl
theorem hop_ae (p n : Int) (f : Nat → Int) (i j : Nat) (hi : i < 8) (hj : j < 8) (h : 1042 + i * 8 + j < (hop p n f).size) : (hop p n f)[1042 + i * 8 + j] = .int .u8 (anF f (i * 8 + j)) := el_of (hop_aq p n f i j hi hj) h
@[go_sem ↓] theorem xbuildH7 (ρ : Operand → Value) (dst : Option Tmp) (a b c d e g h : Operand) (ty : TypeId) (pos : String) (after : Array Edge) (guard : Option (Nat × Bool)) (w : World) :
    (execOp ρ ⟨dst, .build 35 #[(0, a), (1, b), (2, c), (3, d), (4, e), (5, g), (6, h)], ty, pos, after, guard⟩).run Tryz.prog w = buildS Tryz.prog 35 #[(0, ρ a), (1, ρ b), (2, ρ c), (3, ρ d), (4, ρ e), (5, ρ g), (6, ρ h)] w := by kernel_rfl
@[go_sem ↓] theorem xbuildH4 (ρ : Operand → Value) (dst : Option Tmp) (a b c e : Operand) (ty : TypeId) (pos : String) (after : Array Edge) (guard : Option (Nat × Bool)) (w : World) :
    (execOp ρ ⟨dst, .build 35 #[(0, a), (1, b), (2, c), (4, e)], ty, pos, after, guard⟩).run Tryz.prog w = buildS Tryz.prog 35 #[(0, ρ a), (1, ρ b), (2, ρ c), (4, ρ e)] w := by kernel_rfl
set_option maxRecDepth 100000 in
@[go_sem] theorem buildH7 (p n : Int) (u m c d s : Nat → Int) (w : World) : buildS Tryz.prog 35 #[(0, .int .i64 p), (1, .int .i64 n), (2, .agg (row 8 u)), (3, .agg (row 512 m)), (4, .agg (row 8 c)), (5, .agg (row 512 d)), (6, .agg (row 64 s))] w = .ok (.value (.agg (hop p n (joinH u m c d s)))) w := by
  refine build_struct (fields := fieldsOf Tryz.prog 35) (places := #[(0, 1), (1, 1), (2, 8), (10, 512), (522, 8), (530, 512), (1042, 64)]) (zc := hop 0 0 zf) (by kernel_rfl) (by rw [hop_zeros]; kernel_rfl) (fun w => by kernel_rfl) ?_ w
  show Instr.fill _ _ [_, _, _, _, _, _, _] = _
  rw [fill_one (off := 0) rfl (by rw [hop_size]; omega), hop_set0, fill_one (off := 1) rfl (by rw [hop_size]; omega), hop_set1, fill_row (off := 2) (m := 8) rfl (row_size _ _) (by rw [hop_size]; omega),
    show (2 : Nat) = 2 + 0 from rfl, lay_hop _ _ _ _ 0 8 (by omega), fill_row (off := 10) (m := 512) rfl (row_size _ _) (by rw [hop_size]; omega), show (10 : Nat) = 2 + 8 from rfl, lay_hop _ _ _ _ 8 512 (by omega),
    fill_row (off := 522) (m := 8) rfl (row_size _ _) (by rw [hop_size]; omega), show (522 : Nat) = 2 + 520 from rfl, lay_hop _ _ _ _ 520 8 (by omega), fill_row (off := 530) (m := 512) rfl (row_size _ _) (by rw [hop_size]; omega), show (530 : Nat) = 2 + 528 from rfl, lay_hop _ _ _ _ 528 512 (by omega),
    fill_row (off := 1042) (m := 64) rfl (row_size _ _) (by rw [hop_size]; omega), show (1042 : Nat) = 2 + 1040 from rfl, lay_hop _ _ _ _ 1040 64 (by omega)]
  show some _ = some _
  refine congrArg some (hop_congr fun i hi => ?_)
  unfold zf
  rcases jhs i with h | h | h | h | h
  · rw [jh1 h, if_neg (by omega), if_neg (by omega), if_neg (by omega), if_neg (by omega), if_pos (by omega), Nat.sub_zero]
  · rw [jh2 h, if_neg (by omega), if_neg (by omega), if_neg (by omega), if_pos (by omega)]
  · rw [jh3 h, if_neg (by omega), if_neg (by omega), if_pos (by omega)]
  · rw [jh4 h, if_neg (by omega), if_pos (by omega)]
  · rw [jh5 h, if_pos (by omega)]

set_option maxRecDepth 100000 in
@[go_sem] theorem buildH4 (p n : Int) (u c : Nat → Int) (w : World) : buildS Tryz.prog 35 #[(0, .int .i64 p), (1, .int .i64 n), (2, .agg (row 8 u)), (4, .agg (row 8 c))] w = .ok (.value (.agg (hop p n (joinH u zf c zf zf)))) w := by
  refine build_struct (fields := fieldsOf Tryz.prog 35) (places := #[(0, 1), (1, 1), (2, 8), (10, 512), (522, 8), (530, 512), (1042, 64)]) (zc := hop 0 0 zf) (by kernel_rfl) (by rw [hop_zeros]; kernel_rfl) (fun w => by kernel_rfl) ?_ w
  show Instr.fill _ _ [_, _, _, _] = _
  rw [fill_one (off := 0) rfl (by rw [hop_size]; omega), hop_set0, fill_one (off := 1) rfl (by rw [hop_size]; omega), hop_set1, fill_row (off := 2) (m := 8) rfl (row_size _ _) (by rw [hop_size]; omega),
    show (2 : Nat) = 2 + 0 from rfl, lay_hop _ _ _ _ 0 8 (by omega), fill_row (off := 522) (m := 8) rfl (row_size _ _) (by rw [hop_size]; omega), show (522 : Nat) = 2 + 520 from rfl, lay_hop _ _ _ _ 520 8 (by omega)]
  show some _ = some _
  refine congrArg some (hop_congr fun i hi => ?_)
  unfold zf
  rcases jhs i with h | h | h | h | h
  · rw [jh1 h, if_neg (by omega), if_pos (by omega), Nat.sub_zero]
  · rw [jh2 h, if_neg (by omega), if_neg (by omega)]
  · rw [jh3 h, if_pos (by omega)]
  · rw [jh4 h, if_neg (by omega), if_neg (by omega)]
  · rw [jh5 h, if_neg (by omega), if_neg (by omega)]

/-! ### the dual -/
def duF (f : Nat → Int) : Nat → Int := joinH (coF f) (backF (tab (coF f))) f (turnF (tab f)) (flipF (anF f))
/-- the parts of the dual while they are written: up to i, j, k -/
def duM (n : Nat) (f : Nat → Int) (i j k : Nat) : Nat → Int := fun t => if (t / 64 < n ∧ t / 8 % 8 < n) ∧ (t % 8 < i ∨ (t % 8 = i ∧ (t / 64 < j ∨ (t / 64 = j ∧ t / 8 % 8 < k)))) then backF (tab (coF f)) t else 0
def duD (n : Nat) (f : Nat → Int) (i j k : Nat) : Nat → Int := fun t => if (t / 8 % 8 < n ∧ t % 8 < n) ∧ (t / 64 < i ∨ (t / 64 = i ∧ (t / 8 % 8 < j ∨ (t / 8 % 8 = j ∧ t % 8 < k)))) then turnF (tab f) t else 0
def duS (n : Nat) (f : Nat → Int) (i q : Nat) : Nat → Int := fun t => if t % 8 < n ∧ (t / 8 < i ∨ (t / 8 = i ∧ t % 8 < q)) then flipF (anF f) t else 0
def duK (n : Nat) (f : Nat → Int) (i j k q : Nat) : Nat → Int := joinH (coF f) (duM n f i j k) f (duD n f i j k) (duS n f i q)
theorem du_start (p n : Int) (N : Nat) (f : Nat → Int) : hop p n (joinH (coF f) zf f zf zf) = hop p n (duK N f 0 0 0 0) := joinH_congr (fun _ _ => rfl) (fun t _ => by unfold duM zf; rw [if_neg (by omega)]) (fun _ _ => rfl) (fun t _ => by unfold duD zf; rw [if_neg (by omega)]) (fun t _ => by unfold duS zf; rw [if_neg (by omega)])
theorem duM_step {n : Nat} {f : Nat → Int} {i j k : Nat} (hi : i < n) (hj : j < n) (hk : k < n) (hn : n ≤ 8) (t : Nat) (ht : t < 512) : upd (duM n f i j k) (j * 64 + (k * 8 + i)) (mtab (coF f) i j k) t = duM n f i j (k + 1) t := by
  unfold upd
  by_cases h : t = j * 64 + (k * 8 + i)
  · subst h
    rw [if_pos rfl]
    unfold duM backF mtab
    rw [if_pos (by omega)]
    congr 1; omega
  · rw [if_neg h]
    unfold duM
    exact ifi (by omega) _
theorem duD_step {n : Nat} {f : Nat → Int} {i j k : Nat} (hi : i < n) (hj : j < n) (hk : k < n) (hn : n ≤ 8) (t : Nat) (ht : t < 512) : upd (duD n f i j k) (i * 64 + (j * 8 + k)) (mtab f j k i) t = duD n f i j (k + 1) t := by
  unfold upd
  by_cases h : t = i * 64 + (j * 8 + k)
  · subst h
    rw [if_pos rfl]
    unfold duD turnF mtab
    rw [if_pos (by omega)]
    congr 1; omega
  · rw [if_neg h]
    unfold duD
    exact ifi (by omega) _
theorem duS_step {n : Nat} {f : Nat → Int} {i j : Nat} (hi : i < n) (hj : j < n) (hn : n ≤ 8) (t : Nat) (ht : t < 64) : upd (duS n f i j) (i * 8 + j) (anF f (j * 8 + i)) t = duS n f i (j + 1) t := by
  unfold upd
  by_cases h : t = i * 8 + j
  · subst h
    rw [if_pos rfl]
    unfold duS flipF
    rw [if_pos (by omega)]
    congr 1; omega
  · rw [if_neg h]
    unfold duS
    exact ifi (by omega) _
theorem du_in {p m : Int} {n : Nat} {f : Nat → Int} {i j k q : Nat} (hi : i < n) (hj : j < n) (hk : k < n) (hn : n ≤ 8) : hop p m (joinH (coF f) (upd (duM n f i j k) (j * 64 + (k * 8 + i)) (mtab (coF f) i j k)) f (upd (duD n f i j k) (i * 64 + (j * 8 + k)) (mtab f j k i)) (duS n f i q)) = hop p m (duK n f i j (k + 1) q) :=
  joinH_congr (fun _ _ => rfl) (fun t ht => duM_step hi hj hk hn t ht) (fun _ _ => rfl) (fun t ht => duD_step hi hj hk hn t ht) (fun _ _ => rfl)
theorem du_anti {p m : Int} {n : Nat} {f : Nat → Int} {i j : Nat} (hi : i < n) (hj : j < n) (hn : n ≤ 8) : hop p m (joinH (coF f) (duM n f i j 0) f (duD n f i j 0) (upd (duS n f i j) (i * 8 + j) (anF f (j * 8 + i)))) = hop p m (duK n f i j 0 (j + 1)) :=
  joinH_congr (fun _ _ => rfl) (fun _ _ => rfl) (fun _ _ => rfl) (fun _ _ => rfl) (fun t ht => duS_step hi hj hn t ht)
theorem du_row {p m : Int} {n : Nat} {f : Nat → Int} {i j : Nat} : hop p m (duK n f i j n (j + 1)) = hop p m (duK n f i (j + 1) 0 (j + 1)) :=
  joinH_congr (fun _ _ => rfl) (fun t ht => by
    unfold duM
    exact ifi (by omega) _) (fun _ _ => rfl) (fun t ht => by
    unfold duD
    exact ifi (by omega) _) (fun _ _ => rfl)
theorem du_col {p m : Int} {n : Nat} {f : Nat → Int} {i : Nat} : hop p m (duK n f i n 0 n) = hop p m (duK n f (i + 1) 0 0 0) :=
  joinH_congr (fun _ _ => rfl) (fun t ht => by
    unfold duM
    exact ifi (by omega) _) (fun _ _ => rfl) (fun t ht => by
    unfold duD
    exact ifi (by omega) _) (fun t ht => by
    unfold duS
    exact ifi (by omega) _)
theorem lin_out {p : Int} {n : Nat} {F : Nat → Int} (h : linB p n F = true) (i j : Nat) (hi : i < 8) (hj : j < 8) : (i < n ∧ j < n) ∨ F (i * 8 + j) = 0 := by
  unfold linB at h
  rw [List.all_eq_true] at h
  have h := h i (by simpa using hi)
  unfold entL at h
  simp only [Bool.and_eq_true, Bool.or_eq_true, decide_eq_true_eq] at h
  have a := ((vecB_iff p n _).1 h.1 j hj).2
  rcases h.2 with b | b
  · rcases a with a | a
    · exact .inl ⟨by omega, by omega⟩
    · exact .inr a
  · exact .inr (zero_row b j hj)
theorem du_full {p : Int} {n : Nat} {f : Nat → Int} (h : shapeH p n f = true) : hop p n (duK n f n 0 0 0) = hop p n (duF f) := by
  obtain ⟨h1, h2, h3⟩ := shapeH_parts h
  refine joinH_congr (fun _ _ => rfl) (fun t ht => ?_) (fun _ _ => rfl) (fun t ht => ?_) (fun t ht => ?_)
  · unfold duM
    split
    · rfl
    · have := (shape_entry h2 (t % 8) (t / 64) (t / 8 % 8) (by omega) (by omega) (by omega)).2
      have e : backF (tab (coF f)) t = mtab (coF f) (t % 8) (t / 64) (t / 8 % 8) := by unfold backF mtab; congr 1; omega
      rw [e]; omega
  · unfold duD
    split
    · rfl
    · have := (shape_entry h1 (t / 8 % 8) (t % 8) (t / 64) (by omega) (by omega) (by omega)).2
      have e : turnF (tab f) t = mtab f (t / 8 % 8) (t % 8) (t / 64) := by unfold turnF mtab; congr 1; omega
      rw [e]; omega
  · unfold duS
    split
    · rfl
    · have := lin_out h3 (t % 8) (t / 8) (by omega) (by omega)
      have e : flipF (anF f) t = anF f (t % 8 * 8 + t / 8) := rfl
      rw [e]; omega

set_option maxRecDepth 100000 in
set_option maxHeartbeats 1000000 in
theorem hdCo_any (p n : Int) (f : Nat → Int) (w : World)  :
    Calls Tryz.prog 115 #[.agg (alg p n f)] w fun e w' => e = .returned (.agg (alg p n (joinUT f (turnF (tab f))))) ∧ Below w.heap.size w w' := by
 go_enter Tryz.func115, Tryz.ntmps115
 go_wp2
 refine atomW fun W1 e1 => ?_
 have hb1 : Below w.heap.size w W1 := by rw [e1]; exact bt
 have q1 := hb1.size
 have R1 : IsRow W1 (w.heap.size) ∧ IsRow W1 (w.heap.size + 1) := by rw [e1]; simp [go_sem]
 obtain ⟨r1_1, r2_1⟩ := R1
 have C1 := (⟨congrArg (blk · (w.heap.size)) e1, congrArg (blk · (w.heap.size + 1)) e1⟩ : _ ∧ _); simp [go_sem] at C1
 obtain ⟨c1_1, c2_1⟩ := C1
 have z1_1 := isRow_lt r1_1; have z2_1 := isRow_lt r2_1
 clear e1
 refine wp_quiet_tail 10 (Below W1.heap.size W1) (by kernel_rfl) (by kernel_rfl) (Below.refl _ _).drew ?_
 simp only [List.take_succ_cons, List.take_zero, List.drop_succ_cons, List.drop_zero]
 iterate 8 (refine q_plain rfl ?_; apply Exists.intro; refine ⟨fun W hW => ?_, ?_⟩; (focus (obtain ⟨x1, y1⟩ := keepB hW z1_1 r1_1 c1_1; obtain ⟨x2, y2⟩ := keepB hW z2_1 r2_1 c2_1; go_simp; first | done | rfl)); simp only [Act.put, List.setIfInBounds_toArray, List.set_cons_zero, List.set_cons_succ])
 (refine q_plain rfl ?_; apply Exists.intro; refine ⟨fun W hW => ?_, ?_⟩; (focus (obtain ⟨x1, y1⟩ := keepB hW z1_1 r1_1 c1_1; obtain ⟨x2, y2⟩ := keepB hW z2_1 r2_1 c2_1; go_simp; (go_at_call 143; exact (turnTable_any _ _).mono fun e w2 ⟨he, hw2⟩ => ⟨he, hW.trans (hw2.mono hW.size)⟩))); simp only [Act.put, List.setIfInBounds_toArray, List.set_cons_zero, List.set_cons_succ])
 iterate 1 (refine q_plain rfl ?_; apply Exists.intro; refine ⟨fun W hW => ?_, ?_⟩; (focus (obtain ⟨x1, y1⟩ := keepB hW z1_1 r1_1 c1_1; obtain ⟨x2, y2⟩ := keepB hW z2_1 r2_1 c2_1; go_simp; first | done | rfl)); simp only [Act.put, List.setIfInBounds_toArray, List.set_cons_zero, List.set_cons_succ])
 refine wpQuiet_nil ?_
 intro W2 hw2
 obtain ⟨r1_2, c1_2, z1_2⟩ := keepZ hw2 z1_1 r1_1 c1_1
 obtain ⟨r2_2, c2_2, z2_2⟩ := keepZ hw2 z2_1 r2_1 c2_1
 obtain ⟨hb2, q2⟩ := bN hb1 hw2
 clear hw2 r1_1 c1_1 z1_1 r2_1 c2_1 z2_1 hb1
 go_wp2_with fail
 refine bodyPost_ret (result_cell rfl aggCoa _ _ (alg p n (joinUT f (turnF (tab f)))) _ rfl ?_ ?_) rfl ⟨rfl, ?_⟩
 · simp [go_sem, r1_2, c1_2, r2_2, c2_2]
 · simp [go_sem, r1_2, c1_2, r2_2, c2_2]
 · exact bt

set_option maxRecDepth 100000 in
set_option maxHeartbeats 1000000 in
theorem hdAl_any (p n : Int) (f : Nat → Int) (w : World)  :
    Calls Tryz.prog 113 #[.agg (alg p n f)] w fun e w' => e = .returned (.agg (alg p n (joinUT f (backF (tab f))))) ∧ Below w.heap.size w w' := by
 have HR := Lib.hid (join_congr (p := p) (n := n) (u := f) (turn_turn (tab f)))
 go_enter Tryz.func113, Tryz.ntmps113
 go_wp2_with fail
 refine atomC fun W1 e1 => ?_
 have hb1 : Below w.heap.size w W1 := by rw [e1]; exact bt
 have q1 := hb1.size
 have R1 : IsRow W1 (w.heap.size) ∧ IsRow W1 (w.heap.size + 1) := by rw [e1]; simp [go_sem]
 obtain ⟨r1_1, r2_1⟩ := R1
 have C1 := (⟨congrArg (blk · (w.heap.size)) e1, congrArg (blk · (w.heap.size + 1)) e1⟩ : _ ∧ _); simp [go_sem] at C1
 obtain ⟨c1_1, c2_1⟩ := C1
 have z1_1 := isRow_lt r1_1; have z2_1 := isRow_lt r2_1
 clear e1
 refine (turnTable_any _ _).mono ?_; rintro _ W2 ⟨rfl, hw2⟩
 obtain ⟨r1_2, c1_2, z1_2⟩ := keepZ hw2 z1_1 r1_1 c1_1
 obtain ⟨r2_2, c2_2, z2_2⟩ := keepZ hw2 z2_1 r2_1 c2_1
 obtain ⟨hb2, q2⟩ := bN hb1 hw2
 clear hw2 r1_1 c1_1 z1_1 r2_1 c2_1 z2_1 hb1
 go_wp2_with fail
 refine (turnTable_any _ _).mono ?_; rintro _ W3 ⟨rfl, hw3⟩
 obtain ⟨r1_3, c1_3, z1_3⟩ := keepZ hw3 z1_2 r1_2 c1_2
 obtain ⟨r2_3, c2_3, z2_3⟩ := keepZ hw3 z2_2 r2_2 c2_2
 obtain ⟨hb3, q3⟩ := bN hb2 hw3
 clear hw3 r1_2 c1_2 z1_2 r2_2 c2_2 z2_2 hb2
 have nw1_W3_0 : (w.heap.size) ≠ W3.heap.size := by omega
 have nw2_W3_0 : (w.heap.size + 1) ≠ W3.heap.size := by omega
 go_wp2_with fail
 refine bodyPost_ret (result_cell rfl aggAlg _ _ (alg p n (joinUT f (turnF (turnF (tab f))))) _ rfl ?_ ?_) rfl ⟨by rw [HR.out], ?_⟩
 · simp [go_sem, r1_3, c1_3, r2_3, c2_3, nw1_W3_0, nw2_W3_0]
 · simp [go_sem, r1_3, c1_3, r2_3, c2_3, nw1_W3_0, nw2_W3_0]
 · exact bt

set_option maxRecDepth 100000 in
set_option maxHeartbeats 1000000 in
theorem joinHopf_any (p n q m : Int) (f g s : Nat → Int) (w : World)  :
    Calls Tryz.prog 116 #[.agg (alg p n f), .agg (alg q m g), .agg (row 64 s)] w fun e w' => e = .returned (.agg (hop p n (joinH f (tab f) g (tab g) s))) ∧ Below w.heap.size w w' := by
 go_enter Tryz.func116, Tryz.ntmps116
 go_wp2_with fail
 refine bodyPost_ret (result_cell rfl aggHop _ _ (hop p n (joinH f (tab f) g (tab g) s)) _ rfl ?_ ?_) rfl ⟨rfl, ?_⟩
 · simp [go_sem]
 · simp [go_sem]
 · exact bt

theorem du_join (p n : Int) (f : Nat → Int) : hop p n (joinH (joinUT (coF f) (backF (tab (coF f)))) (tab (joinUT (coF f) (backF (tab (coF f))))) (joinUT f (turnF (tab f))) (tab (joinUT f (turnF (tab f)))) (flipF (anF f))) = hop p n (duF f) := by
  refine joinH_congr (fun t ht => ?_) (fun t ht => ?_) (fun t ht => ?_) (fun t ht => ?_) (fun _ _ => rfl)
  · unfold joinUT; rw [if_pos ht]
  · unfold tab joinUT; rw [if_neg (by omega), Nat.add_sub_cancel_left]
  · unfold joinUT; rw [if_pos ht]
  · unfold tab joinUT; rw [if_neg (by omega), Nat.add_sub_cancel_left]

set_option maxRecDepth 100000 in
set_option maxHeartbeats 1000000 in
theorem dualHopf_any (p n : Int) (f : Nat → Int) (w : World) (hF : Bytes 1104 f) :
    Calls Tryz.prog 87 #[.agg (hop p n f)] w fun e w' => e = .returned (.agg (hop p n (duF f))) ∧ Below w.heap.size w w' := by
 have HF := Lib.hid hF; clear hF
 have HJ := Lib.hid (du_join p n f)
 have HA := Lib.hid (an_bytes HF.out)
 go_enter Tryz.func87, Tryz.ntmps87
 go_wp2
 refine atomW fun W1 e1 => ?_
 have hb1 : Below w.heap.size w W1 := by rw [e1]; exact bt
 have q1 := hb1.size
 have R1 : IsRow W1 (w.heap.size) ∧ IsRow W1 (w.heap.size + 1) := by rw [e1]; simp [go_sem]
 obtain ⟨r1_1, r2_1⟩ := R1
 have C1 := (⟨congrArg (blk · (w.heap.size)) e1, congrArg (blk · (w.heap.size + 1)) e1⟩ : _ ∧ _); simp [go_sem] at C1
 obtain ⟨c1_1, c2_1⟩ := C1
 have z1_1 := isRow_lt r1_1; have z2_1 := isRow_lt r2_1
 clear e1
 refine wp_quiet_made2 6 8 _ _ (alg 0 0 zf) (alg 0 0 zf) 76 115 (by kernel_rfl) rfl rfl rfl rfl (by omega) (by kernel_rfl) (fun a W => (xallocAlg _ _ _ _ _ _ _).trans (allocAlg W)) (fun a W => (xallocCoa _ _ _ _ _ _ _).trans (allocCoa W)) ?_
 simp only [List.take_succ_cons, List.take_zero, List.drop_succ_cons, List.drop_zero, List.eraseIdx_cons_succ, List.eraseIdx_cons_zero]
 iterate 1 (refine e_plain rfl ?_; apply Exists.intro; refine ⟨fun D hD hK W hW => ?_, ?_⟩; (focus (obtain ⟨x1, y1⟩ := keepB (hD W hW) z1_1 r1_1 c1_1; obtain ⟨x2, y2⟩ := keepB (hD W hW) z2_1 r2_1 c2_1; unfold Oper.quietAt; go_simp; first | done | rfl)); simp only [Act.put, List.setIfInBounds_toArray, List.set_cons_zero, List.set_cons_succ])
 (refine e_plain rfl ?_; apply Exists.intro; refine ⟨fun D hD hK W hW => ?_, ?_⟩; (focus (obtain ⟨x1, y1⟩ := keepB (hD W hW) z1_1 r1_1 c1_1; obtain ⟨x2, y2⟩ := keepB (hD W hW) z2_1 r2_1 c2_1; unfold Oper.quietAt; go_simp; (go_at_call 114; exact (coalgebraOf_any _ _ _ _).mono fun e w2 ⟨he, hw2⟩ => ⟨he, hK _ _ hW hw2⟩))); simp only [Act.put, List.setIfInBounds_toArray, List.set_cons_zero, List.set_cons_succ])
 (refine e_plain rfl ?_; apply Exists.intro; refine ⟨fun D hD hK W hW => ?_, ?_⟩; (focus (obtain ⟨x1, y1⟩ := keepB (hD W hW) z1_1 r1_1 c1_1; obtain ⟨x2, y2⟩ := keepB (hD W hW) z2_1 r2_1 c2_1; unfold Oper.quietAt; go_simp; (go_at_call 113; exact (hdAl_any _ _ _ _).mono fun e w2 ⟨he, hw2⟩ => ⟨he, hK _ _ hW hw2⟩))); simp only [Act.put, List.setIfInBounds_toArray, List.set_cons_zero, List.set_cons_succ])
 iterate 1 (refine e_plain rfl ?_; apply Exists.intro; refine ⟨fun D hD hK W hW => ?_, ?_⟩; (focus (obtain ⟨x1, y1⟩ := keepB (hD W hW) z1_1 r1_1 c1_1; obtain ⟨x2, y2⟩ := keepB (hD W hW) z2_1 r2_1 c2_1; unfold Oper.quietAt; go_simp; first | done | rfl)); simp only [Act.put, List.setIfInBounds_toArray, List.set_cons_zero, List.set_cons_succ])
 (refine e_plain rfl ?_; apply Exists.intro; refine ⟨fun D hD hK W hW => ?_, ?_⟩; (focus (obtain ⟨x1, y1⟩ := keepB (hD W hW) z1_1 r1_1 c1_1; obtain ⟨x2, y2⟩ := keepB (hD W hW) z2_1 r2_1 c2_1; unfold Oper.quietAt; go_simp; (go_at_call 85; exact (algebraOf_any _ _ _ _).mono fun e w2 ⟨he, hw2⟩ => ⟨he, hK _ _ hW hw2⟩))); simp only [Act.put, List.setIfInBounds_toArray, List.set_cons_zero, List.set_cons_succ])
 (refine e_plain rfl ?_; apply Exists.intro; refine ⟨fun D hD hK W hW => ?_, ?_⟩; (focus (obtain ⟨x1, y1⟩ := keepB (hD W hW) z1_1 r1_1 c1_1; obtain ⟨x2, y2⟩ := keepB (hD W hW) z2_1 r2_1 c2_1; unfold Oper.quietAt; go_simp; (go_at_call 115; exact (hdCo_any _ _ _ _).mono fun e w2 ⟨he, hw2⟩ => ⟨he, hK _ _ hW hw2⟩))); simp only [Act.put, List.setIfInBounds_toArray, List.set_cons_zero, List.set_cons_succ])
 refine e_nil ?_
 intro a2 b2 W2 hw2 mk1_2 mk2_2 hne2
 obtain ⟨hl1_2, m1_2, m2_2⟩ := mk1_2; obtain ⟨hl2_2, m3_2, m4_2⟩ := mk2_2
 have n1_3 : (w.heap.size) ≠ (a2) := by have := z1_1; omega
 have n3_1 : (a2) ≠ (w.heap.size) := by have := z1_1; omega
 have n1_4 : (w.heap.size) ≠ (b2) := by have := z1_1; omega
 have n4_1 : (b2) ≠ (w.heap.size) := by have := z1_1; omega
 have n2_3 : (w.heap.size + 1) ≠ (a2) := by have := z2_1; omega
 have n3_2 : (a2) ≠ (w.heap.size + 1) := by have := z2_1; omega
 have n2_4 : (w.heap.size + 1) ≠ (b2) := by have := z2_1; omega
 have n4_2 : (b2) ≠ (w.heap.size + 1) := by have := z2_1; omega
 obtain ⟨r1_2, c1_2, z1_2⟩ := keepZ hw2 z1_1 r1_1 c1_1
 obtain ⟨r2_2, c2_2, z2_2⟩ := keepZ hw2 z2_1 r2_1 c2_1
 obtain ⟨hb2, q2⟩ := bN hb1 hw2
 clear hw2 r1_1 c1_1 z1_1 r2_1 c2_1 z2_1 hb1
 have n3_4 : (a2) ≠ (b2) := hne2
 have n4_3 : (b2) ≠ (a2) := Ne.symm hne2
 have z3_2 := isRow_lt m1_2
 have z4_2 := isRow_lt m3_2
 simp only [Act.put, List.setIfInBounds_toArray, List.set_cons_zero, List.set_cons_succ]
 go_wp2
 refine atomW fun W3 e3 => ?_
 have hb3 : Below w.heap.size w W3 := by rw [e3]; exact bt
 have q3 := hb3.size
 have R3 : IsRow W3 (w.heap.size) ∧ IsRow W3 (w.heap.size + 1) ∧ IsRow W3 (a2) ∧ IsRow W3 (b2) := by rw [e3]; simp [go_sem, r1_2, c1_2, n1_3, n1_4, r2_2, c2_2, n2_3, n2_4, m1_2, m2_2, n3_1, n3_2, n3_4, m3_2, m4_2, n4_1, n4_2, n4_3]
 obtain ⟨r1_3, r2_3, r3_3, r4_3⟩ := R3
 have C3 := (⟨congrArg (blk · (w.heap.size)) e3, congrArg (blk · (w.heap.size + 1)) e3, congrArg (blk · (a2)) e3, congrArg (blk · (b2)) e3⟩ : _ ∧ _ ∧ _ ∧ _); simp [go_sem, r1_2, c1_2, n1_3, n1_4, r2_2, c2_2, n2_3, n2_4, m1_2, m2_2, n3_1, n3_2, n3_4, m3_2, m4_2, n4_1, n4_2, n4_3] at C3
 obtain ⟨c1_3, c2_3, c3_3, c4_3⟩ := C3
 have z1_3 := isRow_lt r1_3; have z2_3 := isRow_lt r2_3; have z3_3 := isRow_lt r3_3; have z4_3 := isRow_lt r4_3
 clear e3 r1_2 c1_2 z1_2 r2_2 c2_2 z2_2 m1_2 m2_2 z3_2 m3_2 m4_2 z4_2 hb2
 refine wp_quiet_tail 6 (Below W3.heap.size W3) (by kernel_rfl) (by kernel_rfl) (Below.refl _ _).drew ?_
 simp only [List.take_succ_cons, List.take_zero, List.drop_succ_cons, List.drop_zero]
 iterate 4 (refine q_plain rfl ?_; apply Exists.intro; refine ⟨fun W hW => ?_, ?_⟩; (focus (obtain ⟨x1, y1⟩ := keepB hW z1_3 r1_3 c1_3; obtain ⟨x2, y2⟩ := keepB hW z2_3 r2_3 c2_3; obtain ⟨x3, y3⟩ := keepB hW z3_3 r3_3 c3_3; obtain ⟨x4, y4⟩ := keepB hW z4_3 r4_3 c4_3; go_simp; first | done | rfl)); simp only [Act.put, List.setIfInBounds_toArray, List.set_cons_zero, List.set_cons_succ])
 (refine q_plain rfl ?_; apply Exists.intro; refine ⟨fun W hW => ?_, ?_⟩; (focus (obtain ⟨x1, y1⟩ := keepB hW z1_3 r1_3 c1_3; obtain ⟨x2, y2⟩ := keepB hW z2_3 r2_3 c2_3; obtain ⟨x3, y3⟩ := keepB hW z3_3 r3_3 c3_3; obtain ⟨x4, y4⟩ := keepB hW z4_3 r4_3 c4_3; go_simp; (go_at_call 117; exact (flipLinear_any _ _ HA.out).mono fun e w2 ⟨he, hw2⟩ => ⟨he, hW.trans (hw2.mono hW.size)⟩))); simp only [Act.put, List.setIfInBounds_toArray, List.set_cons_zero, List.set_cons_succ])
 (refine q_plain rfl ?_; apply Exists.intro; refine ⟨fun W hW => ?_, ?_⟩; (focus (obtain ⟨x1, y1⟩ := keepB hW z1_3 r1_3 c1_3; obtain ⟨x2, y2⟩ := keepB hW z2_3 r2_3 c2_3; obtain ⟨x3, y3⟩ := keepB hW z3_3 r3_3 c3_3; obtain ⟨x4, y4⟩ := keepB hW z4_3 r4_3 c4_3; go_simp; (go_at_call 116; exact (joinHopf_any _ _ _ _ _ _ _ _).mono fun e w2 ⟨he, hw2⟩ => ⟨he, hW.trans (hw2.mono hW.size)⟩))); simp only [Act.put, List.setIfInBounds_toArray, List.set_cons_zero, List.set_cons_succ])
 refine wpQuiet_nil ?_
 intro W4 hw4
 obtain ⟨r1_4, c1_4, z1_4⟩ := keepZ hw4 z1_3 r1_3 c1_3
 obtain ⟨r2_4, c2_4, z2_4⟩ := keepZ hw4 z2_3 r2_3 c2_3
 obtain ⟨r3_4, c3_4, z3_4⟩ := keepZ hw4 z3_3 r3_3 c3_3
 obtain ⟨r4_4, c4_4, z4_4⟩ := keepZ hw4 z4_3 r4_3 c4_3
 obtain ⟨hb4, q4⟩ := bN hb3 hw4
 clear hw4 r1_3 c1_3 z1_3 r2_3 c2_3 z2_3 r3_3 c3_3 z3_3 r4_3 c4_3 z4_3 hb3
 go_wp2_with fail
 refine bodyPost_ret (result_cell rfl aggHop _ _ (hop p n (joinH (joinUT (coF f) (backF (tab (coF f)))) (tab (joinUT (coF f) (backF (tab (coF f))))) (joinUT f (turnF (tab f))) (tab (joinUT f (turnF (tab f)))) (flipF (anF f)))) _ rfl ?_ ?_) rfl ⟨by rw [HJ.out], ?_⟩
 · simp [go_sem, r1_4, c1_4, n1_3, n1_4, r2_4, c2_4, n2_3, n2_4, r3_4, c3_4, n3_1, n3_2, n3_4, r4_4, c4_4, n4_1, n4_2, n4_3]
 · simp [go_sem, r1_4, c1_4, n1_3, n1_4, r2_4, c2_4, n2_3, n2_4, r3_4, c3_4, n3_1, n3_2, n3_4, r4_4, c4_4, n4_1, n4_2, n4_3]
 · exact bt

set_option maxRecDepth 100000 in
set_option maxHeartbeats 600000 in
theorem l03Dual_any (p : Int) (n : Nat) (f : Nat → Int) (w : World) (hn : n ≤ 8) (hF : Bytes 1104 f) (hs : shapeH p n f = true) :
    Calls Tryz.prog 51 #[.agg (hop p n f)] w fun e w' => e = .returned (.agg (hop p n (duF f))) ∧ Below w.heap.size w w' := by
 have HF := Lib.hid hF; clear hF
 have Hs := Lib.hid hs; clear hs
 go_enter Tryz.func51, Tryz.ntmps51
 go_wp2
 refine atomW fun W1 e1 => ?_
 have hb1 : Below w.heap.size w W1 := by rw [e1]; exact bt
 have q1 := hb1.size
 have R1 : IsRow W1 (w.heap.size) ∧ IsRow W1 (w.heap.size + 1) ∧ IsRow W1 (w.heap.size + 2) := by rw [e1]; simp [go_sem]
 obtain ⟨r1_1, r2_1, r4_1⟩ := R1
 have C1 := (⟨congrArg (blk · (w.heap.size)) e1, congrArg (blk · (w.heap.size + 1)) e1, congrArg (blk · (w.heap.size + 2)) e1⟩ : _ ∧ _ ∧ _); simp [go_sem] at C1
 obtain ⟨c1_1, c2_1, c4_1⟩ := C1
 have z1_1 := isRow_lt r1_1; have z2_1 := isRow_lt r2_1; have z4_1 := isRow_lt r4_1
 clear e1
 go_loopw [5] (fun s5 wr => ∃ i : Nat, i ≤ n ∧ s5 = .int .i64 i ∧ Below w.heap.size w wr ∧ (IsRow wr (w.heap.size) ∧ blk wr (w.heap.size) = blk W1 (w.heap.size)) ∧ (IsRow wr (w.heap.size + 1) ∧ blk wr (w.heap.size + 1) = blk W1 (w.heap.size + 1)) ∧ (IsRow wr (w.heap.size + 2) ∧ blk wr (w.heap.size + 2) = hop p n (duK n f i 0 0 0))) (fun s5 _ => n - (intOf s5).toNat)
 case atStart => exact ⟨0, by omega, rfl, hb1, ⟨r1_1, rfl⟩, ⟨r2_1, rfl⟩, ⟨r4_1, c4_1.trans (du_start p n n f)⟩⟩
 case round =>
  obtain ⟨i, hle2, rfl, hb2, ⟨r1_2, c1_2⟩, ⟨r2_2, c2_2⟩, ⟨r4_2, c4_2⟩⟩ := hrel
  obtain ⟨W2, rfl⟩ : ∃ W2 : World, W2 = wr := ⟨_, rfl⟩
  have q2 := hb2.size
  have E1_2 := Lib.hid c1_1; replace c1_2 := c1_2.trans c1_1
  have z1_2 := isRow_lt r1_2
  have E2_2 := Lib.hid c2_1; replace c2_2 := c2_2.trans c2_1
  have z2_2 := isRow_lt r2_2
  have z4_2 := isRow_lt r4_2
  clear r1_1 c1_1 z1_1 r2_1 c2_1 z2_1 r4_1 c4_1 z4_1 hb1
  by_cases hlt2 : i < n
  ·
   have i0_2 : (0 : Int) ≤ (i : Int) := by omega
   have i8_2 : (i : Int) < 8 := by omega
   have k8_2 : i < 8 := by omega
   have m8_2 : i * 8 + 8 ≤ 64 := by omega
   have m64_2 : i * 64 + 64 ≤ 512 := by omega
   go_wp2
   go_loopw [6] (fun s6 wr => ∃ j : Nat, j ≤ n ∧ s6 = .int .i64 j ∧ Below w.heap.size w wr ∧ (IsRow wr (w.heap.size) ∧ blk wr (w.heap.size) = blk W2 (w.heap.size)) ∧ (IsRow wr (w.heap.size + 1) ∧ blk wr (w.heap.size + 1) = blk W2 (w.heap.size + 1)) ∧ (IsRow wr (w.heap.size + 2) ∧ blk wr (w.heap.size + 2) = hop p n (duK n f i j 0 j))) (fun s6 _ => n - (intOf s6).toNat)
   case atStart => exact ⟨0, by omega, rfl, hb2, ⟨r1_2, rfl⟩, ⟨r2_2, rfl⟩, ⟨r4_2, c4_2⟩⟩
   case round =>
    obtain ⟨j, hle3, rfl, hb3, ⟨r1_3, c1_3⟩, ⟨r2_3, c2_3⟩, ⟨r4_3, c4_3⟩⟩ := hrel
    obtain ⟨W3, rfl⟩ : ∃ W3 : World, W3 = wr := ⟨_, rfl⟩
    have q3 := hb3.size
    have E1_3 := Lib.hid c1_2; replace c1_3 := c1_3.trans c1_2
    have z1_3 := isRow_lt r1_3
    have E2_3 := Lib.hid c2_2; replace c2_3 := c2_3.trans c2_2
    have z2_3 := isRow_lt r2_3
    have z4_3 := isRow_lt r4_3
    clear r1_2 c1_2 z1_2 r2_2 c2_2 z2_2 r4_2 c4_2 z4_2 hb2
    by_cases hlt3 : j < n
    ·
     have i0_3 : (0 : Int) ≤ (j : Int) := by omega
     have i8_3 : (j : Int) < 8 := by omega
     have k8_3 : j < 8 := by omega
     have m8_3 : j * 8 + 8 ≤ 64 := by omega
     have m64_3 : j * 64 + 64 ≤ 512 := by omega
     have a1 := hop_aq p n f j i (by omega) (by omega)
     have a2 := fun h => hop_ae p n f j i (by omega) (by omega) h
     have a3 := fun u m c d s x => set_s p n u m c d s (i := i) (j := j) (by omega) (by omega) x
     have b1 : 1042 + i * 8 + 8 ≤ 1106 := by omega
     have b2 : 1042 + j * 8 + 8 ≤ 1106 := by omega
     have b3 : 1042 + i * 8 + j < 1106 := by omega
     have b4 : 1042 + j * 8 + i < 1106 := by omega
     have b5 : 1042 + i * 8 + j + 1 ≤ 1106 := by omega
     have b6 : 1042 + j * 8 + i + 1 ≤ 1106 := by omega
     unfold duK at c4_3
     go_wp2
     refine wp_quiet_tail 11 (Below W3.heap.size W3) (by kernel_rfl) (by kernel_rfl) (Below.refl _ _).drew ?_
     simp only [List.take_succ_cons, List.take_zero, List.drop_succ_cons, List.drop_zero]
     iterate 11 (refine q_plain rfl ?_; apply Exists.intro; refine ⟨fun W hW => ?_, ?_⟩; (focus (obtain ⟨x1, y1⟩ := keepB hW z1_3 r1_3 c1_3; obtain ⟨x2, y2⟩ := keepB hW z2_3 r2_3 c2_3; obtain ⟨x4, y4⟩ := keepB hW z4_3 r4_3 c4_3; go_simp; first | done | rfl)); simp only [Act.put, List.setIfInBounds_toArray, List.set_cons_zero, List.set_cons_succ])
     refine wpQuiet_nil ?_
     intro W4 hw4
     obtain ⟨r1_4, c1_4, z1_4⟩ := keepZ hw4 z1_3 r1_3 c1_3
     obtain ⟨r2_4, c2_4, z2_4⟩ := keepZ hw4 z2_3 r2_3 c2_3
     obtain ⟨r4_4, c4_4, z4_4⟩ := keepZ hw4 z4_3 r4_3 c4_3
     obtain ⟨hb4, q4⟩ := bN hb3 hw4
     clear hw4 r1_3 c1_3 z1_3 r2_3 c2_3 z2_3 r4_3 c4_3 z4_3 hb3
     go_wp2
     refine atomW fun W5 e5 => ?_
     have hb5 : Below w.heap.size w W5 := by rw [e5]; exact bt
     have q5 := hb5.size
     have R5 : IsRow W5 (w.heap.size) ∧ IsRow W5 (w.heap.size + 1) ∧ IsRow W5 (w.heap.size + 2) := by rw [e5]; simp [go_sem, r1_4, c1_4, r2_4, c2_4, r4_4, c4_4]
     obtain ⟨r1_5, r2_5, r4_5⟩ := R5
     have C5 := (⟨congrArg (blk · (w.heap.size)) e5, congrArg (blk · (w.heap.size + 1)) e5, congrArg (blk · (w.heap.size + 2)) e5⟩ : _ ∧ _ ∧ _); simp [go_sem, r1_4, c1_4, r2_4, c2_4, r4_4, c4_4] at C5
     obtain ⟨c1_5, c2_5, c4_5⟩ := C5
     have z1_5 := isRow_lt r1_5; have z2_5 := isRow_lt r2_5; have z4_5 := isRow_lt r4_5
     clear e5 r1_4 c1_4 z1_4 r2_4 c2_4 z2_4 r4_4 c4_4 z4_4 hb4
     go_loopw [7] (fun s7 wr => ∃ k : Nat, k ≤ n ∧ s7 = .int .i64 k ∧ Below w.heap.size w wr ∧ (IsRow wr (w.heap.size) ∧ blk wr (w.heap.size) = blk W5 (w.heap.size)) ∧ (IsRow wr (w.heap.size + 1) ∧ blk wr (w.heap.size + 1) = blk W5 (w.heap.size + 1)) ∧ (IsRow wr (w.heap.size + 2) ∧ blk wr (w.heap.size + 2) = hop p n (duK n f i j k (j + 1)))) (fun s7 _ => n - (intOf s7).toNat)
     case atStart => exact ⟨0, by omega, rfl, hb5, ⟨r1_5, rfl⟩, ⟨r2_5, rfl⟩, ⟨r4_5, c4_5.trans (du_anti (by omega) (by omega) hn)⟩⟩
     case round =>
      obtain ⟨k, hle6, rfl, hb6, ⟨r1_6, c1_6⟩, ⟨r2_6, c2_6⟩, ⟨r4_6, c4_6⟩⟩ := hrel
      obtain ⟨W6, rfl⟩ : ∃ W6 : World, W6 = wr := ⟨_, rfl⟩
      have q6 := hb6.size
      have E1_6 := Lib.hid c1_5; replace c1_6 := c1_6.trans c1_5
      have z1_6 := isRow_lt r1_6
      have E2_6 := Lib.hid c2_5; replace c2_6 := c2_6.trans c2_5
      have z2_6 := isRow_lt r2_6
      have z4_6 := isRow_lt r4_6
      clear r1_5 c1_5 z1_5 r2_5 c2_5 z2_5 r4_5 c4_5 z4_5 hb5
      by_cases hlt6 : k < n
      ·
       have i0_6 : (0 : Int) ≤ (k : Int) := by omega
       have i8_6 : (k : Int) < 8 := by omega
       have k8_6 : k < 8 := by omega
       have m8_6 : k * 8 + 8 ≤ 64 := by omega
       have m64_6 : k * 64 + 64 ≤ 512 := by omega
       have a1 := hop_comq p n f i j k (by omega) (by omega) (by omega)
       have a2 := fun h => hop_come p n f i j k (by omega) (by omega) (by omega) h
       have a3 := fun u m c d s x => set_m p n u m c d s (i := j) (j := k) (k := i) (by omega) (by omega) (by omega) x
       have a4 := hop_mq p n f j k i (by omega) (by omega) (by omega)
       have a5 := fun h => hop_me p n f j k i (by omega) (by omega) (by omega) h
       have a6 := fun u m c d s x => set_d p n u m c d s (i := i) (j := j) (k := k) (by omega) (by omega) (by omega) x
       have b0 : 10 + j * 64 + 64 ≤ 1106 := by omega
       have b1 : 10 + j * 64 + k * 8 + 8 ≤ 1106 := by omega
       have b2 : 10 + j * 64 + k * 8 + i < 1106 := by omega
       have b3 : 10 + j * 64 + k * 8 + i + 1 ≤ 1106 := by omega
       have b4 : 530 + i * 64 + 64 ≤ 1106 := by omega
       have b5 : 530 + i * 64 + j * 8 + 8 ≤ 1106 := by omega
       have b6 : 530 + i * 64 + j * 8 + k < 1106 := by omega
       have b7 : 530 + i * 64 + j * 8 + k + 1 ≤ 1106 := by omega
       unfold duK at c4_6
       go_wp2
       refine wp_quiet_tail 15 (Below W6.heap.size W6) (by kernel_rfl) (by kernel_rfl) (Below.refl _ _).drew ?_
       simp only [List.take_succ_cons, List.take_zero, List.drop_succ_cons, List.drop_zero]
       iterate 15 (refine q_plain rfl ?_; apply Exists.intro; refine ⟨fun W hW => ?_, ?_⟩; (focus (obtain ⟨x1, y1⟩ := keepB hW z1_6 r1_6 c1_6; obtain ⟨x2, y2⟩ := keepB hW z2_6 r2_6 c2_6; obtain ⟨x4, y4⟩ := keepB hW z4_6 r4_6 c4_6; go_simp; first | done | rfl)); simp only [Act.put, List.setIfInBounds_toArray, List.set_cons_zero, List.set_cons_succ])
       refine wpQuiet_nil ?_
       intro W7 hw7
       obtain ⟨r1_7, c1_7, z1_7⟩ := keepZ hw7 z1_6 r1_6 c1_6
       obtain ⟨r2_7, c2_7, z2_7⟩ := keepZ hw7 z2_6 r2_6 c2_6
       obtain ⟨r4_7, c4_7, z4_7⟩ := keepZ hw7 z4_6 r4_6 c4_6
       obtain ⟨hb7, q7⟩ := bN hb6 hw7
       clear hw7 r1_6 c1_6 z1_6 r2_6 c2_6 z2_6 r4_6 c4_6 z4_6 hb6
       go_wp2
       refine atomW fun W8 e8 => ?_
       have hb8 : Below w.heap.size w W8 := by rw [e8]; exact bt
       have q8 := hb8.size
       have R8 : IsRow W8 (w.heap.size) ∧ IsRow W8 (w.heap.size + 1) ∧ IsRow W8 (w.heap.size + 2) := by rw [e8]; simp [go_sem, r1_7, c1_7, r2_7, c2_7, r4_7, c4_7]
       obtain ⟨r1_8, r2_8, r4_8⟩ := R8
       have C8 := (⟨congrArg (blk · (w.heap.size)) e8, congrArg (blk · (w.heap.size + 1)) e8, congrArg (blk · (w.heap.size + 2)) e8⟩ : _ ∧ _ ∧ _); simp [go_sem, r1_7, c1_7, r2_7, c2_7, r4_7, c4_7] at C8
       obtain ⟨c1_8, c2_8, c4_8⟩ := C8
       have z1_8 := isRow_lt r1_8; have z2_8 := isRow_lt r2_8; have z4_8 := isRow_lt r4_8
       clear e8 r1_7 c1_7 z1_7 r2_7 c2_7 z2_7 r4_7 c4_7 z4_7 hb7
       refine wp_quiet_tail 15 (Below W8.heap.size W8) (by kernel_rfl) (by kernel_rfl) (Below.refl _ _).drew ?_
       simp only [List.take_succ_cons, List.take_zero, List.drop_succ_cons, List.drop_zero]
       iterate 15 (refine q_plain rfl ?_; apply Exists.intro; refine ⟨fun W hW => ?_, ?_⟩; (focus (obtain ⟨x1, y1⟩ := keepB hW z1_8 r1_8 c1_8; obtain ⟨x2, y2⟩ := keepB hW z2_8 r2_8 c2_8; obtain ⟨x4, y4⟩ := keepB hW z4_8 r4_8 c4_8; go_simp; first | done | rfl)); simp only [Act.put, List.setIfInBounds_toArray, List.set_cons_zero, List.set_cons_succ])
       refine wpQuiet_nil ?_
       intro W9 hw9
       obtain ⟨r1_9, c1_9, z1_9⟩ := keepZ hw9 z1_8 r1_8 c1_8
       obtain ⟨r2_9, c2_9, z2_9⟩ := keepZ hw9 z2_8 r2_8 c2_8
       obtain ⟨r4_9, c4_9, z4_9⟩ := keepZ hw9 z4_8 r4_8 c4_8
       obtain ⟨hb9, q9⟩ := bN hb8 hw9
       clear hw9 r1_8 c1_8 z1_8 r2_8 c2_8 z2_8 r4_8 c4_8 z4_8 hb8
       go_wp2
       go_roundw
       case rel => exact ⟨k + 1, by omega, by go_num, bt, ⟨by simp [go_sem, r1_9, c1_9, r2_9, c2_9, r4_9, c4_9], (by rw [E1_6.out]; first | exact c1_9 | (simp [go_sem, r1_9, c1_9, r2_9, c2_9, r4_9, c4_9]; done))⟩, ⟨by simp [go_sem, r1_9, c1_9, r2_9, c2_9, r4_9, c4_9], (by rw [E2_6.out]; first | exact c2_9 | (simp [go_sem, r1_9, c1_9, r2_9, c2_9, r4_9, c4_9]; done))⟩, ⟨by simp [go_sem, r1_9, c1_9, r2_9, c2_9, r4_9, c4_9], (by first | (rw [blk_setRow _ _ _ _ r4_9, if_pos rfl]; exact du_in (by omega) (by omega) (by omega) hn) | exact (c4_9).trans (du_in (by omega) (by omega) (by omega) hn) | (simp [go_sem, r1_9, c1_9, r2_9, c2_9, r4_9, c4_9]; exact du_in (by omega) (by omega) (by omega) hn))⟩⟩
       case measure => simp [intOf]; try omega
      ·
       obtain rfl : n = k := by omega
       go_wp2
       go_roundw
       case rel => exact ⟨j + 1, by omega, by go_num, bt, ⟨by simp [go_sem, r1_6, c1_6, r2_6, c2_6, r4_6, c4_6], (by rw [E1_3.out]; first | exact c1_6 | (simp [go_sem, r1_6, c1_6, r2_6, c2_6, r4_6, c4_6]; done))⟩, ⟨by simp [go_sem, r1_6, c1_6, r2_6, c2_6, r4_6, c4_6], (by rw [E2_3.out]; first | exact c2_6 | (simp [go_sem, r1_6, c1_6, r2_6, c2_6, r4_6, c4_6]; done))⟩, ⟨by simp [go_sem, r1_6, c1_6, r2_6, c2_6, r4_6, c4_6], (by first | exact (c4_6).trans (du_row) | (simp [go_sem, r1_6, c1_6, r2_6, c2_6, r4_6, c4_6]; exact du_row))⟩⟩
       case measure => simp [intOf]; try omega
    ·
     obtain rfl : n = j := by omega
     go_wp2
     go_roundw
     case rel => exact ⟨i + 1, by omega, by go_num, bt, ⟨by simp [go_sem, r1_3, c1_3, r2_3, c2_3, r4_3, c4_3], (by rw [E1_2.out]; first | exact c1_3 | (simp [go_sem, r1_3, c1_3, r2_3, c2_3, r4_3, c4_3]; done))⟩, ⟨by simp [go_sem, r1_3, c1_3, r2_3, c2_3, r4_3, c4_3], (by rw [E2_2.out]; first | exact c2_3 | (simp [go_sem, r1_3, c1_3, r2_3, c2_3, r4_3, c4_3]; done))⟩, ⟨by simp [go_sem, r1_3, c1_3, r2_3, c2_3, r4_3, c4_3], (by first | exact (c4_3).trans (du_col) | (simp [go_sem, r1_3, c1_3, r2_3, c2_3, r4_3, c4_3]; exact du_col))⟩⟩
     case measure => simp [intOf]; try omega
  ·
   obtain rfl : n = i := by omega
   have HE := Lib.hid (du_full Hs.out)
   go_wp2_with fail
   refine bodyPost_ret (result_cell rfl aggHop _ _ (hop p n (duK n f n 0 0 0)) _ rfl ?_ ?_) rfl ⟨by rw [HE.out], ?_⟩
   · simp [go_sem, r1_2, c1_2, r2_2, c2_2, r4_2, c4_2]
   · simp [go_sem, r1_2, c1_2, r2_2, c2_2, r4_2, c4_2]
   · exact bt

theorem coF_dual (f : Nat → Int) {i : Nat} (hi : i < 8) : coF (duF f) i = f i := by
  unfold duF
  show joinH _ _ _ _ _ (520 + i) = _
  rw [jh3 (by omega), Nat.add_sub_cancel_left]
theorem mtab_dual (f : Nat → Int) {i j k : Nat} (hi : i < 8) (hj : j < 8) (hk : k < 8) : mtab (duF f) i j k = mtab (coF f) k i j := by
  unfold duF
  show joinH _ _ _ _ _ (8 + (i * 64 + (j * 8 + k))) = _
  rw [jh2 (by omega), Nat.add_sub_cancel_left]
  unfold backF mtab
  congr 1; omega
theorem dual_bytes {f : Nat → Int} (h : Bytes 1104 f) : Bytes 1104 (duF f) := fun t ht => by
  unfold duF
  rcases jhs t with x | x | x | x | x
  · rw [jh1 x]; exact h _ (by omega)
  · rw [jh2 x]; exact h (520 + (8 + ((t - 8) % 8 * 64 + (t - 8) / 64 * 8 + (t - 8) / 8 % 8))) (by omega)
  · rw [jh3 x]; exact h _ (by omega)
  · rw [jh4 x]; exact h (8 + ((t - 528) / 8 % 8 * 64 + (t - 528) % 8 * 8 + (t - 528) / 64)) (by omega)
  · rw [jh5 x]; exact h (1040 + ((t - 1040) % 8 * 8 + (t - 1040) / 8)) (by omega)
theorem dual_intable {p : Int} {n : Nat} {f : Nat → Int} (h : hopfB p n f = true) (hF : Bytes 1104 f) : Intable p n (duF f) := by
  have o := hopf_facts h
  have hpr := hopf_prime h
  have hn := o.hn
  have hz : ∀ i j k, i < n → j < n → n ≤ k → k < 8 → mtab (duF f) i j k = 0 := fun i j k hi hj hk hk8 => by
    rw [mtab_dual f (by omega) (by omega) hk8]
    have := (shape_entry o.shc k i j (by omega) (by omega) (by omega)).2
    omega
  refine ⟨hpr, o.h0, o.hn, dual_bytes hF, fun i hi => by rw [coF_dual f hi]; exact (shape_unit o.sh i hi).1, ?_⟩
  obtain ⟨t, ht, k, hk, hne⟩ := integ_exists (hk_con o).dual o.h0 o.hp (mtab (duF f)) (coF (duF f)) (fun i j k => by rw [mtab_dual f (by omega) (by omega) (by omega)]; rfl) fun i => by rw [coF_dual f (by omega)]; rfl
  obtain ⟨R, g, hT⟩ := lef_tells (f := duF f) hpr o.hn
  exact tel_pos hT (integ_int ht hz) (by omega) hne

end Go.Proofs.YtjpdpnplnelgcaaGreat
