/- From the program's Hopf algebras to those over numbers modulo p: the axioms as equations; integrals exist. -/
import Derived.Test.YtjpdpnplnelgcaaGreatHK
import Derived.Test.YtjpdpnplnelgcaaGreatRB
namespace Go.Proofs.YtjpdpnplnelgcaaGreat
set_option linter.unusedVariables false
set_option linter.unusedSimpArgs false

open ZK
theorem axN_all : ∀ (l : List Bool) (k : Int), 0 < k → axN l k = 0 → ∀ b, b ∈ l → b = true
  | [], _, _, _, b, h => by cases h
  | false :: l, k, hk, h, _, _ => by rw [axN] at h; omega
  | true :: l, k, hk, h, b, hb => by
    rw [axN] at h
    rcases List.mem_cons.1 hb with e | e
    · exact e
    · exact axN_all l (k + 1) (by omega) h b e
theorem sumT {p : Int} (g : Nat → Int) : ∀ n, zp p (sumTo g n) = T n fun i : Fin n => zp p (g i.val)
  | 0 => rfl
  | n + 1 => by rw [sumTo, zp_add, sumT g n]; rfl
theorem zp_mod (p x : Int) : zp p (x % p) = zp p x := zp_eq.2 (Int.emod_emod _ _)
theorem zp_ebas {p : Int} {n : Nat} (i j : Fin n) : zp p (ebas i.val j.val) = del j i := by
  unfold ebas upd zf del
  by_cases h : j = i
  · rw [if_pos h, if_pos (congrArg Fin.val h)]
  · rw [if_neg h, if_neg fun e => h (Fin.ext e)]
theorem zp_mulF {p : Int} {n : Nat} (m : Nat → Nat → Nat → Int) (v w : Nat → Int) (k : Nat) : zp p (mulF p n m v w k) = T n fun i : Fin n => T n fun j : Fin n => zp p (v i.val) * zp p (w j.val) * zp p (m i.val j.val k) := by
  unfold mulF
  rw [zp_mod, sumT]
  exact T_congr fun i => sumT _ _
theorem T_right {p : Int} {n : Nat} (x : Fin n → Zp p) (k : Fin n) (Y : Fin n → Fin n → Zp p) : T n (fun a => T n fun b => x a * del b k * Y a b) = T n fun a => x a * Y a k := T_congr fun a => by
  rw [T_congr fun b => show x a * del b k * Y a b = del b k * (x a * Y a b) by rw [ZK.mul_comm (x a), ZK.mul_assoc], T_del]
theorem T_left {p : Int} {n : Nat} (w : Fin n → Zp p) (i : Fin n) (Y : Fin n → Fin n → Zp p) : T n (fun a => T n fun b => del a i * w b * Y a b) = T n fun b => w b * Y i b := by
  rw [T_congr fun a => show T n (fun b => del a i * w b * Y a b) = del a i * T n fun b => w b * Y a b by rw [← T_mul]; exact T_congr fun b => ZK.mul_assoc _ _ _, T_del]
theorem zp_sum8 {p : Int} {n : Nat} {g : Nat → Int} (hn : n ≤ 8) (h : ∀ i, n ≤ i → i < 8 → g i = 0) : zp p (sumTo g 8) = T n fun i : Fin n => zp p (g i.val) := by rw [sumTo_more h hn, sumT]
/-- the numbers of a Hopf algebra of the program -/
def hk (p : Int) (n : Nat) (f : Nat → Int) : HopfK p n := ⟨fun i j k => zp p (mtab f i.val j.val k.val), fun i => zp p (f i.val), fun i j k => zp p (mtab (coF f) i.val j.val k.val), fun i => zp p (coF f i.val), fun i j => zp p (anF f (i.val * 8 + j.val))⟩
structure HopfFacts (p : Int) (n : Nat) (f : Nat → Int) : Prop where
  alg : algB p n f = true
  co : coB p n (coF f) = true
  a3 : ax3B p n f = true
  a4 : ax4B p f = true
  a5 : ax5B p n f = true
  a6 : ax6B p n f = true
  a7 : ax7B p n f = true
  sh : shapeB p n f = true
  shc : shapeB p n (coF f) = true
  lin : linB p n (anF f) = true
  hn : n ≤ 8
  h0 : 0 < n
  hp : 2 ≤ p
theorem hopf_facts {p : Int} {n : Nat} {f : Nat → Int} (h : hopfB p n f = true) : HopfFacts p n f := by
  have hs := hopf_shape h
  obtain ⟨h1, h2, h3⟩ := shapeH_parts hs
  obtain ⟨a1, a2, a3, a4⟩ := sizes_range (shape_parts h1).1
  unfold hopfB at h
  rw [hs, Bool.true_and, beq_iff_eq] at h
  have h4 := axN_all _ 1 (by omega) h
  exact ⟨h4 _ (by unfold axL; simp), h4 _ (by unfold axL; simp), h4 _ (by unfold axL; simp), h4 _ (by unfold axL; simp), h4 _ (by unfold axL; simp), h4 _ (by unfold axL; simp), h4 _ (by unfold axL; simp), h1, h2, h3, by omega, by omega, a1⟩
theorem seg_get {m : Nat} {f g : Nat → Int} (h : segEq 0 m f g = true) (i : Nat) (hi : i < m) : f i = g i := by
  have := (segEq_iff 0 m f g).1 h i hi
  rwa [Nat.zero_add] at this
theorem hk_con {p : Int} {n : Nat} {f : Nat → Int} (o : HopfFacts p n f) : (hk p n f).Con := by
  have hn := o.hn
  have ha := o.alg
  unfold algB at ha
  simp only [Bool.and_eq_true, Int.toNat_natCast] at ha
  have hc := o.co
  unfold coB at hc
  simp only [Bool.and_eq_true, Int.toNat_natCast] at hc
  have lt8 : ∀ i : Fin n, i.val < 8 := fun i => by have := i.isLt; omega
  have zc : ∀ i j k, i < 8 → j < 8 → k < 8 → (n ≤ i ∨ n ≤ j ∨ n ≤ k) → mtab (coF f) i j k = 0 := fun i j k hi hj hk hh => by
    have := (shape_entry o.shc i j k hi hj hk).2
    omega
  have zm : ∀ i j k, i < 8 → j < 8 → k < 8 → (n ≤ i ∨ n ≤ j ∨ n ≤ k) → mtab f i j k = 0 := fun i j k hi hj hk hh => by
    have := (shape_entry o.sh i j k hi hj hk).2
    omega
  have zu : ∀ i, i < 8 → n ≤ i → f i = 0 := fun i hi hh => by
    have := (shape_unit o.sh i hi).2
    omega
  have ze : ∀ i, i < 8 → n ≤ i → coF f i = 0 := fun i hi hh => by
    have := (shape_unit o.shc i hi).2
    omega
  have e8 : ∀ a b : Nat, b < 8 → (a * 8 + b) / 8 = a ∧ (a * 8 + b) % 8 = b := fun a b hb => by omega
  constructor
  case asc =>
    intro i j k l
    have h1 := all_get (all_get (all_get ha.2.2 i i.isLt) j j.isLt) k k.isLt
    unfold faultAt at h1
    simp only [Bool.not_not] at h1
    have h2 := congrArg (zp p) (seg_get h1 l (lt8 l))
    simp only [zp_mulF, zp_ebas] at h2
    rw [T_right (fun a : Fin n => zp p (mtab f i j a)) k fun a b => zp p (mtab f a b l), T_left (fun a : Fin n => zp p (mtab f j k a)) i fun a b => zp p (mtab f a b l)] at h2
    exact h2
  case ul =>
    intro i l
    have h1 := all_get ha.2.1 i i.isLt
    unfold unitAt at h1
    simp only [Bool.and_eq_true] at h1
    have h2 := congrArg (zp p) (seg_get h1.1 l (lt8 l))
    simp only [zp_mulF, zp_ebas] at h2
    rw [T_right (fun a : Fin n => zp p (f a)) i fun a b => zp p (mtab f a b l), del_comm] at h2
    exact h2
  case ur =>
    intro i l
    have h1 := all_get ha.2.1 i i.isLt
    unfold unitAt at h1
    simp only [Bool.and_eq_true] at h1
    have h2 := congrArg (zp p) (seg_get h1.2 l (lt8 l))
    simp only [zp_mulF, zp_ebas] at h2
    rw [T_left (fun a : Fin n => zp p (f a)) i fun a b => zp p (mtab f a b l), del_comm] at h2
    exact h2
  case ca =>
    intro i j k l
    have h1 := all_get hc.2.2 (idx n i j k l) (idx_lt i.isLt j.isLt k.isLt l.isLt)
    rw [cofM_idx j.isLt k.isLt l.isLt] at h1
    have h2 : coL p (coF f) i j k n l = coR p (coF f) i j k n l := by
      unfold cofA at h1
      simpa using h1
    have h3 := congrArg (zp p) h2
    unfold coL coR at h3
    rw [zp_mod, zp_mod, sumT, sumT] at h3
    refine Eq.trans (T_congr fun a => ?_) h3
    exact ZK.mul_comm _ _
  case cl =>
    intro i k
    have h1 := all_get hc.2.1 i i.isLt
    unfold cuAt at h1
    simp only [Bool.and_eq_true] at h1
    have h2 := congrArg (zp p) (seg_get h1.1 k (lt8 k))
    unfold cuL appF at h2
    rw [zp_mod, zp_sum8 hn fun j h1 h2 => by rw [ze j h2 h1, Int.zero_mul], zp_ebas, del_comm] at h2
    exact h2
  case cr =>
    intro i k
    have h1 := all_get hc.2.1 i i.isLt
    unfold cuAt at h1
    simp only [Bool.and_eq_true] at h1
    have h2 := congrArg (zp p) (seg_get h1.2 k (lt8 k))
    unfold cuR appF at h2
    rw [zp_mod, zp_sum8 hn fun j h1 h2 => by rw [ze j h2 h1, Int.zero_mul], zp_ebas, del_comm] at h2
    exact h2
  case bi =>
    intro i j x y
    have h1 := all_get (all_get o.a3 i i.isLt) j j.isLt
    unfold ax3At at h1
    have hx := lt8 x
    have hy := lt8 y
    have h2 := congrArg (zp p) (seg_get h1 (x * 8 + y) (by omega))
    unfold copF ppK at h2
    rw [zp_mod, zp_mod, (e8 x y hy).1, (e8 x y hy).2, zp_sum8 hn fun j' h1 h2 => by rw [zm i j j' (lt8 i) (lt8 j) h2 (.inr (.inr h1)), Int.zero_mul]] at h2
    refine Eq.trans h2 ?_
    unfold dsumK
    rw [show sumTo (ppT p n f (comF f i) (comF f j) x y n) 0 = 0 from rfl, Int.add_zero, sumT]
    refine T_congr fun a => ?_
    rw [sumT]
    refine T_congr fun b => ?_
    unfold ppT
    rw [zp_mul, zp_mulF]
    rfl
  case bu =>
    intro x y
    have h1 := o.a4
    unfold ax4B at h1
    have hx := lt8 x
    have hy := lt8 y
    have h2 := congrArg (zp p) (seg_get h1 (x * 8 + y) (by omega))
    unfold copF outF at h2
    rw [zp_mod, (e8 x y hy).1, (e8 x y hy).2, if_pos hx, zp_mod, zp_sum8 hn fun j' h1 h2 => by rw [zu j' h2 h1, Int.zero_mul]] at h2
    exact h2
  case em =>
    intro i j
    have h1 := o.a5
    unfold ax5B at h1
    simp only [Bool.and_eq_true] at h1
    have h2 := all_get (all_get h1.1 i i.isLt) j j.isLt
    unfold ax5At at h2
    have h3 := congrArg (zp p) (beq_iff_eq.1 h2)
    unfold dotF at h3
    rw [zp_mod, zp_mod, zp_sum8 hn fun j' h1 h2 => by rw [ze j' h2 h1, Int.zero_mul]] at h3
    refine Eq.trans (T_congr fun a => ?_) h3
    exact ZK.mul_comm _ _
  case eu =>
    have h1 := o.a5
    unfold ax5B at h1
    simp only [Bool.and_eq_true] at h1
    have h2 := h1.2
    unfold ax5U at h2
    have h3 := congrArg (zp p) (beq_iff_eq.1 h2)
    unfold dotF at h3
    rw [zp_mod, zp_sum8 hn fun j' h1 h2 => by rw [ze j' h2 h1, Int.zero_mul]] at h3
    refine Eq.trans (T_congr fun a => ?_) h3
    exact ZK.mul_comm _ _
  case al =>
    intro i l
    have h1 := o.a6
    unfold ax6B at h1
    have hi := lt8 i
    have hl := lt8 l
    have h2 := congrArg (zp p) (seg_get h1 (i * 8 + l) (by omega))
    unfold cvK outF at h2
    rw [(e8 i l hl).1, (e8 i l hl).2, if_pos i.isLt, if_pos hi, zp_mod] at h2
    unfold cvR at h2
    rw [zp_mod, sumT] at h2
    refine Eq.trans (T_congr fun j => ?_) h2
    rw [zp_mulF]
    have e1 : ∀ y : Fin n, zp p (appF p 8 (fun x y => idK n (x * 8 + y)) (mtab (coF f) i j) y) = zp p (mtab (coF f) i j y) := fun y => by
      unfold appF
      rw [zp_mod, zp_sum8 hn fun z h1 h2 => by rw [zc i j z hi (lt8 j) h2 (.inr (.inr h1)), Int.zero_mul]]
      rw [T_congr fun z : Fin n => show zp p (mtab (coF f) i j z * idK n (z * 8 + y)) = del z y * zp p (mtab (coF f) i j z) by
        unfold idK
        rw [(e8 z y (lt8 y)).1, (e8 z y (lt8 y)).2, if_pos z.isLt, zp_mul, zp_ebas, ZK.mul_comm, del_comm], T_del]
    simp only [e1]
    rw [T_T]
    refine T_congr fun k => ?_
    show zp p (mtab (coF f) i j k) * T n (fun a : Fin n => zp p (anF f (j * 8 + a)) * zp p (mtab f a k l)) = _
    rw [← T_mul]
    refine T_congr fun a => ?_
    rw [← ZK.mul_assoc, ZK.mul_comm (zp p (mtab (coF f) i j k))]
  case ar =>
    intro i l
    have h1 := o.a7
    unfold ax7B at h1
    have hi := lt8 i
    have hl := lt8 l
    have h2 := congrArg (zp p) (seg_get h1 (i * 8 + l) (by omega))
    unfold cvK outF at h2
    rw [(e8 i l hl).1, (e8 i l hl).2, if_pos i.isLt, if_pos hi, zp_mod] at h2
    unfold cvR at h2
    rw [zp_mod, sumT] at h2
    refine Eq.trans (T_congr fun j => ?_) h2
    rw [zp_mulF]
    have e1 : ∀ x : Fin n, zp p (idK n (j * 8 + x)) = del x j := fun x => by
      unfold idK
      rw [(e8 j x (lt8 x)).1, (e8 j x (lt8 x)).2, if_pos j.isLt, zp_ebas]
    have e2 : ∀ y : Fin n, zp p (appF p 8 (fun x y => anF f (x * 8 + y)) (mtab (coF f) i j) y) = T n fun k : Fin n => zp p (mtab (coF f) i j k) * zp p (anF f (k * 8 + y)) := fun y => by
      unfold appF
      rw [zp_mod, zp_sum8 hn fun z h1 h2 => by rw [zc i j z hi (lt8 j) h2 (.inr (.inr h1)), Int.zero_mul]]
      rfl
    simp only [e1, e2]
    rw [T_left (fun y : Fin n => T n fun k : Fin n => zp p (mtab (coF f) i j k) * zp p (anF f (k * 8 + y))) j fun a b => zp p (mtab f a b l)]
    show T n (fun k : Fin n => zp p (mtab (coF f) i j k) * T n fun a : Fin n => zp p (anF f (k * 8 + a)) * zp p (mtab f j a l)) = _
    simp only [← T_mul]
    rw [T_T]
    refine T_congr fun a => ?_
    rw [ZK.mul_comm (T n _), ← T_mul]
    refine T_congr fun k => ?_
    rw [ZK.mul_left, ← ZK.mul_assoc, ZK.mul_comm, ← ZK.mul_assoc, ZK.mul_comm (zp p (mtab f j a l)), ZK.mul_assoc]
    rw [ZK.mul_comm, ZK.mul_assoc]
/-- t is a left integral for products m and the counit e -/
def Integ (p : Int) (n : Nat) (m : Nat → Nat → Nat → Int) (e t : Nat → Int) : Prop := (∀ i k, i < n → k < n → sumTo (fun j => t j * m i j k) n % p = e i * t k % p) ∧ ∀ k, n ≤ k → k < 8 → t k % p = 0
theorem integ_exists {p : Int} {n : Nat} {h : HopfK p n} (o : h.Con) (h0 : 0 < n) (hp : 2 ≤ p) (m : Nat → Nat → Nat → Int) (e : Nat → Int) (hm : ∀ i j k : Fin n, h.m i j k = zp p (m i j k)) (he : ∀ i : Fin n, h.e i = zp p (e i)) :
    ∃ t, Integ p n m e t ∧ ∃ k, k < n ∧ t k % p ≠ 0 := by
  have h1 : zp p 1 ≠ zp p 0 := fun x => by
    have := zp_eq.1 x
    rw [Int.emod_eq_of_lt (by omega) (by omega)] at this
    simp at this
  obtain ⟨t, ⟨k, hk⟩, ht⟩ := HopfK.integral o.ok ⟨0, h0⟩ h1
  have hz : ∀ i : Fin n, ∃ a, t i = zp p a := fun i => zp_surj _
  obtain ⟨s, hs⟩ : ∃ s : Nat → Int, ∀ i : Fin n, t i = zp p (s i) := ⟨fun i => if hi : i < n then (hz ⟨i, hi⟩).choose else 0, fun i => by
    dsimp only
    rw [dif_pos i.isLt]
    exact (hz i).choose_spec⟩
  refine ⟨fun i => if i < n then s i else 0, ⟨fun i k hi hk => ?_, fun k hk _ => ?_⟩, k, k.isLt, ?_⟩
  · have e1 := ht ⟨i, hi⟩ ⟨k, hk⟩
    simp only [hm, he, hs] at e1
    dsimp only
    rw [if_pos hk, sumTo_congr n fun j hj => show (if j < n then s j else 0) * m i j k = s j * m i j k by rw [if_pos hj]]
    refine zp_eq.1 ?_
    rw [sumT, zp_mul]
    exact e1
  · dsimp only
    rw [if_neg (by omega)]; simp
  · dsimp only
    rw [if_pos k.isLt]
    intro e1
    refine hk ?_
    rw [hs]
    exact zp_eq.2 (by rw [e1]; simp)
end Go.Proofs.YtjpdpnplnelgcaaGreat
