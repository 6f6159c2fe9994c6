/- Hopf algebras over numbers modulo p, plain mathematics: every one has a left integral other than 0; the opposite with the opposite coproduct and the dual are Hopf algebras. -/
import Derived.Test.YtjpdpnplnelgcaaGreatLin
namespace Go.Proofs.YtjpdpnplnelgcaaGreat
set_option linter.unusedVariables false
set_option linter.unusedSimpArgs false

/-! ### numbers modulo p as a ring -/
/-- numbers modulo p -/
def Zp (p : Int) : Type := Quot fun a b : Int => a % p = b % p
def zp (p a : Int) : Zp p := Quot.mk _ a
theorem zp_surj {p : Int} (x : Zp p) : ∃ a, x = zp p a := by
  obtain ⟨a, h⟩ := Quot.exists_rep x
  exact ⟨a, h.symm⟩
theorem zp_eq {p a b : Int} : zp p a = zp p b ↔ a % p = b % p :=
  ⟨fun h => congrArg (Quot.lift (fun x : Int => x % p) fun _ _ e => e) h, fun h => Quot.sound h⟩
def Zp.add {p : Int} (x y : Zp p) : Zp p := Quot.lift (fun a => Quot.lift (fun b => zp p (a + b)) (fun b c e => Quot.sound (emod_add_congr rfl e)) y) (fun a c e => by
  obtain ⟨b, rfl⟩ := zp_surj y
  exact Quot.sound (emod_add_congr e rfl)) x
def Zp.mul {p : Int} (x y : Zp p) : Zp p := Quot.lift (fun a => Quot.lift (fun b => zp p (a * b)) (fun b c e => Quot.sound (emod_mul_congr rfl e)) y) (fun a c e => by
  obtain ⟨b, rfl⟩ := zp_surj y
  exact Quot.sound (emod_mul_congr e rfl)) x
instance (p : Int) : Add (Zp p) := ⟨Zp.add⟩
instance (p : Int) : Mul (Zp p) := ⟨Zp.mul⟩
theorem zp_add (p a b : Int) : zp p (a + b) = zp p a + zp p b := rfl
theorem zp_mul (p a b : Int) : zp p (a * b) = zp p a * zp p b := rfl
namespace ZK
variable {p : Int}
theorem add_comm (x y : Zp p) : x + y = y + x := by
  obtain ⟨a, rfl⟩ := zp_surj x
  obtain ⟨b, rfl⟩ := zp_surj y
  exact congrArg (zp p) (Int.add_comm a b)
theorem add_assoc (x y z : Zp p) : x + y + z = x + (y + z) := by
  obtain ⟨a, rfl⟩ := zp_surj x
  obtain ⟨b, rfl⟩ := zp_surj y
  obtain ⟨c, rfl⟩ := zp_surj z
  exact congrArg (zp p) (Int.add_assoc a b c)
theorem mul_comm (x y : Zp p) : x * y = y * x := by
  obtain ⟨a, rfl⟩ := zp_surj x
  obtain ⟨b, rfl⟩ := zp_surj y
  exact congrArg (zp p) (Int.mul_comm a b)
theorem mul_assoc (x y z : Zp p) : x * y * z = x * (y * z) := by
  obtain ⟨a, rfl⟩ := zp_surj x
  obtain ⟨b, rfl⟩ := zp_surj y
  obtain ⟨c, rfl⟩ := zp_surj z
  exact congrArg (zp p) (Int.mul_assoc a b c)
theorem mul_left (x y z : Zp p) : x * (y * z) = y * (x * z) := by rw [← mul_assoc, mul_comm x y, mul_assoc]
theorem mul_add (x y z : Zp p) : x * (y + z) = x * y + x * z := by
  obtain ⟨a, rfl⟩ := zp_surj x
  obtain ⟨b, rfl⟩ := zp_surj y
  obtain ⟨c, rfl⟩ := zp_surj z
  exact congrArg (zp p) (Int.mul_add a b c)
theorem add_four (a b c d : Zp p) : a + b + (c + d) = a + c + (b + d) := by rw [add_assoc, add_assoc, ← add_assoc b c d, add_comm b c, add_assoc c b d]
theorem zero_add (x : Zp p) : zp p 0 + x = x := by
  obtain ⟨a, rfl⟩ := zp_surj x
  exact congrArg (zp p) (Int.zero_add a)
theorem add_zero (x : Zp p) : x + zp p 0 = x := by
  obtain ⟨a, rfl⟩ := zp_surj x
  exact congrArg (zp p) (Int.add_zero a)
theorem mul_zero (x : Zp p) : x * zp p 0 = zp p 0 := by
  obtain ⟨a, rfl⟩ := zp_surj x
  exact congrArg (zp p) (Int.mul_zero a)
theorem zero_mul (x : Zp p) : zp p 0 * x = zp p 0 := by
  obtain ⟨a, rfl⟩ := zp_surj x
  exact congrArg (zp p) (Int.zero_mul a)
theorem one_mul (x : Zp p) : zp p 1 * x = x := by
  obtain ⟨a, rfl⟩ := zp_surj x
  exact congrArg (zp p) (Int.one_mul a)
theorem mul_one (x : Zp p) : x * zp p 1 = x := by
  obtain ⟨a, rfl⟩ := zp_surj x
  exact congrArg (zp p) (Int.mul_one a)
/-! sums over all places -/
def T : (n : Nat) → (Fin n → Zp p) → Zp p
  | 0, _ => zp p 0
  | n + 1, F => T n (fun i => F i.castSucc) + F (Fin.last n)
theorem T_add : ∀ (n : Nat) (F G : Fin n → Zp p), T n (fun i => F i + G i) = T n F + T n G
  | 0, _, _ => (zero_add _).symm
  | n + 1, F, G => by rw [T, T, T, T_add n, add_four]
theorem T_mul : ∀ (n : Nat) (c : Zp p) (F : Fin n → Zp p), T n (fun i => c * F i) = c * T n F
  | 0, c, _ => (mul_zero c).symm
  | n + 1, c, F => by rw [T, T, T_mul n, mul_add]
theorem T_zero : ∀ n : Nat, T n (fun _ => zp p 0) = zp p 0
  | 0 => rfl
  | n + 1 => by rw [T, T_zero n, zero_add]
theorem T_T {m : Nat} : ∀ (n : Nat) (F : Fin n → Fin m → Zp p), T n (fun i => T m (F i)) = T m fun j => T n fun i => F i j
  | 0, _ => (T_zero m).symm
  | n + 1, F => by rw [T, T_T n, ← T_add]; rfl
/-- 1 where both are the same, else 0 -/
def del {n : Nat} (i j : Fin n) : Zp p := if i = j then zp p 1 else zp p 0
theorem del_comm {n : Nat} (i j : Fin n) : (del i j : Zp p) = del j i := by
  unfold del
  by_cases h : i = j
  · rw [if_pos h, if_pos h.symm]
  · rw [if_neg h, if_neg fun e => h e.symm]
theorem T_del : ∀ (n : Nat) (j : Fin n) (F : Fin n → Zp p), T n (fun i => del i j * F i) = F j
  | 0, j, _ => j.elim0
  | n + 1, j, F => by
    rw [T]
    by_cases h : j = Fin.last n
    · subst h
      have e : (fun i : Fin n => del (p := p) i.castSucc (Fin.last n) * F i.castSucc) = fun _ => zp p 0 := funext fun i => by
        have : ¬ i.castSucc = Fin.last n := fun e => by have := congrArg Fin.val e; simp at this; omega
        unfold del
        rw [if_neg this, zero_mul]
      rw [e, T_zero, zero_add]
      unfold del
      rw [if_pos rfl, one_mul]
    · obtain ⟨k, rfl⟩ : ∃ k : Fin n, j = k.castSucc := ⟨⟨j.val, by have := j.isLt; have : j.val ≠ n := fun e => h (Fin.ext e); omega⟩, Fin.ext rfl⟩
      have e : (fun i : Fin n => del (p := p) i.castSucc k.castSucc * F i.castSucc) = fun i => del i k * F i.castSucc := funext fun i => by
        unfold del
        by_cases e : i = k
        · subst e; rw [if_pos rfl, if_pos rfl]
        · rw [if_neg e, if_neg (fun x => e (Fin.ext (by have := congrArg Fin.val x; simpa using this)))]
      rw [e, T_del n k (fun i => F i.castSucc)]
      unfold del
      rw [if_neg (fun x => h x.symm), zero_mul, add_zero]
/-- a weighted sum -/
def W {n : Nat} (w F : Fin n → Zp p) : Zp p := T n fun k => w k * F k
theorem W_mul {n : Nat} (w F : Fin n → Zp p) (c : Zp p) : W w (fun k => c * F k) = c * W w F := by
  unfold W
  rw [← T_mul]
  exact congrArg _ (funext fun k => mul_left _ _ _)
theorem T_W {n m : Nat} (w : Fin m → Zp p) (F : Fin n → Fin m → Zp p) : T n (fun i => W w (F i)) = W w fun k => T n fun i => F i k := by
  unfold W
  rw [T_T]
  exact congrArg _ (funext fun k => T_mul _ _ _)
theorem W_W {n m : Nat} (v : Fin n → Zp p) (w : Fin m → Zp p) (F : Fin n → Fin m → Zp p) : W v (fun i => W w (F i)) = W w fun k => W v fun i => F i k := by
  show T n (fun i => v i * W w (F i)) = _
  rw [show (fun i => v i * W w (F i)) = fun i => W w fun k => v i * F i k from funext fun i => (W_mul _ _ _).symm, T_W]
  rfl
theorem W_del {n : Nat} (w : Fin n → Zp p) (j : Fin n) (c : Zp p) : W w (fun i => del i j * c) = w j * c := by
  unfold W
  rw [show (fun k => w k * (del k j * c)) = fun k => del k j * (w k * c) from funext fun k => mul_left _ _ _, T_del]
end ZK
open ZK
/-- the numbers of a Hopf algebra: products, the unit, coproducts, the counit, the antipode -/
structure HopfK (p : Int) (n : Nat) where
  m : Fin n → Fin n → Fin n → Zp p
  u : Fin n → Zp p
  c : Fin n → Fin n → Fin n → Zp p
  e : Fin n → Zp p
  s : Fin n → Fin n → Zp p
namespace HopfK
variable {p : Int} {n : Nat} (h : HopfK p n)
def M (i j : Fin n) (F : Fin n → Zp p) : Zp p := W (h.m i j) F
def U (F : Fin n → Zp p) : Zp p := W h.u F
def D (i : Fin n) (G : Fin n → Fin n → Zp p) : Zp p := T n fun j => W (h.c i j) (G j)
def A (i : Fin n) (F : Fin n → Zp p) : Zp p := W (h.s i) F
/-- the axioms -/
structure Ok : Prop where
  asc : ∀ (i j k : Fin n) (F : Fin n → Zp p), h.M i j (fun a => h.M a k F) = h.M j k fun a => h.M i a F
  ul : ∀ (i : Fin n) (F : Fin n → Zp p), h.U (fun a => h.M a i F) = F i
  ur : ∀ (i : Fin n) (F : Fin n → Zp p), h.U (fun a => h.M i a F) = F i
  ca : ∀ (i : Fin n) (G : Fin n → Fin n → Fin n → Zp p), h.D i (fun a l => h.D a fun j k => G j k l) = h.D i fun j a => h.D a fun k l => G j k l
  cl : ∀ (i : Fin n) (F : Fin n → Zp p), h.D i (fun j k => h.e j * F k) = F i
  cr : ∀ (i : Fin n) (F : Fin n → Zp p), h.D i (fun j k => h.e k * F j) = F i
  bi : ∀ (i j : Fin n) (G : Fin n → Fin n → Zp p), h.M i j (fun k => h.D k G) = h.D i fun a b => h.D j fun c d => h.M a c fun x => h.M b d fun y => G x y
  bu : ∀ (G : Fin n → Fin n → Zp p), h.U (fun k => h.D k G) = h.U fun a => h.U fun b => G a b
  em : ∀ i j, h.M i j h.e = h.e i * h.e j
  eu : h.U h.e = zp p 1
  al : ∀ (i : Fin n) (F : Fin n → Zp p), h.D i (fun j k => h.A j fun a => h.M a k F) = h.e i * h.U F
  ar : ∀ (i : Fin n) (F : Fin n → Zp p), h.D i (fun j k => h.A k fun a => h.M j a F) = h.e i * h.U F
/-! the sums may change places -/
theorem M_mul (i j : Fin n) (F : Fin n → Zp p) (c : Zp p) : h.M i j (fun k => c * F k) = c * h.M i j F := W_mul _ _ _
theorem U_mul (F : Fin n → Zp p) (c : Zp p) : h.U (fun k => c * F k) = c * h.U F := W_mul _ _ _
theorem A_mul (i : Fin n) (F : Fin n → Zp p) (c : Zp p) : h.A i (fun k => c * F k) = c * h.A i F := W_mul _ _ _
theorem D_mul (i : Fin n) (G : Fin n → Fin n → Zp p) (c : Zp p) : h.D i (fun j k => c * G j k) = c * h.D i G := by
  unfold D
  rw [← T_mul]
  exact congrArg _ (funext fun j => W_mul _ _ _)
theorem M_M (i j k l : Fin n) (G : Fin n → Fin n → Zp p) : h.M i j (fun a => h.M k l (G a)) = h.M k l fun b => h.M i j fun a => G a b := W_W _ _ _
theorem A_M (i k l : Fin n) (G : Fin n → Fin n → Zp p) : h.A i (fun a => h.M k l (G a)) = h.M k l fun b => h.A i fun a => G a b := W_W _ _ _
theorem A_A (i k : Fin n) (G : Fin n → Fin n → Zp p) : h.A i (fun a => h.A k (G a)) = h.A k fun b => h.A i fun a => G a b := W_W _ _ _
theorem U_M (k l : Fin n) (G : Fin n → Fin n → Zp p) : h.U (fun a => h.M k l (G a)) = h.M k l fun b => h.U fun a => G a b := W_W _ _ _
theorem U_A (k : Fin n) (G : Fin n → Fin n → Zp p) : h.U (fun a => h.A k (G a)) = h.A k fun b => h.U fun a => G a b := W_W _ _ _
theorem T_M (k l : Fin n) (G : Fin n → Fin n → Zp p) : T n (fun a => h.M k l (G a)) = h.M k l fun b => T n fun a => G a b := T_W _ _
theorem T_A (k : Fin n) (G : Fin n → Fin n → Zp p) : T n (fun a => h.A k (G a)) = h.A k fun b => T n fun a => G a b := T_W _ _
theorem T_U (G : Fin n → Fin n → Zp p) : T n (fun a => h.U (G a)) = h.U fun b => T n fun a => G a b := T_W _ _
theorem T_D (k : Fin n) (G : Fin n → Fin n → Fin n → Zp p) : T n (fun a => h.D k (G a)) = h.D k fun b c => T n fun a => G a b c := by
  unfold D
  rw [T_T]
  exact congrArg _ (funext fun j => T_W _ _)
theorem W_D (w : Fin n → Zp p) (k : Fin n) (G : Fin n → Fin n → Fin n → Zp p) : W w (fun a => h.D k (G a)) = h.D k fun b c => W w fun a => G a b c := by
  unfold D
  rw [← T_W]
  exact congrArg _ (funext fun j => W_W _ _ _)
theorem M_D (i j k : Fin n) (G : Fin n → Fin n → Fin n → Zp p) : h.M i j (fun a => h.D k (G a)) = h.D k fun b c => h.M i j fun a => G a b c := h.W_D _ _ _
theorem A_D (i k : Fin n) (G : Fin n → Fin n → Fin n → Zp p) : h.A i (fun a => h.D k (G a)) = h.D k fun b c => h.A i fun a => G a b c := h.W_D _ _ _
theorem U_D (k : Fin n) (G : Fin n → Fin n → Fin n → Zp p) : h.U (fun a => h.D k (G a)) = h.D k fun b c => h.U fun a => G a b c := h.W_D _ _ _
theorem D_M (i k l : Fin n) (G : Fin n → Fin n → Fin n → Zp p) : h.D k (fun b c => h.M i l fun a => G a b c) = h.M i l fun a => h.D k (G a) := (h.W_D _ _ _).symm
theorem D_A (i k : Fin n) (G : Fin n → Fin n → Fin n → Zp p) : h.D k (fun b c => h.A i fun a => G a b c) = h.A i fun a => h.D k (G a) := (h.W_D _ _ _).symm
theorem D_T (k : Fin n) (G : Fin n → Fin n → Fin n → Zp p) : h.D k (fun b c => T n fun a => G a b c) = T n fun a => h.D k (G a) := (h.T_D _ _).symm
theorem D_D (i k : Fin n) (G : Fin n → Fin n → Fin n → Fin n → Zp p) : h.D i (fun a b => h.D k (G a b)) = h.D k fun c d => h.D i fun a b => G a b c d := by
  show T n (fun j => W (h.c i j) fun b => h.D k (G j b)) = _
  rw [show (fun j => W (h.c i j) fun b => h.D k (G j b)) = fun j => h.D k fun c d => W (h.c i j) fun b => G j b c d from funext fun j => h.W_D _ _ _, h.T_D]
  rfl
variable {h}
/-- the antipode leads the unit to itself -/
theorem su (o : h.Ok) (F : Fin n → Zp p) : h.U (fun a => h.A a F) = h.U F := by
  have h1 : h.U (fun k => h.D k fun a b => h.A a fun s => h.M s b F) = h.U F := by
    simp only [o.al]
    rw [show (fun a => h.e a * h.U F) = fun a => h.U F * h.e a from funext fun a => ZK.mul_comm _ _, U_mul, o.eu, ZK.mul_one]
  rw [← h1, o.bu]
  simp only [U_A, o.ur]
theorem antiR (o : h.Ok) (i j : Fin n) (F : Fin n → Zp p) : h.D i (fun a b => h.D j fun c d => h.A d fun y => h.A b fun x => h.M a c fun t => h.M y x fun r => h.M t r F) = h.e i * h.e j * h.U F := by
  calc _ = h.D i (fun a b => h.D j fun c d => h.A d fun y => h.A b fun x => h.M c y fun t => h.M a t fun z => h.M z x F) := by
        simp only [← o.asc]
    _ = h.D i (fun a b => h.D j fun c d => h.A d fun y => h.M c y fun t => h.M a t fun z => h.A b fun x => h.M z x F) := by simp only [A_M]
    _ = h.D i (fun a b => h.e j * h.A b fun x => h.M a x F) := by simp only [o.ar, o.ur]
    _ = _ := by rw [D_mul, o.ar, ← ZK.mul_assoc, ZK.mul_comm (h.e j)]
theorem antiL (o : h.Ok) (i j : Fin n) (F : Fin n → Zp p) : h.D i (fun a b => h.D j fun c d => h.M a c fun k => h.A k fun s => h.M b d fun t => h.M s t F) = h.e i * h.e j * h.U F := by
  have h1 := o.bi i j fun k t => h.A k fun s => h.M s t F
  simp only [o.al] at h1
  rw [show (fun k => h.e k * h.U F) = fun k => h.U F * h.e k from funext fun a => ZK.mul_comm _ _, M_mul, o.em] at h1
  rw [ZK.mul_comm, h1]
  simp only [A_M]
/-- the antipode turns products round -/
theorem sm (o : h.Ok) (i j : Fin n) (F : Fin n → Zp p) : h.M i j (fun k => h.A k F) = h.A j fun b => h.A i fun a => h.M b a F := by
  have h1 : h.D i (fun a b => h.D j fun c d => h.M a c fun k => h.A k fun s => h.D b fun b1 b2 => h.D d fun d1 d2 => h.A d2 fun y => h.A b2 fun x => h.M b1 d1 fun t => h.M y x fun r => h.M t r fun v => h.M s v F) = h.M i j fun k => h.A k F := by
    simp only [antiR o, o.ur]
    calc _ = h.D i (fun a b => h.D j fun c d => h.e d * (h.e b * h.M a c fun k => h.A k F)) := by
          refine congrArg _ (funext fun a => funext fun b => congrArg _ (funext fun c => funext fun d => ?_))
          rw [← M_mul, ← M_mul]
          refine congrArg _ (funext fun k => ?_)
          rw [← A_mul, ← A_mul]
          refine congrArg _ (funext fun s => ?_)
          rw [ZK.mul_comm (h.e b), ZK.mul_assoc]
      _ = _ := by simp only [o.cr]
  have h2 : h.D i (fun a b => h.D j fun c d => h.M a c fun k => h.A k fun s => h.D b fun b1 b2 => h.D d fun d1 d2 => h.A d2 fun y => h.A b2 fun x => h.M b1 d1 fun t => h.M y x fun r => h.M t r fun v => h.M s v F) = h.A j fun b => h.A i fun a => h.M b a F := by
    calc _ = h.D i (fun a b => h.D b fun b1 b2 => h.D j fun c d => h.D d fun d1 d2 => h.M a c fun k => h.A k fun s => h.A d2 fun y => h.A b2 fun x => h.M b1 d1 fun t => h.M y x fun r => h.M t r fun v => h.M s v F) := by
          simp only [A_D, M_D]
          refine congrArg _ (funext fun a => funext fun b => ?_)
          rw [D_D]
      _ = h.D i (fun b b2 => h.D b fun a b1 => h.D j fun d d2 => h.D d fun c d1 => h.M a c fun k => h.A k fun s => h.A d2 fun y => h.A b2 fun x => h.M b1 d1 fun t => h.M y x fun r => h.M t r fun v => h.M s v F) := by
          rw [o.ca]
          refine congrArg _ (funext fun a => funext fun b => congrArg _ (funext fun c => funext fun d => ?_))
          rw [o.ca]
      _ = h.D i (fun b b2 => h.D j fun d d2 => h.D b fun a b1 => h.D d fun c d1 => h.M a c fun k => h.A k fun s => h.M b1 d1 fun t => h.M s t fun w => h.A d2 fun y => h.A b2 fun x => h.M y x fun r => h.M w r F) := by
          refine congrArg _ (funext fun b => funext fun b2 => ?_)
          rw [D_D]
          refine congrArg _ (funext fun d => funext fun d2 => congrArg _ (funext fun a => funext fun b1 => congrArg _ (funext fun c => funext fun d1 => congrArg _ (funext fun k => congrArg _ (funext fun s => ?_)))))
          simp only [A_M]
          refine congrArg _ (funext fun t => ?_)
          symm
          rw [← A_M]
          refine congrArg _ (funext fun y => ?_)
          rw [← A_M]
          refine congrArg _ (funext fun x => ?_)
          rw [M_M]
          refine congrArg _ (funext fun r => ?_)
          rw [o.asc]
      _ = h.D i (fun b b2 => h.D j fun d d2 => h.e d * (h.e b * h.A d2 fun y => h.A b2 fun x => h.M y x F)) := by
          refine congrArg _ (funext fun b => funext fun b2 => congrArg _ (funext fun d => funext fun d2 => ?_))
          rw [antiL o]
          simp only [U_A, U_M, o.ul]
          rw [ZK.mul_comm (h.e b), ZK.mul_assoc]
      _ = _ := by simp only [o.cl]
  rw [← h1, h2]
theorem k1 (o : h.Ok) (g a : Fin n) (G : Fin n → Fin n → Zp p) : h.D a (fun b c => h.M g b fun y => h.A c fun d => h.A d fun g => G y g) = h.D g fun h1 h2 => h.M h1 a fun z => h.D z fun b c => h.A h2 fun s => h.A c fun d => h.A d fun g' => h.M s g' fun g => G b g := by
  symm
  calc _ = h.D g (fun h1 h2 => h.D h1 fun p q => h.D a fun b c => h.M p b fun x => h.M q c fun y => h.A h2 fun s => h.A y fun d => h.A d fun g' => h.M s g' fun g => G x g) := by simp only [o.bi]
    _ = h.D g (fun p h' => h.D h' fun q h2 => h.D a fun b c => h.M p b fun x => h.M q c fun y => h.A h2 fun s => h.A y fun d => h.A d fun g' => h.M s g' fun g => G x g) := by rw [o.ca]
    _ = h.D g (fun p h' => h.D a fun b c => h.M p b fun x => h.A c fun v => h.A v fun a' => h.e h' * G x a') := by
        refine congrArg _ (funext fun p => funext fun h' => ?_)
        rw [D_D]
        refine congrArg _ (funext fun b => funext fun c => ?_)
        rw [D_M]
        refine congrArg _ (funext fun x => ?_)
        calc _ = h.D h' (fun q h2 => h.A c fun v => h.A v fun a' => h.A q fun w => h.A h2 fun s => h.A w fun b' => h.M s b' fun g' => h.M g' a' fun g => G x g) := by
              refine congrArg _ (funext fun q => funext fun h2 => ?_)
              calc _ = h.A h2 (fun s => h.M q c fun y => h.A y fun d => h.A d fun g' => h.M s g' fun g => G x g) := by rw [← A_M]
                _ = h.A h2 (fun s => h.A c fun v => h.A q fun w => h.A w fun b' => h.A v fun a' => h.M b' a' fun g' => h.M s g' fun g => G x g) := by simp only [sm o]
                _ = h.A c (fun v => h.A h2 fun s => h.A v fun a' => h.A q fun w => h.A w fun b' => h.M b' a' fun g' => h.M s g' fun g => G x g) := by
                  rw [A_A]
                  refine congrArg _ (funext fun v => congrArg _ (funext fun s => ?_))
                  rw [A_A h v]
                  refine congrArg _ (funext fun w => ?_)
                  rw [A_A h v]
                _ = _ := by
                  refine congrArg _ (funext fun v => ?_)
                  rw [A_A h h2 v]
                  refine congrArg _ (funext fun a' => ?_)
                  rw [A_A h h2 q]
                  refine congrArg _ (funext fun w => congrArg _ (funext fun s => congrArg _ (funext fun b' => ?_)))
                  rw [o.asc]
          _ = h.A c (fun v => h.A v fun a' => h.D h' fun q h2 => h.A q fun w => h.A h2 fun s => h.A w fun b' => h.M s b' fun g' => h.M g' a' fun g => G x g) := by
              rw [D_A]
              refine congrArg _ (funext fun v => ?_)
              rw [D_A]
          _ = _ := by
              refine congrArg _ (funext fun v => congrArg _ (funext fun a' => ?_))
              simp only [← sm o, o.al, su o, o.ul]
    _ = h.D a fun b c => h.D g fun p h' => h.e h' * h.M p b fun x => h.A c fun v => h.A v fun a' => G x a' := by
        rw [D_D]
        refine congrArg _ (funext fun b => funext fun c => congrArg _ (funext fun p => funext fun h' => ?_))
        simp only [A_mul, M_mul]
    _ = _ := by simp only [o.cr]
/-- the vector with the entries P x (del k) -/
def P (h : HopfK p n) (x : Fin n) (F : Fin n → Zp p) : Zp p := T n fun i => h.M i x fun a => h.D a fun b c => h.A c fun d => h.A d fun g => del i g * F b
/-- it is a left integral -/
theorem P_int (o : h.Ok) (g x : Fin n) (F : Fin n → Zp p) : P h x (fun b => h.M g b F) = h.e g * P h x F := by
  unfold P
  calc _ = T n (fun i => h.M i x fun a => h.D g fun h1 h2 => h.M h1 a fun z => h.D z fun b c => h.A h2 fun s => h.A c fun d => h.A d fun g' => h.M s g' fun k => del i k * F b) := by
        refine congrArg _ (funext fun i => congrArg _ (funext fun a => ?_))
        rw [← k1 o]
        refine congrArg _ (funext fun b => funext fun c => ?_)
        simp only [← M_mul, A_M]
    _ = h.D g (fun h1 h2 => T n fun i => h.M h1 i fun k => h.M k x fun z => h.D z fun b c => h.A h2 fun s => h.A c fun d => h.A d fun g' => h.M s g' fun k' => del i k' * F b) := by
        simp only [M_D, T_D, ← o.asc]
    _ = h.D g (fun h1 h2 => T n fun k => h.M k x fun z => h.D z fun b c => h.A h2 fun s => h.A c fun d => h.A d fun g' => h.M s g' fun k' => h.M h1 k' fun i => del k i * F b) := by
        refine congrArg _ (funext fun h1 => funext fun h2 => ?_)
        show T n (fun i => T n fun k => h.m h1 i k * h.M k x _) = _
        rw [T_T]
        refine congrArg _ (funext fun k => ?_)
        simp only [← M_mul, ← D_mul, ← A_mul, T_M, T_D, T_A]
        refine congrArg _ (funext fun z => congrArg _ (funext fun b => funext fun c => congrArg _ (funext fun s => congrArg _ (funext fun d => congrArg _ (funext fun g' => congrArg _ (funext fun k' => ?_))))))
        have e1 : (fun a => h.m h1 a k * (del a k' * F b)) = fun a => del a k' * (h.m h1 a k * F b) := funext fun a => ZK.mul_left _ _ _
        have e2 : (fun i => del k i * F b) = fun i => del i k * F b := funext fun i => by rw [del_comm]
        rw [e1, T_del, e2]
        exact (W_del _ _ _).symm
    _ = h.D g (fun h1 h2 => T n fun k => h.M k x fun z => h.D z fun b c => h.A c fun d => h.A d fun g' => h.A h2 fun s => h.M h1 s fun q => h.M q g' fun i => del k i * F b) := by
        refine congrArg _ (funext fun h1 => funext fun h2 => congrArg _ (funext fun k => congrArg _ (funext fun z => congrArg _ (funext fun b => funext fun c => ?_))))
        rw [A_A]
        refine congrArg _ (funext fun d => ?_)
        rw [A_A]
        refine congrArg _ (funext fun g' => congrArg _ (funext fun s => ?_))
        rw [o.asc]
    _ = T n (fun k => h.M k x fun z => h.D z fun b c => h.A c fun d => h.A d fun g' => h.D g fun h1 h2 => h.A h2 fun s => h.M h1 s fun q => h.M q g' fun i => del k i * F b) := by
        rw [D_T]
        refine congrArg _ (funext fun k => ?_)
        rw [D_M]
        refine congrArg _ (funext fun z => ?_)
        rw [D_D]
        refine congrArg _ (funext fun b => funext fun c => ?_)
        rw [D_A]
        refine congrArg _ (funext fun d => ?_)
        rw [D_A]
    _ = _ := by simp only [o.ar, o.ul, A_mul, D_mul, M_mul, T_mul]
/-- what is generated by all of them is all -/
theorem P_gen (o : h.Ok) (x : Fin n) (F : Fin n → Zp p) : T n (fun j => h.M j x fun y => P h y fun a => h.D a fun b c => h.A c fun d => del j d * F b) = F x := by
  unfold P
  calc _ = T n (fun j => T n fun i => h.M i j fun k => h.M k x fun z => h.D z fun a c => h.A c fun d' => h.A d' fun g => h.D a fun b c' => h.A c' fun d => del i g * (del j d * F b)) := by
        refine congrArg _ (funext fun j => ?_)
        rw [← T_M]
        refine congrArg _ (funext fun i => ?_)
        simp only [← o.asc, ← A_mul, ← D_mul]
    _ = T n (fun k => h.M k x fun z => h.D z fun a c => h.D a fun b c' => h.A c fun d' => h.A d' fun g => h.A c' fun d => h.M g d fun i => del k i * F b) := by
        have e0 : ∀ (X : Fin n → Fin n → Fin n → Zp p), T n (fun j => T n fun i => h.M i j fun k => X i j k) = T n fun k => T n fun j => T n fun i => h.m i j k * X i j k := fun X => by
          show T n (fun j => T n fun i => T n fun k => h.m i j k * X i j k) = _
          rw [show (fun j => T n fun i => T n fun k => h.m i j k * X i j k) = fun j => T n fun k => T n fun i => h.m i j k * X i j k from funext fun j => T_T _ _, T_T]
        rw [e0]
        refine congrArg _ (funext fun k => ?_)
        simp only [← M_mul, ← D_mul, ← A_mul, T_M, T_D, T_A]
        refine congrArg _ (funext fun z => congrArg _ (funext fun a => funext fun c => ?_))
        simp only [A_D]
        refine congrArg _ (funext fun b => funext fun c' => congrArg _ (funext fun d' => congrArg _ (funext fun g => congrArg _ (funext fun d => ?_))))
        have e1 : ∀ j, (fun i => h.m i j k * (del i g * (del j d * F b))) = fun i => del i g * (h.m i j k * (del j d * F b)) := fun j => funext fun a => ZK.mul_left _ _ _
        have e2 : (fun i => del k i * F b) = fun i => del i k * F b := funext fun i => by rw [del_comm]
        simp only [e1, T_del]
        have e3 : (fun j => h.m g j k * (del j d * F b)) = fun j => del j d * (h.m g j k * F b) := funext fun a => ZK.mul_left _ _ _
        rw [e3, T_del, e2]
        exact (W_del _ _ _).symm
    _ = T n (fun k => h.M k x fun z => h.D z fun b a => h.e a * h.U fun i => del k i * F b) := by
        refine congrArg _ (funext fun k => congrArg _ (funext fun z => ?_))
        rw [o.ca]
        refine congrArg _ (funext fun b => funext fun a => ?_)
        calc _ = h.D a (fun c' c => h.A c fun d' => h.M c' d' fun q => h.A q fun i => del k i * F b) := by simp only [sm o]
          _ = _ := by rw [o.ar, su o]
    _ = T n (fun k => h.u k * h.M k x F) := by
        refine congrArg _ (funext fun k => ?_)
        simp only [o.cr]
        rw [← M_mul]
        refine congrArg _ (funext fun z => ?_)
        have e2 : (fun i => del k i * F z) = fun i => del i k * F z := funext fun i => by rw [del_comm]
        rw [e2]
        exact W_del _ _ _
    _ = h.U (fun k => h.M k x F) := rfl
    _ = F x := o.ul _ _
/-- there is a left integral that is not 0 -/
theorem integral (o : h.Ok) (x : Fin n) (h1 : zp p 1 ≠ zp p 0) : ∃ t : Fin n → Zp p, (∃ k, t k ≠ zp p 0) ∧ ∀ i k, T n (fun j => t j * h.m i j k) = h.e i * t k := by
  have hP : ∀ y F, P h y F = T n fun k => P h y (del k) * F k := fun y F => by
    unfold P
    have e1 : (fun k => T n (fun i => h.M i y fun a => h.D a fun b c => h.A c fun d => h.A d fun g => del i g * del k b) * F k) = fun k => T n fun i => h.M i y fun a => h.D a fun b c => h.A c fun d => h.A d fun g => del i g * (del k b * F k) := funext fun k => by
      rw [ZK.mul_comm]
      simp only [← T_mul, ← M_mul, ← D_mul, ← A_mul]
      simp only [ZK.mul_left (F k), ZK.mul_comm (F k)]
    rw [e1]
    simp only [T_T n, T_M, T_D, T_A, T_mul, T_del]
  by_cases h0 : ∃ y k, P h y (del k) ≠ zp p 0
  · obtain ⟨y, k, hk⟩ := h0
    refine ⟨fun k => P h y (del k), ⟨k, hk⟩, fun i k => ?_⟩
    show _ = h.e i * P h y (del k)
    rw [← P_int o, hP]
    refine congrArg _ (funext fun j => congrArg _ ?_)
    show _ = W (h.m i j) (del k)
    rw [show (del k : Fin n → Zp p) = fun i => del i k * zp p 1 from funext fun i => by rw [del_comm, ZK.mul_one], W_del, ZK.mul_one]
  · exfalso
    have h2 : ∀ y F, P h y F = zp p 0 := fun y F => by
      rw [hP, show (fun k => P h y (del k) * F k) = fun _ => zp p 0 from funext fun k => by
        rw [Classical.not_not.1 fun e => h0 ⟨y, k, e⟩, ZK.zero_mul], T_zero]
    have h3 := P_gen o x fun _ => zp p 1
    rw [show (fun j => h.M j x fun y => P h y fun a => h.D a fun b c => h.A c fun d => del j d * zp p 1) = fun _ => zp p 0 from funext fun j => by
      rw [show (fun y => P h y fun a => h.D a fun b c => h.A c fun d => del j d * zp p 1) = fun y => zp p 0 * zp p 0 from funext fun y => by rw [h2, ZK.mul_zero], M_mul, ZK.zero_mul], T_zero] at h3
    exact h1 h3.symm
end HopfK
namespace ZK
variable {p : Int} {n : Nat}
theorem T_congr {F G : Fin n → Zp p} (e : ∀ i, F i = G i) : T n F = T n G := congrArg _ (funext e)
theorem T3 (X : Fin n → Fin n → Fin n → Zp p) : T n (fun a => T n fun b => T n fun x => X a b x) = T n fun x => T n fun a => T n fun b => X a b x := by
  rw [T_congr fun a => T_T n (fun b x => X a b x), T_T]
theorem T4 (X : Fin n → Fin n → Fin n → Fin n → Zp p) : T n (fun a => T n fun b => T n fun c => T n fun x => X a b c x) = T n fun x => T n fun a => T n fun b => T n fun c => X a b c x := by
  rw [T_congr fun a => T3 (fun b c x => X a b c x), T_T]
theorem T5 (X : Fin n → Fin n → Fin n → Fin n → Fin n → Zp p) : T n (fun a => T n fun b => T n fun c => T n fun d => T n fun x => X a b c d x) = T n fun x => T n fun a => T n fun b => T n fun c => T n fun d => X a b c d x := by
  rw [T_congr fun a => T4 (fun b c d x => X a b c d x), T_T]
theorem W_comp (w : Fin n → Zp p) (v : Fin n → Fin n → Zp p) (F : Fin n → Zp p) : W w (fun a => W (v a) F) = W (fun l => T n fun a => w a * v a l) F := by
  unfold W
  rw [T_congr fun a => (T_mul n (w a) fun k => v a k * F k).symm, T_T]
  refine T_congr fun l => ?_
  rw [ZK.mul_comm, ← T_mul]
  exact T_congr fun a => by rw [← ZK.mul_assoc, ZK.mul_comm]
theorem T_comp (v : Fin n → Fin n → Zp p) (F : Fin n → Zp p) : T n (fun a => W (v a) F) = W (fun l => T n fun a => v a l) F := by
  unfold W
  rw [T_T]
  refine T_congr fun l => ?_
  rw [ZK.mul_comm, ← T_mul]
  exact T_congr fun a => ZK.mul_comm _ _
theorem W_congr {v w F : Fin n → Zp p} (e : ∀ i, v i = w i) : W v F = W w F := congrArg (W · F) (funext e)
theorem W_self (i : Fin n) (F : Fin n → Zp p) : W (fun l => del i l) F = F i := by
  unfold W
  rw [T_congr fun k => show del i k * F k = del k i * F k by rw [del_comm], T_del]
end ZK
namespace HopfK
variable {p : Int} {n : Nat} (h : HopfK p n)
/-- the axioms as equations of numbers -/
structure Con : Prop where
  asc : ∀ i j k l, T n (fun a => h.m i j a * h.m a k l) = T n fun a => h.m j k a * h.m i a l
  ul : ∀ i l, T n (fun a => h.u a * h.m a i l) = del i l
  ur : ∀ i l, T n (fun a => h.u a * h.m i a l) = del i l
  ca : ∀ i j k l, T n (fun a => h.c i a l * h.c a j k) = T n fun a => h.c i j a * h.c a k l
  cl : ∀ i k, T n (fun j => h.e j * h.c i j k) = del i k
  cr : ∀ i j, T n (fun k => h.e k * h.c i j k) = del i j
  bi : ∀ i j x y, T n (fun k => h.m i j k * h.c k x y) = T n fun a => T n fun c => h.m a c x * T n fun b => T n fun d => h.c i a b * h.c j c d * h.m b d y
  bu : ∀ x y, T n (fun k => h.u k * h.c k x y) = h.u x * h.u y
  em : ∀ i j, T n (fun k => h.m i j k * h.e k) = h.e i * h.e j
  eu : T n (fun k => h.u k * h.e k) = zp p 1
  al : ∀ i l, T n (fun j => T n fun k => h.c i j k * T n fun a => h.s j a * h.m a k l) = h.e i * h.u l
  ar : ∀ i l, T n (fun j => T n fun k => h.c i j k * T n fun a => h.s k a * h.m j a l) = h.e i * h.u l
variable {h}
theorem Con.ok (o : h.Con) : h.Ok where
  asc i j k F := by
    show W (h.m i j) (fun a => W (h.m a k) F) = W (h.m j k) fun a => W (h.m i a) F
    rw [W_comp, W_comp]
    exact W_congr fun l => o.asc i j k l
  ul i F := by
    show W h.u (fun a => W (h.m a i) F) = _
    rw [W_comp, W_congr fun l => o.ul i l, W_self]
  ur i F := by
    show W h.u (fun a => W (h.m i a) F) = _
    rw [W_comp, W_congr fun l => o.ur i l, W_self]
  ca i G := by
    have e1 : h.D i (fun a l => h.D a fun j k => G j k l) = T n fun j => T n fun k => T n fun l => (T n fun a => h.c i a l * h.c a j k) * G j k l := by
      unfold D W
      simp only [← T_mul]
      rw [T4 fun a l j k => h.c i a l * (h.c a j k * G j k l), T4 fun k a l j => h.c i a l * (h.c a j k * G j k l)]
      refine T_congr fun j => T_congr fun k => ?_
      rw [T_T]
      refine T_congr fun l => ?_
      rw [ZK.mul_comm, ← T_mul]
      exact T_congr fun a => by rw [← ZK.mul_assoc, ZK.mul_comm]
    have e2 : h.D i (fun j a => h.D a fun k l => G j k l) = T n fun j => T n fun k => T n fun l => (T n fun a => h.c i j a * h.c a k l) * G j k l := by
      unfold D W
      simp only [← T_mul]
      refine T_congr fun j => ?_
      rw [T_T]
      refine T_congr fun k => ?_
      rw [T_T]
      refine T_congr fun l => ?_
      rw [ZK.mul_comm, ← T_mul]
      exact T_congr fun a => by rw [← ZK.mul_assoc, ZK.mul_comm]
    rw [e1, e2]
    exact T_congr fun j => T_congr fun k => T_congr fun l => by rw [o.ca]
  cl i F := by
    unfold D W
    rw [T_T, T_congr fun k => show T n (fun j => h.c i j k * (h.e j * F k)) = del i k * F k by
      rw [← o.cl i k, ZK.mul_comm, ← T_mul]
      exact T_congr fun j => by rw [← ZK.mul_assoc, ZK.mul_comm, ZK.mul_comm (h.e j)]]
    exact W_self i F
  cr i F := by
    unfold D W
    rw [T_congr fun j => show T n (fun k => h.c i j k * (h.e k * F j)) = del i j * F j by
      rw [← o.cr i j, ZK.mul_comm, ← T_mul]
      exact T_congr fun k => by rw [← ZK.mul_assoc, ZK.mul_comm, ZK.mul_comm (h.e k)]]
    exact W_self i F
  bi i j G := by
    have e1 : h.M i j (fun k => h.D k G) = T n fun x => T n fun y => (T n fun k => h.m i j k * h.c k x y) * G x y := by
      unfold M D W
      simp only [← T_mul]
      rw [T_T]
      refine T_congr fun x => ?_
      rw [T_T]
      refine T_congr fun y => ?_
      rw [ZK.mul_comm, ← T_mul]
      exact T_congr fun a => by rw [← ZK.mul_assoc, ZK.mul_comm]
    have e2 : h.D i (fun a b => h.D j fun c d => h.M a c fun x => h.M b d fun y => G x y) = T n fun x => T n fun y => (T n fun a => T n fun c => h.m a c x * T n fun b => T n fun d => h.c i a b * h.c j c d * h.m b d y) * G x y := by
      unfold M D W
      simp only [← T_mul]
      rw [T5 fun a b c d x => T n fun y => h.c i a b * (h.c j c d * (h.m a c x * (h.m b d y * G x y)))]
      refine T_congr fun x => ?_
      rw [T5 fun a b c d y => h.c i a b * (h.c j c d * (h.m a c x * (h.m b d y * G x y)))]
      refine T_congr fun y => ?_
      rw [ZK.mul_comm, ← T_mul]
      refine T_congr fun a => ?_
      rw [T_T, ← T_mul]
      refine T_congr fun c => ?_
      rw [← T_mul]
      refine T_congr fun b => ?_
      rw [← T_mul]
      refine T_congr fun d => ?_
      have e : ∀ x1 x2 x3 x4 x5 : Zp p, x1 * (x2 * (x3 * (x4 * x5))) = x5 * (x3 * (x1 * x2 * x4)) := fun x1 x2 x3 x4 x5 => by
        rw [ZK.mul_comm x4 x5, ZK.mul_left x3 x5, ZK.mul_left x2 x5, ZK.mul_left x1 x5, ZK.mul_left x2 x3, ZK.mul_left x1 x3, ZK.mul_assoc x1]
      exact e _ _ _ _ _
    rw [e1, e2]
    exact T_congr fun x => T_congr fun y => by rw [o.bi]
  bu G := by
    have e1 : h.U (fun k => h.D k G) = T n fun x => T n fun y => (T n fun k => h.u k * h.c k x y) * G x y := by
      unfold U D W
      simp only [← T_mul]
      rw [T_T]
      refine T_congr fun x => ?_
      rw [T_T]
      refine T_congr fun y => ?_
      rw [ZK.mul_comm, ← T_mul]
      exact T_congr fun a => by rw [← ZK.mul_assoc, ZK.mul_comm]
    rw [e1]
    unfold U W
    simp only [← T_mul]
    exact T_congr fun x => T_congr fun y => by rw [o.bu, ZK.mul_assoc]
  em := o.em
  eu := o.eu
  al i F := by
    show T n (fun j => W (h.c i j) fun k => W (h.s j) fun a => W (h.m a k) F) = _
    simp only [W_comp, T_comp]
    rw [W_congr fun l => o.al i l]
    exact (T_congr fun l => ZK.mul_assoc _ _ _).trans (T_mul _ _ _)
  ar i F := by
    show T n (fun j => W (h.c i j) fun k => W (h.s k) fun a => W (h.m j a) F) = _
    simp only [W_comp, T_comp]
    rw [W_congr fun l => o.ar i l]
    exact (T_congr fun l => ZK.mul_assoc _ _ _).trans (T_mul _ _ _)
variable (h)
/-- products and coproducts in the other order -/
def opc : HopfK p n := ⟨fun i j => h.m j i, h.u, fun i j k => h.c i k j, h.e, h.s⟩
/-- the dual -/
def dual : HopfK p n := ⟨fun i j k => h.c k i j, h.e, fun i j k => h.m j k i, h.u, fun i j => h.s j i⟩
variable {h}
theorem Con.opc (o : h.Con) : h.opc.Con where
  asc i j k l := (o.asc k j i l).symm
  ul i l := o.ur i l
  ur i l := o.ul i l
  ca i j k l := (o.ca i l k j).symm
  cl i k := o.cr i k
  cr i j := o.cl i j
  bi i j x y := by
    refine (o.bi j i y x).trans ?_
    show T n (fun a => T n fun c => h.m a c y * T n fun b => T n fun d => h.c j a b * h.c i c d * h.m b d x) = T n fun a => T n fun c => h.m c a x * T n fun b => T n fun d => h.c i b a * h.c j d c * h.m d b y
    simp only [← T_mul]
    rw [T4 fun a c b d => h.m a c y * (h.c j a b * h.c i c d * h.m b d x)]
    refine T_congr fun d => ?_
    rw [T3 fun a c b => h.m a c y * (h.c j a b * h.c i c d * h.m b d x)]
    refine T_congr fun b => ?_
    rw [T_T]
    refine T_congr fun c => T_congr fun a => ?_
    rw [ZK.mul_comm (h.m a c y), ZK.mul_comm (h.c j a b), ZK.mul_comm _ (h.m b d x), ZK.mul_assoc]
  bu x y := (o.bu y x).trans (ZK.mul_comm _ _)
  em i j := (o.em j i).trans (ZK.mul_comm _ _)
  eu := o.eu
  al i l := by
    refine Eq.trans ?_ (o.ar i l)
    exact T_T n fun j k => h.c i k j * T n fun a => h.s j a * h.m k a l
  ar i l := by
    refine Eq.trans ?_ (o.al i l)
    exact T_T n fun j k => h.c i k j * T n fun a => h.s k a * h.m a j l
theorem Con.dual (o : h.Con) : h.dual.Con where
  asc i j k l := by
    refine Eq.trans ?_ ((o.ca l i j k).trans ?_)
    · exact T_congr fun a => ZK.mul_comm _ _
    · exact T_congr fun a => ZK.mul_comm _ _
  ul i l := (o.cl l i).trans (del_comm _ _)
  ur i l := (o.cr l i).trans (del_comm _ _)
  ca i j k l := by
    refine Eq.trans ?_ ((o.asc j k l i).trans ?_)
    · exact T_congr fun a => ZK.mul_comm _ _
    · exact T_congr fun a => ZK.mul_comm _ _
  cl i k := (o.ul k i).trans (del_comm _ _)
  cr i k := (o.ur k i).trans (del_comm _ _)
  bi i j x y := by
    refine Eq.trans (T_congr fun a => ZK.mul_comm _ _) ((o.bi x y i j).trans ?_)
    show T n (fun a => T n fun c => h.m a c i * T n fun b => T n fun d => h.c x a b * h.c y c d * h.m b d j) = T n fun a => T n fun c => h.c x a c * T n fun b => T n fun d => h.m a b i * h.m c d j * h.c y b d
    simp only [← T_mul]
    refine T_congr fun a => ?_
    rw [T_T]
    refine T_congr fun b => T_congr fun c => T_congr fun d => ?_
    rw [ZK.mul_assoc, ZK.mul_assoc, ZK.mul_comm (h.c y c d), ZK.mul_left (h.m a c i)]
  bu x y := (T_congr fun a => ZK.mul_comm _ _).trans (o.em x y)
  em i j := (T_congr fun a => ZK.mul_comm _ _).trans (o.bu i j)
  eu := (T_congr fun a => ZK.mul_comm _ _).trans o.eu
  al i l := by
    refine Eq.trans ?_ ((o.al l i).trans (ZK.mul_comm _ _))
    show T n (fun j => T n fun k => h.m j k i * T n fun a => h.s a j * h.c l a k) = T n fun j => T n fun k => h.c l j k * T n fun a => h.s j a * h.m a k i
    simp only [← T_mul]
    rw [T3 fun j k a => h.m j k i * (h.s a j * h.c l a k)]
    refine T_congr fun a => ?_
    rw [T_T]
    refine T_congr fun k => T_congr fun j => ?_
    rw [ZK.mul_comm, ZK.mul_comm (h.s a j), ZK.mul_assoc]
  ar i l := by
    refine Eq.trans ?_ ((o.ar l i).trans (ZK.mul_comm _ _))
    show T n (fun j => T n fun k => h.m j k i * T n fun a => h.s a k * h.c l j a) = T n fun j => T n fun k => h.c l j k * T n fun a => h.s k a * h.m j a i
    simp only [← T_mul]
    refine T_congr fun j => ?_
    rw [T_T]
    refine T_congr fun k => T_congr fun a => ?_
    rw [ZK.mul_comm, ZK.mul_comm (h.s k a), ZK.mul_assoc]
end HopfK
end Go.Proofs.YtjpdpnplnelgcaaGreat
