/- A statement whose order Go leaves open, whose first n operations hand back one value in every world of a class and keep the class, and whose last operations follow in a forced order: one walk serves every order. Over any program. A statement whose order Go leaves open, in which a variable is made at any time before it is stored into: one walk serves every order. An operation under no guard, in a quiet walk: taken without a look at the guard (q_skip's 'by rfl' took 120 s in one region). A region in which the taking apart of a tuple may pass a later store (gc: late stores): it may be walked as if the store waited for it. A statement whose order Go leaves open, in which several variables are made at any time before they are stored into: one walk serves every order. -/
import Derived.Test.YtjmmmggnbndolaaGreatRows
import Derived.WalkKit
import Derived.Deep.Quiet
import Derived.Deep.QuietTactic
import Derived.StillTail
import Derived.Test.YtjmmmggnbndolaaGreatBase
namespace Go.Proofs.YtjmmmggnbndolaaGreat
section
open Go

section
variable {P : Program} {ops : Array Oper} {md : Region.Mode} {C : World → Prop}

/-- the head of such a region, whatever order is picked: f operations more, all before number n; then L -/
def headQ (P : Program) (md : Region.Mode) (ops : Array Oper) (C : World → Prop) (n : Nat) (L : Array Bool → Act → Prop) : Nat → Array Bool → Act → Prop
  | 0, lst, a => L lst a
  | f + 1, lst, a => Region.ready md ops lst ≠ [] ∧ ∀ i, i ∈ Region.ready md ops lst → i < n ∧ qOp P ops C i (headQ P md ops C n L f (lst.setIfInBounds i true)) a

theorem any_of_headQ {n g : Nat} {L : Array Bool → Act → Prop} {R : Exit → Act → World → Prop} (hL : ∀ lst a w, C w → L lst a → wpAny P md ops R g lst a w) (f : Nat) :
    ∀ (lst : Array Bool) (a : Act) (w : World), C w → headQ P md ops C n L f lst a → wpAny P md ops R (f + g) lst a w := by
  induction f with
  | zero => intro lst a w hw h; rw [Nat.zero_add]; exact hL lst a w hw h
  | succ f ih =>
    intro lst a w hw h
    have e : f + 1 + g = (f + g) + 1 := by omega
    rw [e]
    refine ⟨fun h0 => (h.1 h0).elim, fun i hi => ?_⟩
    exact wpOp_of_qOp hw (fun a' w' hw' h' => ih _ a' w' hw' h') (h.2 i hi).2

theorem headQ_first {n i : Nat} {o : Oper} {v : Value} {L : Array Bool → Act → Prop} (hi : ops[i]? = some o) (hsel : ∀ (j : Nat) (o : Oper) cs b, ops[j]? = some o → o.op ≠ .select cs b)
    (hs : Region.sinkB md ops n = true) (hc : Region.chainB md ops n = true) (hn : n < ops.size) (hin : i < n) (hdone : ∀ lst a, L lst a → ∀ j, j ∈ Region.ready md ops lst → n ≤ j) (f : Nat) :
    ∀ (lst : Array Bool) (a : Act), HeadInv md ops n lst →
      (∀ j oj, ops[j]? = some oj → j ≠ i → lst.getD j true = false → (∀ e ∈ oj.after, Region.binds md e = true → e.on ≠ i) → o.apart ops oj = true) →
      i ∈ Region.ready md ops lst → YieldsIn P ops C o v a → headQ P md ops C n L f (lst.setIfInBounds i true) (a.put o.dst v) → headQ P md ops C n L (f + 1) lst a := by
  have below : ∀ (lst : Array Bool), HeadInv md ops n lst → lst.getD i true = false → ∀ j, j ∈ Region.ready md ops lst → j < n := fun lst inv hun j hj =>
    (Nat.lt_or_ge j n).resolve_right fun h => tail_waits hs hc hn inv _ i rfl hin hun j h hj
  induction f with
  | zero =>
    intro lst a inv _ hr hy H
    have hun := (mem_ready.1 hr).1
    refine ⟨List.ne_nil_of_mem hr, fun j hj => ⟨below lst inv hun j hj, ?_⟩⟩
    by_cases e : j = i
    · subst e; exact hy.qOp hi H
    · exact absurd (hdone _ _ H j (ready_mono hj e)) (by have := below lst inv hun j hj; omega)
  | succ f ih =>
    intro lst a inv hfree hr hy H
    have hun := (mem_ready.1 hr).1
    refine ⟨List.ne_nil_of_mem hr, fun j hj => ⟨below lst inv hun j hj, ?_⟩⟩
    by_cases e : j = i
    · subst e; exact hy.qOp hi H
    · have hjn := below lst inv hun j hj
      have hq := (H.2 j (ready_mono hj e)).2
      obtain ⟨hjun, oj, hoj, hall⟩ := mem_ready.1 hj
      have hnot : ∀ x ∈ oj.after, Region.binds md x = true → x.on ≠ i := by
        intro x hx hb hxi
        have := hall x hx hb
        rw [hxi, getD_both hun] at this
        cases this
      have h2 := qOp_put hoj (hfree j oj hoj e hjun hnot) (fun cs b => hsel i o cs b hi) (fun cs b => hsel j oj cs b hoj) hy hq
      have hfree' : ∀ k ok, ops[k]? = some ok → k ≠ i → (lst.setIfInBounds j true).getD k true = false → (∀ x ∈ ok.after, Region.binds md x = true → x.on ≠ i) → o.apart ops ok = true := by
        intro k ok hk hki hun' hno
        refine hfree k ok hk hki ?_ hno
        by_cases hjk : j = k
        · subst hjk; exact hjun
        · rw [getD_set_ne true hjk] at hun'; exact hun'
      refine qOp_mono (fun a' h3 => ?_) h2
      refine ih _ a' (inv.set hj hjn) hfree' (ready_mono hr (Ne.symm e)) h3.1 ?_
      rw [Array.setIfInBounds_comm _ _ e]
      exact h3.2

theorem headQ_lex {n g : Nat} {Z : Act → Prop} (hsel : Region.noSelect ops = true) (hs : Region.sinkB md ops n = true) (hc : Region.chainB md ops n = true) (hn : n < ops.size) :
    ∀ (l : List Oper) (k : Nat) (lst : Array Bool) (a : Act), (∀ j, j < l.length → l[j]? = ops[k + j]?) → k + l.length = n → HeadInv md ops n lst → Region.lexHead md ops g l.length k lst = true →
      wpQuiet P ops C Z l a → headQ P md ops C n (fun lst' a' => Region.seqB md ops g n lst' = true ∧ Z a') l.length lst a := by
  intro l
  induction l with
  | nil =>
    intro k lst a _ hk _ hB h
    have e : k = n := by simpa using hk
    subst e
    exact ⟨hB, h⟩
  | cons o l ih =>
    intro k lst a hl hk inv hB h
    have h0 : ops[k]? = some o := by simpa using (hl 0 (by simp)).symm
    have hkn : k < n := by simp only [List.length_cons] at hk; omega
    simp only [List.length_cons, Region.lexHead, Bool.and_eq_true] at hB
    have hr : k ∈ Region.ready md ops lst := by simpa using hB.1.1
    have hst : qOp P ops C k (wpQuiet P ops C Z l) a := by unfold qOp; simp only [h0]; exact h
    obtain ⟨v, hy, hK⟩ := yieldsIn_of_qOp h0 hst
    refine headQ_first h0 (Region.noSelect_spec hsel) hs hc hn hkn (fun _ _ hL => seqB_ready hL.1) l.length lst a inv (Region.free_spec h0 hB.1.2) hr hy ?_
    refine ih (k + 1) _ _ (fun j hj => ?_) (by simp only [List.length_cons] at hk; omega) (inv.set hr hkn) hB.2 hK
    have := hl (j + 1) (by simp; omega)
    rw [show k + 1 + j = k + (j + 1) by omega, ← this]
    simp

/-- ONE WALK SERVES EVERY ORDER: the first n operations quiet in the class, the rest in their own order, in any world of the class. -/
theorem wp_quiet_tail {id : Nat} {R : Exit → Act → World → Prop} {a : Act} {w : World} {l : List Oper} (n : Nat) (C : World → Prop) (hm : P.follows .mixedOrders = true) (hB : Region.lexTailB .any l.toArray n = true) (hC : C w.drew)
    (h : wpQuiet P l.toArray C (fun a' => ∀ w', C w' → wpList P l.toArray R (l.drop n) a' w') (l.take n) a) : (Code.region id l.toArray true).wp P R a w := by
  simp only [Region.lexTailB, Bool.and_eq_true, decide_eq_true_eq] at hB
  obtain ⟨⟨⟨⟨hsel, hn⟩, hs⟩, hc⟩, hlex⟩ := hB
  have hn' : n < l.length := by simpa using hn
  have ht : (l.take n).length = n := by simp; omega
  have hd : (l.drop n).length = l.toArray.size - n := by simp
  have inv : HeadInv .any l.toArray n (Array.replicate l.toArray.size false) :=
    ⟨by simp, fun j _ _ hl => (by rw [getD_replicate_false] at hl; cases hl), fun t _ h1 => getD_in (by simpa using h1) (getD_replicate_false _ _)⟩
  have H := headQ_lex (P := P) (C := C) (md := .any) (g := l.toArray.size - n) hsel hs hc hn (l.take n) 0 _ a (fun j hj => by
    have hj' : j < n := by rw [ht] at hj; exact hj
    simp [hj']) (by simpa using ht) inv (by rw [ht]; exact hlex) h
  refine wp_region_any hm ?_
  have := any_of_headQ (R := R) (g := l.toArray.size - n) (fun lst a' w' hw' hL => by
    have := wpAny_of_seq (md := .any) (Q' := R) (l.drop n) n lst a' w' (fun j => by simp [List.getElem?_drop]) (by rw [hd]; exact hL.1) (hL.2 w' hw')
    rwa [hd] at this) _ _ a _ hC H
  rw [ht, show n + (l.toArray.size - n) = l.toArray.size by omega] at this
  exact this

/-- the same without a tail -/
theorem wp_quiet_all {id : Nat} {R : Exit → Act → World → Prop} {a : Act} {w : World} {l : List Oper} (C : World → Prop) (hm : P.follows .mixedOrders = true) (hB : Region.lexB .any l.toArray = true) (hC : C w.drew)
    (h : wpQuiet P l.toArray C (fun a' => ∀ w', C w' → R .normal a' w') l a) : (Code.region id l.toArray true).wp P R a w :=
  wp_region_quiet (C := C) hm hB hC (by simpa using h)

variable {Z : Act → Prop} {a : Act} {o : Oper} {rest : List Oper}
theorem q_want (hw : Region.wanted o (yielded ops a.tmps) = true) (h : ∃ v, (∀ w, C w → o.quietAt P a C w v) ∧ wpQuiet P ops C Z rest (a.put o.dst v)) : wpQuiet P ops C Z (o :: rest) a := by
  unfold wpQuiet
  rw [if_pos hw]
  exact h
theorem q_skip (hw : Region.wanted o (yielded ops a.tmps) = false) (h : wpQuiet P ops C Z rest (a.put o.dst undef)) : wpQuiet P ops C Z (o :: rest) a := by
  unfold wpQuiet
  rw [if_neg (by rw [hw]; exact Bool.false_ne_true)]
  exact h
/-- a call that hands back v and keeps the class -/
theorem q_call {f : FuncId} {args : Array Value} {w : World} {v : Value} (hr : (execOp a.eval o).run P w = .ok (.enter f args) w) (hc : Calls P f args w fun e w' => e = .returned v ∧ C w') : o.quietAt P a C w v := by
  unfold Oper.quietAt
  rw [hr]
  exact ⟨rfl, hc⟩
end
end
section
open Go Go.RowKit
set_option linter.unusedSimpArgs false
set_option linter.unusedVariables false

section
variable {P : Program} {ops : Array Oper} {md : Region.Mode}

/-- a class that more new blocks do not leave -/
def Closed (D : World → Prop) : Prop := ∀ w w', D w → Below w.heap.size w w' → D w'
/-- in every closed class within C, operation o hands back v and keeps the class -/
def QuietE (P : Program) (C : World → Prop) (o : Oper) (a : Act) (v : Value) : Prop := ∀ D : World → Prop, (∀ w, D w → C w) → Closed D → ∀ w, D w → o.quietAt P a D w v
/-- the walk in the text's order -/
def wpQE (P : Program) (ops : Array Oper) (C : World → Prop) (Z : Act → Prop) : List Oper → Act → Prop
  | [], a => Z a
  | o :: rest, a => if Region.wanted o (yielded ops a.tmps) then ∃ v, QuietE P C o a v ∧ wpQE P ops C Z rest (a.put o.dst v) else wpQE P ops C Z rest (a.put o.dst undef)
def YieldsE (P : Program) (ops : Array Oper) (C : World → Prop) (o : Oper) (v : Value) (a : Act) : Prop :=
  (Region.wanted o (yielded ops a.tmps) = true ∧ QuietE P C o a v) ∨ (Region.wanted o (yielded ops a.tmps) = false ∧ v = undef)
theorem YieldsE.at {C D : World → Prop} {o : Oper} {v : Value} {a : Act} (h : YieldsE P ops C o v a) (hs : ∀ w, D w → C w) (hc : Closed D) : YieldsIn P ops D o v a := by
  rcases h with ⟨h1, h2⟩ | h
  · exact .inl ⟨h1, fun w hw => h2 D hs hc w hw⟩
  · exact .inr h
theorem YieldsE.put {C : World → Prop} {oi oj : Oper} {v u : Value} {a : Act} (hap : oi.apart ops oj = true) (hsi : ∀ cs b, oi.op ≠ .select cs b) (h : YieldsE P ops C oi v a) : YieldsE P ops C oi v (a.put oj.dst u) := by
  obtain ⟨_, _, h3⟩ := Oper.apart_spec hap
  unfold YieldsE QuietE Oper.quietAt at *
  rw [execOp_put oi hsi a oj.dst u h3, wanted_put oi a oj.dst u h3]
  exact h

/-- before the variable is made: f operations more, and its making at any time -/
def headA (P : Program) (md : Region.Mode) (ops : Array Oper) (C0 : World → Prop) (C1 : Nat → World → Prop) (n : Nat) (d : Option Tmp) (L : Nat → Array Bool → Act → Prop) : Nat → Array Bool → Act → Prop
  | 0, lst, a => Region.ready md ops lst ≠ [] ∧ ∀ i, i ∈ Region.ready md ops lst → i = n ∧ ∀ b, L b (lst.setIfInBounds n true) (a.put d (.pointer (some ⟨b, 0, none⟩)))
  | f + 1, lst, a => Region.ready md ops lst ≠ [] ∧ ∀ i, i ∈ Region.ready md ops lst →
      (i < n ∧ qOp P ops C0 i (headA P md ops C0 C1 n d L f (lst.setIfInBounds i true)) a) ∨
      (i = n ∧ ∀ b, headQ P md ops (C1 b) (n + 1) (L b) (f + 1) (lst.setIfInBounds n true) (a.put d (.pointer (some ⟨b, 0, none⟩))))

theorem any_of_headA {C0 : World → Prop} {C1 : Nat → World → Prop} {n g : Nat} {oa : Oper} {o : Obj} {L : Nat → Array Bool → Act → Prop} {R : Exit → Act → World → Prop} (ha : ops[n]? = some oa) (hg : oa.guard = none)
    (hrun : ∀ (a : Act) w, (execOp a.eval oa).run P w = .ok (.value (.pointer (some ⟨w.heap.size, 0, none⟩))) (w.alloc o)) (hC : ∀ w, C0 w → C1 w.heap.size (w.alloc o))
    (hL : ∀ b lst a w, C1 b w → L b lst a → wpAny P md ops R g lst a w) (f : Nat) :
    ∀ (lst : Array Bool) (a : Act) (w : World), C0 w → headA P md ops C0 C1 n oa.dst L f lst a → wpAny P md ops R (f + 1 + g) lst a w := by
  have step : ∀ (k : Nat) (lst : Array Bool) (a : Act) (w : World), C0 w → (∀ b w, C1 b w → wpAny P md ops R k lst (a.put oa.dst (.pointer (some ⟨b, 0, none⟩))) w) →
      wpOp P ops R n (wpAny P md ops R k lst) a w := by
    intro k lst a w hw h
    unfold wpOp
    simp only [ha]
    rw [if_pos (by simp [Region.wanted, hg])]
    refine .inl ?_
    unfold Oper.wp
    rw [hrun a w]
    exact h _ _ (hC w hw)
  induction f with
  | zero =>
    intro lst a w hw h
    rw [show 0 + 1 + g = g + 1 by omega]
    refine ⟨fun h0 => (h.1 h0).elim, fun i hi => ?_⟩
    obtain ⟨rfl, h2⟩ := h.2 i hi
    exact step g _ a w hw fun b w' hw' => hL b _ _ w' hw' (h2 b)
  | succ f ih =>
    intro lst a w hw h
    rw [show f + 1 + 1 + g = (f + 1 + g) + 1 by omega]
    refine ⟨fun h0 => (h.1 h0).elim, fun i hi => ?_⟩
    rcases h.2 i hi with ⟨_, h2⟩ | ⟨rfl, h2⟩
    · exact wpOp_of_qOp hw (fun a' w' hw' h' => ih _ a' w' hw' h') h2
    · exact step (f + 1 + g) _ a w hw fun b w' hw' => any_of_headQ (fun lst a w => hL b lst a w) (f + 1) _ _ w' hw' (h2 b)

theorem headA_first {C0 : World → Prop} {C1 : Nat → World → Prop} {n i : Nat} {oi oa : Oper} {v : Value} {L : Nat → Array Bool → Act → Prop} (ha : ops[n]? = some oa) (hi : ops[i]? = some oi) (hsel : ∀ (j : Nat) (o : Oper) cs b, ops[j]? = some o → o.op ≠ .select cs b)
    (hs : Region.sinkB md ops (n + 1) = true) (hc : Region.chainB md ops (n + 1) = true) (hn : n + 1 < ops.size) (hin : i < n) (hdone : ∀ b lst a, L b lst a → ∀ j, j ∈ Region.ready md ops lst → n + 1 ≤ j)
    (k0 : Closed C0) (k1 : ∀ b, Closed (C1 b)) (hsub : ∀ b w, C1 b w → C0 w) (f : Nat) :
    ∀ (lst : Array Bool) (a : Act), HeadInv md ops (n + 1) lst →
      (∀ j oj, ops[j]? = some oj → j ≠ i → lst.getD j true = false → (∀ e ∈ oj.after, Region.binds md e = true → e.on ≠ i) → oi.apart ops oj = true) →
      i ∈ Region.ready md ops lst → YieldsE P ops C0 oi v a → headA P md ops C0 C1 n oa.dst L f (lst.setIfInBounds i true) (a.put oi.dst v) → headA P md ops C0 C1 n oa.dst L (f + 1) lst a := by
  have notI : ∀ (lst : Array Bool) j oj, i ∈ Region.ready md ops lst → ops[j]? = some oj → j ∈ Region.ready md ops lst → ∀ x ∈ oj.after, Region.binds md x = true → x.on ≠ i := by
    intro lst j oj hr hoj hj x hx hb hxi
    obtain ⟨_, oj', hoj', hall⟩ := mem_ready.1 hj
    rw [hoj] at hoj'
    cases hoj'
    have := hall x hx hb
    rw [hxi, getD_both (mem_ready.1 hr).1] at this
    cases this
  have free' : ∀ (lst : Array Bool) j, (∀ k ok, ops[k]? = some ok → k ≠ i → lst.getD k true = false → (∀ e ∈ ok.after, Region.binds md e = true → e.on ≠ i) → oi.apart ops ok = true) → lst.getD j true = false →
      ∀ k ok, ops[k]? = some ok → k ≠ i → (lst.setIfInBounds j true).getD k true = false → (∀ e ∈ ok.after, Region.binds md e = true → e.on ≠ i) → oi.apart ops ok = true := by
    intro lst j hfree hjun k ok hk hki hun hno
    refine hfree k ok hk hki ?_ hno
    by_cases hjk : j = k
    · subst hjk; exact hjun
    · rw [getD_set_ne true hjk] at hun; exact hun
  -- the making comes up: from there on by the walk behind it
  have made : ∀ (m : Nat) (lst : Array Bool) (a : Act), HeadInv md ops (n + 1) lst →
      (∀ j oj, ops[j]? = some oj → j ≠ i → lst.getD j true = false → (∀ e ∈ oj.after, Region.binds md e = true → e.on ≠ i) → oi.apart ops oj = true) →
      i ∈ Region.ready md ops lst → n ∈ Region.ready md ops lst → YieldsE P ops C0 oi v a → ∀ b, headQ P md ops (C1 b) (n + 1) (L b) m ((lst.setIfInBounds i true).setIfInBounds n true) ((a.put oi.dst v).put oa.dst (.pointer (some ⟨b, 0, none⟩))) →
      headQ P md ops (C1 b) (n + 1) (L b) (m + 1) (lst.setIfInBounds n true) (a.put oa.dst (.pointer (some ⟨b, 0, none⟩))) := by
    intro m lst a inv hfree hr hna hy b H
    have hni : n ≠ i := by omega
    have hnun := (mem_ready.1 hna).1
    have hap := hfree n oa ha hni hnun (notI lst n oa hr ha hna)
    obtain ⟨_, h2, _⟩ := Oper.apart_spec hap
    have hy' : YieldsIn P ops (C1 b) oi v (a.put oa.dst (.pointer (some ⟨b, 0, none⟩))) := (hy.put hap (fun cs b => hsel i oi cs b hi)).at (fun w hw => hsub b w hw) (k1 b)
    refine headQ_first hi hsel hs hc hn (by omega) (fun lst a hL => hdone b lst a hL) m _ _ (inv.set hna (by omega)) (free' lst n hfree hnun) (ready_mono hr (Ne.symm hni)) hy' ?_
    rw [Array.setIfInBounds_comm _ _ hni, ← Act.put_comm a v _ h2]
    exact H
  have below : ∀ (lst : Array Bool), HeadInv md ops (n + 1) lst → lst.getD i true = false → ∀ j, j ∈ Region.ready md ops lst → j < n + 1 := fun lst inv hun j hj =>
    (Nat.lt_or_ge j (n + 1)).resolve_right fun h => tail_waits hs hc hn inv _ i rfl (by omega) hun j h hj
  induction f with
  | zero =>
    intro lst a inv hfree hr hy H
    refine ⟨List.ne_nil_of_mem hr, fun j hj => ?_⟩
    by_cases e : j = i
    · subst e; exact .inl ⟨hin, (hy.at (fun _ h => h) k0).qOp hi H⟩
    · obtain ⟨rfl, h2⟩ := H.2 j (ready_mono hj e)
      exact .inr ⟨rfl, fun b => made 0 lst a inv hfree hr hj hy b (h2 b)⟩
  | succ f ih =>
    intro lst a inv hfree hr hy H
    refine ⟨List.ne_nil_of_mem hr, fun j hj => ?_⟩
    by_cases e : j = i
    · subst e; exact .inl ⟨hin, (hy.at (fun _ h => h) k0).qOp hi H⟩
    · obtain ⟨hjun, oj, hoj, hall⟩ := mem_ready.1 hj
      rcases H.2 j (ready_mono hj e) with ⟨hjn, h2⟩ | ⟨rfl, h2⟩
      · have hap := hfree j oj hoj e hjun (notI lst j oj hr hoj hj)
        have h3 := qOp_put hoj hap (fun cs b => hsel i oi cs b hi) (fun cs b => hsel j oj cs b hoj) (hy.at (fun _ h => h) k0) h2
        refine .inl ⟨hjn, ?_⟩
        -- what 'oi' yields does not hang on what 'oj' leaves
        unfold qOp at h3 ⊢
        simp only [hoj] at h3 ⊢
        have fin : ∀ u, headA P md ops C0 C1 n oa.dst L f ((lst.setIfInBounds i true).setIfInBounds j true) ((a.put oj.dst u).put oi.dst v) → headA P md ops C0 C1 n oa.dst L (f + 1) (lst.setIfInBounds j true) (a.put oj.dst u) := fun u h4 => by
          refine ih _ _ (inv.set hj (by omega)) (free' lst j hfree hjun) (ready_mono hr (Ne.symm e)) (hy.put hap (fun cs b => hsel i oi cs b hi)) ?_
          rw [Array.setIfInBounds_comm _ _ e]
          exact h4
        split
        · rename_i hw
          simp only [hw, if_true] at h3
          obtain ⟨u, hu, h4⟩ := h3
          exact ⟨u, hu, fin u h4.2⟩
        · rename_i hw
          simp only [hw] at h3
          exact fin undef h3.2
      · exact .inr ⟨rfl, fun b => made (f + 1) lst a inv hfree hr hj hy b (h2 b)⟩

/-- the checks on such a region: n operations in the text's order, the making, the rest in a forced order -/
def allocB (md : Region.Mode) (ops : Array Oper) (n : Nat) : Bool :=
  Region.noSelect ops && decide (n + 1 < ops.size) && Region.sinkB md ops (n + 1) && Region.chainB md ops (n + 1) && Region.lexHead md ops (ops.size - n) n 0 (Array.replicate ops.size false)

theorem headA_lex {C0 : World → Prop} {C1 : Nat → World → Prop} {n g : Nat} {oa : Oper} {Z : Act → Prop} (ha : ops[n]? = some oa) (hsel : Region.noSelect ops = true) (hs : Region.sinkB md ops (n + 1) = true) (hc : Region.chainB md ops (n + 1) = true) (hn : n + 1 < ops.size)
    (k0 : Closed C0) (k1 : ∀ b, Closed (C1 b)) (hsub : ∀ b w, C1 b w → C0 w) (W : Nat → Act → Prop) (hZ : ∀ a, Z a → ∀ b, W b (a.put oa.dst (.pointer (some ⟨b, 0, none⟩)))) :
    ∀ (l : List Oper) (k : Nat) (lst : Array Bool) (a : Act), (∀ j, j < l.length → l[j]? = ops[k + j]?) → k + l.length = n → HeadInv md ops (n + 1) lst → Region.lexHead md ops (g + 1) l.length k lst = true →
      wpQE P ops C0 Z l a → headA P md ops C0 C1 n oa.dst (fun b lst' a' => Region.seqB md ops g (n + 1) lst' = true ∧ W b a') l.length lst a := by
  intro l
  induction l with
  | nil =>
    intro k lst a _ hk _ hB h
    have e : k = n := by simpa using hk
    subst e
    simp only [List.length_nil, Region.lexHead, Region.seqB, Bool.and_eq_true, decide_eq_true_eq] at hB
    refine ⟨by rw [hB.1]; simp, fun i hi => ?_⟩
    rw [hB.1] at hi
    obtain rfl : i = k := by simpa using hi
    exact ⟨rfl, fun b => ⟨hB.2, hZ a h b⟩⟩
  | cons o l ih =>
    intro k lst a hl hk inv hB h
    have h0 : ops[k]? = some o := by simpa using (hl 0 (by simp)).symm
    have hkn : k < n := by simp only [List.length_cons] at hk; omega
    simp only [List.length_cons, Region.lexHead, Bool.and_eq_true] at hB
    have hr : k ∈ Region.ready md ops lst := by simpa using hB.1.1
    have hy : ∃ v, YieldsE P ops C0 o v a ∧ wpQE P ops C0 Z l (a.put o.dst v) := by
      unfold wpQE at h
      by_cases hw : Region.wanted o (yielded ops a.tmps) = true
      · rw [if_pos hw] at h
        obtain ⟨v, h1, h2⟩ := h
        exact ⟨v, .inl ⟨hw, h1⟩, h2⟩
      · rw [if_neg hw] at h
        exact ⟨undef, .inr ⟨by simpa using hw, rfl⟩, h⟩
    obtain ⟨v, hy1, hK⟩ := hy
    refine headA_first ha h0 (Region.noSelect_spec hsel) hs hc hn hkn (fun _ _ _ hL => seqB_ready hL.1) k0 k1 hsub l.length lst a inv (Region.free_spec h0 hB.1.2) hr hy1 ?_
    refine ih (k + 1) _ _ (fun j hj => ?_) (by simp only [List.length_cons] at hk; omega) (inv.set hr (by omega)) hB.2 hK
    have := hl (j + 1) (by simp; omega)
    rw [show k + 1 + j = k + (j + 1) by omega, ← this]
    simp

theorem wp_quiet_alloc {id : Nat} {R : Exit → Act → World → Prop} {a : Act} {w : World} {l : List Oper} (n : Nat) (oa : Oper) (o : Obj) (C0 : World → Prop) (C1 : Nat → World → Prop) (hm : P.follows .mixedOrders = true) (ha : l[n]? = some oa) (hg : oa.guard = none)
    (hB : allocB .any l.toArray n = true) (hrun : ∀ (a : Act) w, (execOp a.eval oa).run P w = .ok (.value (.pointer (some ⟨w.heap.size, 0, none⟩))) (w.alloc o))
    (k0 : Closed C0) (k1 : ∀ b, Closed (C1 b)) (hsub : ∀ b w, C1 b w → C0 w) (hC1 : ∀ w, C0 w → C1 w.heap.size (w.alloc o)) (hC : C0 w.drew)
    (h : wpQE P l.toArray C0 (fun a' => ∀ b W, C1 b W → wpList P l.toArray R (l.drop (n + 1)) (a'.put oa.dst (.pointer (some ⟨b, 0, none⟩))) W) (l.take n) a) : (Code.region id l.toArray true).wp P R a w := by
  simp only [allocB, Bool.and_eq_true, decide_eq_true_eq] at hB
  obtain ⟨⟨⟨⟨hsel, hn⟩, hs⟩, hc⟩, hlex⟩ := hB
  have hn' : n + 1 < l.length := by simpa using hn
  have ht : (l.take n).length = n := by simp; omega
  have hd : (l.drop (n + 1)).length = l.toArray.size - n - 1 := by simp; omega
  have inv : HeadInv .any l.toArray (n + 1) (Array.replicate l.toArray.size false) :=
    ⟨by simp, fun j _ _ hl => (by rw [getD_replicate_false] at hl; cases hl), fun t _ h1 => getD_in (by simpa using h1) (getD_replicate_false _ _)⟩
  have hg1 : l.toArray.size - n = (l.toArray.size - n - 1) + 1 := by simp only [List.size_toArray]; omega
  rw [hg1] at hlex
  have ha' : l.toArray[n]? = some oa := by simpa using ha
  have H := headA_lex (P := P) (md := .any) (g := l.toArray.size - n - 1) ha' hsel hs hc hn k0 k1 hsub (fun b a' => ∀ W, C1 b W → wpList P l.toArray R (l.drop (n + 1)) a' W) (fun a h b W => h b W) (l.take n) 0 _ a (fun j hj => by
    have hj' : j < n := by rw [ht] at hj; exact hj
    simp [hj']) (by simpa using ht) inv (by rw [ht]; exact hlex) h
  refine wp_region_any hm ?_
  have := any_of_headA (P := P) (R := R) (g := l.toArray.size - n - 1) ha' hg hrun hC1 (fun b lst a' w' hw' hL => by
    have := wpAny_of_seq (md := .any) (Q' := R) (l.drop (n + 1)) (n + 1) lst a' w' (fun j => by simp [List.getElem?_drop]) (by rw [hd]; exact hL.1) (hL.2 w' hw')
    rwa [hd] at this) _ _ a _ hC H
  rw [ht, show n + 1 + (l.toArray.size - n - 1) = l.toArray.size by simp only [List.size_toArray]; omega] at this
  exact this

variable {C : World → Prop} {Z : Act → Prop} {a : Act} {o : Oper} {rest : List Oper}
theorem e_want (hw : Region.wanted o (yielded ops a.tmps) = true) (h : ∃ v, QuietE P C o a v ∧ wpQE P ops C Z rest (a.put o.dst v)) : wpQE P ops C Z (o :: rest) a := by
  unfold wpQE
  rw [if_pos hw]
  exact h
theorem e_skip (hw : Region.wanted o (yielded ops a.tmps) = false) (h : wpQE P ops C Z rest (a.put o.dst undef)) : wpQE P ops C Z (o :: rest) a := by
  unfold wpQE
  rw [if_neg (by rw [hw]; exact Bool.false_ne_true)]
  exact h
theorem e_nil (h : Z a) : wpQE P ops C Z [] a := h
end

/-- the worlds in which nothing below B has changed -/
theorem closed_below (w : World) : Closed (Below w.heap.size w) := fun _ _ h h' => h.trans (h'.mono h.size)
/-- .. and in which block b, made since, holds c -/
def Made (w : World) (c : Array Value) (b : Nat) (W : World) : Prop := Below w.heap.size w W ∧ w.heap.size ≤ b ∧ IsRow W b ∧ blk W b = c
theorem closed_made (w : World) (c : Array Value) (b : Nat) : Closed (Made w c b) := fun _ _ h h' =>
  ⟨h.1.trans (h'.mono h.1.size), h.2.1, keepB h' (isRow_lt h.2.2.1) h.2.2.1 h.2.2.2⟩
theorem made_new (w : World) (c : Array Value) (t : TypeId) (W : World) (h : Below w.heap.size w W) : Made w c W.heap.size (W.alloc (.cells c t)) :=
  ⟨h.alloc h.size _, h.size, ⟨c, t, heap_alloc_last _ _⟩, blk_new W c t⟩
end
section
open Go
section
variable {P : Program} {ops : Array Oper} {C : World → Prop} {Z : Act → Prop} {a : Act} {o : Oper} {rest : List Oper}
theorem q_plain (hg : o.guard = none) (h : ∃ v, (∀ w, C w → o.quietAt P a C w v) ∧ wpQuiet P ops C Z rest (a.put o.dst v)) : wpQuiet P ops C Z (o :: rest) a := by
  refine q_want ?_ h
  simp [Region.wanted, hg]
theorem e_plain (hg : o.guard = none) (h : ∃ v, QuietE P C o a v ∧ wpQE P ops C Z rest (a.put o.dst v)) : wpQE P ops C Z (o :: rest) a := by
  refine e_want ?_ h
  simp [Region.wanted, hg]
end
end
section
open Go
section
variable {P : Program} {Q : Exit → Act → World → Prop} {md : Region.Mode} {ops ops' : Array Oper} {q s : Nat} {oq os : Oper} {x : Operand} {k : Nat}

theorem yielded_same (hd : ∀ j : Nat, (ops'[j]?).map Oper.dst = (ops[j]?).map Oper.dst) (tmps : Array Value) : yielded ops' tmps = yielded ops tmps := by
  funext j
  have h := hd j
  unfold yielded
  have e : (ops'[j]?).bind Oper.dst = (ops[j]?).bind Oper.dst := by
    cases h1 : ops'[j]? <;> cases h2 : ops[j]? <;> rw [h1, h2] at h <;> simp at h ⊢
    exact h
  rw [e]

theorem wpOp_same (hs : ∀ j, j ≠ s → ops'[j]? = ops[j]?) (hos : ops[s]? = some os) (hos' : ops'[s]? = some { os with after := os.after.push ⟨q, .data⟩ }) (j : Nat) {K : Act → World → Prop} {a : Act} {w : World}
    (h : wpOp P ops' Q j K a w) : wpOp P ops Q j K a w := by
  have hd : ∀ j : Nat, (ops'[j]?).map Oper.dst = (ops[j]?).map Oper.dst := by
    intro j
    by_cases e : j = s
    · subst e; rw [hos, hos']; rfl
    · rw [hs j e]
  unfold wpOp at *
  rw [yielded_same hd] at h
  by_cases e : j = s
  · subst e
    simp only [hos, hos'] at h ⊢
    exact h
  · rw [hs j e] at h
    exact h

/-- what an extract yields does not hang on the world -/
theorem extract_yields (hop : oq.op = .extract x k) (hg : oq.guard = none) (hq : ops[q]? = some oq) {K : Act → World → Prop} {a : Act} {w : World} (h : wpOp P ops Q q K a w) : ∃ v, Yields P ops oq v a ∧ K (a.put oq.dst v) w := by
  unfold wpOp at h
  simp only [hq] at h
  have hw : Region.wanted oq (yielded ops a.tmps) = true := by simp [Region.wanted, hg]
  rw [if_pos hw] at h
  obtain ⟨dst, op, ty, pos, after, guard⟩ := oq
  simp only at hop hg
  subst hop hg
  have ex : execOp a.eval ⟨dst, .extract x k, ty, pos, after, none⟩ = (do pure (Next.value (← Instr.extract (a.eval x) k)) : Sem Next) := rfl
  unfold Oper.wp Oper.asks at h
  rw [ex] at h
  cases hv : a.eval x with
  | tuple vs =>
    cases hk : vs[k]? with
    | some v =>
      refine ⟨v, .inl ⟨hw, fun w => by rw [ex, hv]; simp [Instr.extract, hk]⟩, ?_⟩
      rw [hv] at h
      rcases h with h | ⟨⟨h, _⟩, _⟩
      · simpa [Instr.extract, hk, Oper.upon] using h
      · simp [Instr.extract, hk] at h
        exact absurd (show noRoomEvent ∈ (#[] : Array Event) from h) (by simp)
    | none =>
      rw [hv] at h
      rcases h with h | ⟨⟨h, _⟩, _⟩
      · simp [Instr.extract, hk, Oper.upon, stuck] at h
      · simp [Instr.extract, hk] at h
        exact absurd (show noRoomEvent ∈ (#[] : Array Event) from h) (by simp)
  | _ =>
    rw [hv] at h
    rcases h with h | ⟨⟨h, _⟩, _⟩
    · simp [Instr.extract, Oper.upon, stuck] at h
    · simp [Instr.extract] at h
      exact absurd (show noRoomEvent ∈ (#[] : Array Event) from h) (by simp)

/-- the checks: q is an extract under no guard; where s may come, what q waits for is done; every other operation waits for q, or q for it, or they are apart -/
def lateB (md : Region.Mode) (ops : Array Oper) (q s : Nat) : Bool :=
  match ops[q]?, ops[s]? with
  | some oq, some os =>
    decide (q ≠ s) && oq.guard.isNone && (match oq.op with | .extract _ _ => true | _ => false) && Region.noSelect ops &&
    (oq.after.all fun e => !Region.binds md e || os.after.any fun e' => Region.binds md e' && e'.on == e.on) &&
    ((List.range ops.size).all fun j => j == q || (match ops[j]? with | some oj => (oj.after.any fun e => Region.binds md e && e.on == q) || (oq.after.any fun e => Region.binds md e && e.on == j) || oq.apart ops oj | none => true))
  | _, _ => false

theorem any_mem {xs : Array Edge} {p : Edge → Bool} (h : xs.any p = true) : ∃ e ∈ xs, p e = true := by
  rw [← Array.any_toList, List.any_eq_true] at h
  obtain ⟨e, he, hp⟩ := h
  exact ⟨e, by simpa using he, hp⟩

theorem lateB_spec (h : lateB md ops q s = true) : ∃ oq os x k, ops[q]? = some oq ∧ ops[s]? = some os ∧ q ≠ s ∧ oq.guard = none ∧ oq.op = .extract x k ∧ Region.noSelect ops = true ∧
    (∀ e ∈ oq.after, Region.binds md e = true → ∃ e' ∈ os.after, Region.binds md e' = true ∧ e'.on = e.on) ∧
    (∀ j oj, ops[j]? = some oj → j ≠ q → (∃ e ∈ oj.after, Region.binds md e = true ∧ e.on = q) ∨ (∃ e ∈ oq.after, Region.binds md e = true ∧ e.on = j) ∨ oq.apart ops oj = true) := by
  unfold lateB at h
  split at h
  · rename_i oq os hq hs
    simp only [Bool.and_eq_true, decide_eq_true_eq, Option.isNone_iff_eq_none] at h
    obtain ⟨⟨⟨⟨⟨h1, h2⟩, h3⟩, h4⟩, h5⟩, h6⟩ := h
    split at h3
    · rename_i x k hop
      refine ⟨oq, os, x, k, hq, hs, h1, h2, hop, h4, ?_, ?_⟩
      · intro e he hb
        have := (Array.all_eq_true_iff_forall_mem.1 h5) e he
        rw [hb, Bool.not_true, Bool.false_or] at this
        obtain ⟨e', he', h⟩ := any_mem this
        simp only [Bool.and_eq_true, beq_iff_eq] at h
        exact ⟨e', he', h.1, h.2⟩
      · intro j oj hj hne
        have hlt : j < ops.size := (Array.getElem?_eq_some_iff.1 hj).1
        have := (List.all_eq_true.1 h6) j (List.mem_range.2 hlt)
        simp only [hj, Bool.or_eq_true, beq_iff_eq] at this
        rcases this with h | (h | h) | h
        · exact (hne h).elim
        · obtain ⟨e, he, h⟩ := any_mem h
          simp only [Bool.and_eq_true, beq_iff_eq] at h
          exact .inl ⟨e, he, h.1, h.2⟩
        · obtain ⟨e, he, h⟩ := any_mem h
          simp only [Bool.and_eq_true, beq_iff_eq] at h
          exact .inr (.inl ⟨e, he, h.1, h.2⟩)
        · exact .inr (.inr h)
    · cases h3
  · cases h

/-- the operations with s made to wait for q -/
def waitFor (ops : Array Oper) (q s : Nat) : Array Oper := match ops[s]? with | some os => ops.setIfInBounds s { os with after := os.after.push ⟨q, .data⟩ } | none => ops

theorem wpAny_late (h : lateB md ops q s = true) (hQ : ∀ c a w d v, Q (.panic c) (a.put d v) w → Q (.panic c) a w) :
    ∀ (f : Nat) (lst : Array Bool) (a : Act) (w : World), lst.size = ops.size → wpAny P md (waitFor ops q s) Q f lst a w → wpAny P md ops Q f lst a w := by
  obtain ⟨oq, os, x, k, hq, hs, hne, hg, hop, hsel, hpre, hap⟩ := lateB_spec h
  have hw : waitFor ops q s = ops.setIfInBounds s { os with after := os.after.push ⟨q, .data⟩ } := by unfold waitFor; rw [hs]
  have hlt : s < ops.size := (Array.getElem?_eq_some_iff.1 hs).1
  have hsame : ∀ j, j ≠ s → (waitFor ops q s)[j]? = ops[j]? := fun j hj => by rw [hw, Array.getElem?_setIfInBounds_ne (Ne.symm hj)]
  have hs' : (waitFor ops q s)[s]? = some { os with after := os.after.push ⟨q, .data⟩ } := by rw [hw]; simp [hlt]
  -- who is ready here and not there
  have up : ∀ (lst : Array Bool) j, j ∈ Region.ready md ops lst → (j ≠ s ∨ lst.getD q false = true) → j ∈ Region.ready md (waitFor ops q s) lst := by
    intro lst j hj hc
    obtain ⟨hun, oj, hoj, hall⟩ := mem_ready.1 hj
    by_cases e : j = s
    · subst e
      rw [hs] at hoj
      cases hoj
      refine mem_ready.2 ⟨hun, _, hs', fun e he hb => ?_⟩
      rcases Array.mem_push.1 he with he | rfl
      · exact hall e he hb
      · exact hc.resolve_left (fun h => h rfl)
    · exact mem_ready.2 ⟨hun, oj, by rw [hsame j e]; exact hoj, hall⟩
  have sub : ∀ (lst : Array Bool) j, j ∈ Region.ready md (waitFor ops q s) lst → j ∈ Region.ready md ops lst := by
    intro lst j hj
    obtain ⟨hun, oj, hoj, hall⟩ := mem_ready.1 hj
    by_cases e : j = s
    · subst e
      rw [hs'] at hoj
      cases hoj
      exact mem_ready.2 ⟨hun, _, hs, fun e he hb => hall e (Array.mem_push.2 (.inl he)) hb⟩
    · exact mem_ready.2 ⟨hun, oj, by rw [← hsame j e]; exact hoj, hall⟩
  have down : ∀ (lst : Array Bool), lst.size = ops.size → q ∈ Region.ready md ops lst ∨ lst.getD q false = true ∨ (s ∉ Region.ready md ops lst) := by
    intro lst hsz
    by_cases hsr : s ∈ Region.ready md ops lst
    · obtain ⟨_, oj, hoj, hall⟩ := mem_ready.1 hsr
      rw [hs] at hoj
      cases hoj
      cases hd : lst.getD q false
      · refine .inl (mem_ready.2 ⟨?_, oq, hq, fun e he hb => ?_⟩)
        · have hql : q < lst.size := by rw [hsz]; exact (Array.getElem?_eq_some_iff.1 hq).1
          simp [hql] at hd ⊢
          exact hd
        · obtain ⟨e', he', hb', hon⟩ := hpre e he hb
          rw [← hon]; exact hall e' he' hb'
      · exact .inr (.inl rfl)
    · exact .inr (.inr hsr)
  have same : ∀ (lst : Array Bool), lst.size = ops.size → q ∉ Region.ready md ops lst → ∀ j, j ∈ Region.ready md ops lst → j ∈ Region.ready md (waitFor ops q s) lst := by
    intro lst hsz hqr j hj
    rcases down lst hsz with h | h | h
    · exact (hqr h).elim
    · exact up lst j hj (.inr h)
    · refine up lst j hj (.inl ?_)
      rintro rfl
      exact h hj
  intro f
  induction f with
  | zero =>
    intro lst a w hsz H
    refine ⟨List.eq_nil_iff_forall_not_mem.2 fun j hj => ?_, H.2⟩
    have h0 : ∀ j, j ∉ Region.ready md (waitFor ops q s) lst := List.eq_nil_iff_forall_not_mem.1 H.1
    by_cases hqr : q ∈ Region.ready md ops lst
    · exact h0 q (up lst q hqr (.inl hne))
    · exact h0 j (same lst hsz hqr j hj)
  | succ f ih =>
    intro lst a w hsz H
    by_cases hqr : q ∈ Region.ready md ops lst
    · have h1 := wpOp_same hsame hs hs' q (H.2 q (up lst q hqr (.inl hne)))
      obtain ⟨v, hy, h2⟩ := extract_yields hop hg hq h1
      have h3 := ih _ _ _ (by simp [hsz]) h2
      refine wpAny_first hq (Region.noSelect_spec hsel) (fun c a w h => hQ c a w _ _ h) f lst a w (fun j oj hoj hji hun hno => ?_) hqr hy h3
      rcases hap j oj hoj hji with ⟨e, he, hb, hon⟩ | ⟨e, he, hb, hon⟩ | h
      · exact (hno e he hb hon).elim
      · obtain ⟨_, o', ho', hall⟩ := mem_ready.1 hqr
        rw [hq] at ho'
        cases ho'
        have := hall e he hb
        rw [hon, getD_both hun] at this
        cases this
      · exact h
    · refine ⟨fun h0 => H.1 (List.eq_nil_iff_forall_not_mem.2 fun j hj => ?_), fun j hj => ?_⟩
      · have := sub lst j hj
        rw [h0] at this
        cases this
      · exact wpOp_same hsame hs hs' j (wpOp_mono (fun a w h => ih _ a w (by simp [hsz]) h) (H.2 j (same lst hsz hqr j hj)))

theorem wpQE_same (hd : ∀ j : Nat, (ops'[j]?).map Oper.dst = (ops[j]?).map Oper.dst) {C : World → Prop} {Z : Act → Prop} : ∀ (l : List Oper) (a : Act), wpQE P ops C Z l a → wpQE P ops' C Z l a
  | [], a, h => h
  | o :: l, a, h => by
    unfold wpQE at h ⊢
    rw [yielded_same hd]
    by_cases hw : Region.wanted o (yielded ops a.tmps) = true
    · rw [if_pos hw] at h ⊢
      obtain ⟨v, h1, h2⟩ := h
      exact ⟨v, h1, wpQE_same hd l _ h2⟩
    · rw [if_neg hw] at h ⊢
      exact wpQE_same hd l _ h
theorem wpQE_mono {C : World → Prop} {Z Z' : Act → Prop} (hz : ∀ a, Z a → Z' a) : ∀ (l : List Oper) (a : Act), wpQE P ops C Z l a → wpQE P ops C Z' l a
  | [], a, h => hz a h
  | o :: l, a, h => by
    unfold wpQE at h ⊢
    by_cases hw : Region.wanted o (yielded ops a.tmps) = true
    · rw [if_pos hw] at h ⊢
      obtain ⟨v, h1, h2⟩ := h
      exact ⟨v, h1, wpQE_mono hz l _ h2⟩
    · rw [if_neg hw] at h ⊢
      exact wpQE_mono hz l _ h

theorem wpList_same (hd : ∀ j : Nat, (ops'[j]?).map Oper.dst = (ops[j]?).map Oper.dst) : ∀ (l : List Oper) (a : Act) (w : World), wpList P ops Q l a w → wpList P ops' Q l a w
  | [], a, w, h => h
  | o :: l, a, w, h => by
    unfold wpList at h ⊢
    rw [yielded_same hd]
    by_cases hw : Region.wanted o (yielded ops a.tmps) = true
    · rw [if_pos hw] at h ⊢
      exact h.imp (Oper.wp_mono fun a w h => wpList_same hd l a w h) id
    · rw [if_neg hw] at h ⊢
      exact wpList_same hd l _ w h
theorem wpList_head {after' : Array Edge} {rest : List Oper} {a : Act} {w : World} (h : wpList P ops Q (os :: rest) a w) : wpList P ops Q ({ os with after := after' } :: rest) a w := by
  unfold wpList at h ⊢
  exact h

theorem wpAny_quiet_alloc {R : Exit → Act → World → Prop} {a : Act} {w : World} {l : List Oper} (n : Nat) (oa : Oper) (o : Obj) (C0 : World → Prop) (C1 : Nat → World → Prop) (ha : l[n]? = some oa) (hg : oa.guard = none)
    (hB : allocB .any l.toArray n = true) (hrun : ∀ (a : Act) w, (execOp a.eval oa).run P w = .ok (.value (.pointer (some ⟨w.heap.size, 0, none⟩))) (w.alloc o))
    (k0 : Closed C0) (k1 : ∀ b, Closed (C1 b)) (hsub : ∀ b w, C1 b w → C0 w) (hC1 : ∀ w, C0 w → C1 w.heap.size (w.alloc o)) (hC : C0 w)
    (h : wpQE P l.toArray C0 (fun a' => ∀ b W, C1 b W → wpList P l.toArray R (l.drop (n + 1)) (a'.put oa.dst (.pointer (some ⟨b, 0, none⟩))) W) (l.take n) a) : wpAny P .any l.toArray R l.toArray.size (Array.replicate l.toArray.size false) a w := by
  simp only [allocB, Bool.and_eq_true, decide_eq_true_eq] at hB
  obtain ⟨⟨⟨⟨hsel, hn⟩, hs⟩, hc⟩, hlex⟩ := hB
  have hn' : n + 1 < l.length := by simpa using hn
  have ht : (l.take n).length = n := by simp; omega
  have hd : (l.drop (n + 1)).length = l.toArray.size - n - 1 := by simp; omega
  have inv : HeadInv .any l.toArray (n + 1) (Array.replicate l.toArray.size false) :=
    ⟨by simp, fun j _ _ hl => (by rw [getD_replicate_false] at hl; cases hl), fun t _ h1 => getD_in (by simpa using h1) (getD_replicate_false _ _)⟩
  have hg1 : l.toArray.size - n = (l.toArray.size - n - 1) + 1 := by simp only [List.size_toArray]; omega
  rw [hg1] at hlex
  have ha' : l.toArray[n]? = some oa := by simpa using ha
  have H := headA_lex (P := P) (md := .any) (g := l.toArray.size - n - 1) ha' hsel hs hc hn k0 k1 hsub (fun b a' => ∀ W, C1 b W → wpList P l.toArray R (l.drop (n + 1)) a' W) (fun a h b W => h b W) (l.take n) 0 _ a (fun j hj => by
    have hj' : j < n := by rw [ht] at hj; exact hj
    simp [hj']) (by simpa using ht) inv (by rw [ht]; exact hlex) h
  have := any_of_headA (P := P) (R := R) (g := l.toArray.size - n - 1) ha' hg hrun hC1 (fun b lst a' w' hw' hL => by
    have := wpAny_of_seq (md := .any) (Q' := R) (l.drop (n + 1)) (n + 1) lst a' w' (fun j => by simp [List.getElem?_drop]) (by rw [hd]; exact hL.1) (hL.2 w' hw')
    rwa [hd] at this) _ _ a _ hC H
  rw [ht, show n + 1 + (l.toArray.size - n - 1) = l.toArray.size by simp only [List.size_toArray]; omega] at this
  exact this

/-- wp_quiet_alloc where the taking apart of a tuple (operation q) may pass the store (operation n + 1) -/
theorem wp_quiet_alloc_late {id : Nat} {R : Exit → Act → World → Prop} {a : Act} {w : World} {l : List Oper} (n q : Nat) (oa os : Oper) (o : Obj) (C0 : World → Prop) (C1 : Nat → World → Prop) (hm : P.follows .mixedOrders = true) (ha : l[n]? = some oa) (hos : l[n + 1]? = some os) (hg : oa.guard = none)
    (hL : lateB .any l.toArray q (n + 1) = true) (hB : allocB .any (waitFor l.toArray q (n + 1)) n = true) (hQ : ∀ c a w d v, R (.panic c) (a.put d v) w → R (.panic c) a w)
    (hrun : ∀ (a : Act) w, (execOp a.eval oa).run P w = .ok (.value (.pointer (some ⟨w.heap.size, 0, none⟩))) (w.alloc o))
    (k0 : Closed C0) (k1 : ∀ b, Closed (C1 b)) (hsub : ∀ b w, C1 b w → C0 w) (hC1 : ∀ w, C0 w → C1 w.heap.size (w.alloc o)) (hC : C0 w.drew)
    (h : wpQE P l.toArray C0 (fun a' => ∀ b W, C1 b W → wpList P l.toArray R (l.drop (n + 1)) (a'.put oa.dst (.pointer (some ⟨b, 0, none⟩))) W) (l.take n) a) : (Code.region id l.toArray true).wp P R a w := by
  have hlen : n + 1 < l.length := (List.getElem?_eq_some_iff.1 hos).1
  have e1 : waitFor l.toArray q (n + 1) = (l.set (n + 1) { os with after := os.after.push ⟨q, .data⟩ }).toArray := by
    unfold waitFor
    have : l.toArray[n + 1]? = some os := by simpa using hos
    rw [this]
    simp
  have hd : ∀ j : Nat, ((l.set (n + 1) { os with after := os.after.push ⟨q, .data⟩ }).toArray[j]?).map Oper.dst = (l.toArray[j]?).map Oper.dst := by
    intro j
    simp only [List.getElem?_toArray, List.getElem?_set]
    by_cases e : n + 1 = j
    · subst e; rw [if_pos rfl, if_pos hlen, hos]; rfl
    · rw [if_neg e]
  have e2 : (l.set (n + 1) { os with after := os.after.push ⟨q, .data⟩ }).take n = l.take n := by
    apply List.ext_getElem?
    intro i
    rw [List.getElem?_take, List.getElem?_take]
    by_cases hi : i < n
    · rw [if_pos hi, if_pos hi, List.getElem?_set, if_neg (by omega)]
    · rw [if_neg hi, if_neg hi]
  have e3 : (l.set (n + 1) { os with after := os.after.push ⟨q, .data⟩ }).drop (n + 1) = { os with after := os.after.push ⟨q, .data⟩ } :: l.drop (n + 2) := by
    apply List.ext_getElem?
    intro i
    rw [List.getElem?_drop, List.getElem?_set]
    cases i with
    | zero => simp [hlen]
    | succ i => rw [if_neg (by omega), List.getElem?_cons_succ, List.getElem?_drop, show n + 1 + (i + 1) = n + 2 + i by omega]
  have e4 : l.drop (n + 1) = os :: l.drop (n + 2) := by
    apply List.ext_getElem?
    intro i
    rw [List.getElem?_drop]
    cases i with
    | zero => simpa using hos
    | succ i => rw [List.getElem?_cons_succ, List.getElem?_drop, show n + 1 + (i + 1) = n + 2 + i by omega]
  refine wp_region_any hm ?_
  refine wpAny_late hL hQ _ _ _ _ (by simp) ?_
  rw [e1] at hB ⊢
  have hsz : l.toArray.size = (l.set (n + 1) { os with after := os.after.push ⟨q, .data⟩ }).toArray.size := by simp
  rw [hsz]
  refine wpAny_quiet_alloc n oa o C0 C1 (by rw [List.getElem?_set, if_neg (by omega)]; exact ha) hg hB hrun k0 k1 hsub hC1 hC ?_
  rw [e2]
  refine wpQE_mono (fun a' h b W hW => ?_) _ _ (wpQE_same hd _ _ h)
  rw [e3]
  have := h b W hW
  rw [e4] at this
  exact wpList_head (wpList_same hd _ _ _ this)
end
end
section
open Go Go.RowKit
set_option linter.unusedSimpArgs false
set_option linter.unusedVariables false

section
variable {P : Program} {ops : Array Oper} {md : Region.Mode}

/-- where operation k leaves its value -/
def dstAt (ops : Array Oper) (k : Nat) : Option Tmp := (ops[k]?).bind (·.dst)
/-- the values of the first operations that are done, laid down in the text's order -/
def laidOn (ops : Array Oper) (V : Nat → Value) (lst : Array Bool) (a : Act) : Nat → Act
  | 0 => a
  | k + 1 => if lst.getD k false = true then (laidOn ops V lst a k).put (dstAt ops k) (V k) else laidOn ops V lst a k
theorem put_size (a : Act) (d : Option Tmp) (v : Value) : (a.put d v).tmps.size = a.tmps.size := by cases d <;> simp [Act.put]
theorem laidOn_size (V : Nat → Value) (lst : Array Bool) (a : Act) : ∀ k, (laidOn ops V lst a k).tmps.size = a.tmps.size
  | 0 => rfl
  | k + 1 => by
    unfold laidOn
    split
    · rw [put_size, laidOn_size V lst a k]
    · exact laidOn_size V lst a k
theorem put_other {a : Act} {d : Option Tmp} {v : Value} {t : Nat} (h : d ≠ some t) : (a.put d v).tmps[t]? = a.tmps[t]? := by
  cases d with
  | none => rfl
  | some d => simp only [Act.put]; rw [Array.getElem?_setIfInBounds_ne (fun e => h (by rw [e]))]
theorem laidOn_slot {V V' : Nat → Value} {lst lst' : Array Bool} {a : Act} {t : Nat} : ∀ k, (∀ j, j < k → dstAt ops j = some t → lst.getD j false = lst'.getD j false ∧ V j = V' j) → (laidOn ops V lst a k).tmps[t]? = (laidOn ops V' lst' a k).tmps[t]?
  | 0, _ => rfl
  | k + 1, h => by
    have ih := laidOn_slot (a := a) k fun j hj => h j (by omega)
    by_cases hd : dstAt ops k = some t
    · obtain ⟨h1, h2⟩ := h k (by omega) hd
      unfold laidOn
      rw [h1, h2, hd]
      split
      · show ((laidOn ops V lst a k).tmps.setIfInBounds t (V' k))[t]? = ((laidOn ops V' lst' a k).tmps.setIfInBounds t (V' k))[t]?
        rw [Array.getElem?_setIfInBounds_self, Array.getElem?_setIfInBounds_self, laidOn_size, laidOn_size]
      · exact ih
    · have e1 : ∀ (U : Nat → Value) (ls : Array Bool), (laidOn ops U ls a (k + 1)).tmps[t]? = (laidOn ops U ls a k).tmps[t]? := fun U ls => by
        show (if _ then _ else _ : Act).tmps[t]? = _
        split
        · exact put_other hd
        · rfl
      rw [e1, e1]
      exact ih
theorem laidOn_same {V V' : Nat → Value} {lst lst' : Array Bool} {a : Act} : ∀ k, (∀ j, j < k → lst.getD j false = lst'.getD j false ∧ (lst.getD j false = true → V j = V' j)) → laidOn ops V lst a k = laidOn ops V' lst' a k
  | 0, _ => rfl
  | k + 1, h => by
    have ih := laidOn_same (a := a) k fun j hj => h j (by omega)
    obtain ⟨h1, h2⟩ := h k (by omega)
    unfold laidOn
    rw [ih, ← h1]
    by_cases hd : lst.getD k false = true
    · rw [if_pos hd, if_pos hd, h2 hd]
    · rw [if_neg hd, if_neg hd]
/-- operation i is done now -/
theorem laidOn_put {V V' : Nat → Value} {lst : Array Bool} {a : Act} {i : Nat} {v : Value} (hi : lst.getD i true = false) (hv : V' i = v) (hV : ∀ j, j ≠ i → lst.getD j false = true → V j = V' j) :
    ∀ k, i < k → (∀ j, j < k → j ≠ i → ∀ d, dstAt ops i = some d → dstAt ops j ≠ some d) → (laidOn ops V lst a k).put (dstAt ops i) v = laidOn ops V' (lst.setIfInBounds i true) a k
  | 0, h, _ => by omega
  | k + 1, h, hd => by
    by_cases e : i = k
    · subst e
      have h1 : (lst.setIfInBounds i true).getD i false = true := by
        have hlt : i < lst.size := by
          rcases Nat.lt_or_ge i lst.size with h' | h'
          · exact h'
          · simp [Array.getElem?_eq_none h'] at hi
        simp [hlt]
      have h2 : lst.getD i false = false := getD_both hi
      unfold laidOn
      rw [h1, if_pos rfl, h2, if_neg (by simp), hv]
      congr 1
      exact laidOn_same i fun j hj => ⟨by rw [getD_set_ne false (by omega)], fun hj' => hV j (by omega) hj'⟩
    · have ih := laidOn_put (a := a) hi hv hV k (by omega) fun j hj => hd j (by omega)
      unfold laidOn
      rw [getD_set_ne false e, ← ih]
      by_cases hk : lst.getD k false = true
      · rw [if_pos hk, if_pos hk, hV k (fun h => e h.symm) hk, Act.put_comm _ _ _ fun d hd' he => hd k (by omega) (fun h => e h.symm) d he hd']
      · rw [if_neg hk, if_neg hk]

/-- what an operation yields hangs on the slots alone that it looks at -/
theorem YieldsE.of_slots {C : World → Prop} {o : Oper} {v : Value} {a a' : Act} (hsel : ∀ cs b, o.op ≠ .select cs b) (h : ∀ t, t ∈ o.looksAt ops → a'.tmps[t]? = a.tmps[t]?) (hy : YieldsE P ops C o v a) : YieldsE P ops C o v a' := by
  have e1 : execOp a'.eval o = execOp a.eval o := execOp_congr o hsel fun x hx => by
    cases x with
    | tmp t =>
      have := h t (List.mem_append_left _ (List.mem_filterMap.2 ⟨.tmp t, by simpa using hx, rfl⟩))
      simp [Act.eval, this]
    | _ => rfl
  have e2 : Region.wanted o (yielded ops a'.tmps) = Region.wanted o (yielded ops a.tmps) := by
    unfold Region.wanted
    cases hg : o.guard with
    | none => rfl
    | some gw =>
      obtain ⟨g, want⟩ := gw
      have hyy : yielded ops a'.tmps g = yielded ops a.tmps g := by
        unfold yielded
        cases ht : (ops[g]?).bind (·.dst) with
        | none => rfl
        | some t =>
          have := h t (by simp [Oper.looksAt, hg, ht])
          simp [this]
      simp only [hyy]
  unfold YieldsE QuietE Oper.quietAt at *
  rw [e1, e2]
  exact hy

/-- the values of the quiet operations from number k on, al: which make variables -/
def seqOn (ops : Array Oper) (v : Nat → Value) (al : Nat → Bool) (k : Nat) (a : Act) : Nat → Act
  | 0 => a
  | j + 1 => if al (k + j) = true then seqOn ops v al k a j else (seqOn ops v al k a j).put (dstAt ops (k + j)) (v (k + j))
theorem seqOn_size (v : Nat → Value) (al : Nat → Bool) (k : Nat) (a : Act) : ∀ j, (seqOn ops v al k a j).tmps.size = a.tmps.size
  | 0 => rfl
  | j + 1 => by
    unfold seqOn
    split
    · exact seqOn_size v al k a j
    · rw [put_size, seqOn_size v al k a j]
theorem seqOn_tail (v : Nat → Value) (al : Nat → Bool) (k : Nat) (a : Act) : ∀ j, seqOn ops v al (k + 1) (if al k = true then a else a.put (dstAt ops k) (v k)) j = seqOn ops v al k a (j + 1)
  | 0 => rfl
  | j + 1 => by
    have ih := seqOn_tail v al k a j
    show (if al (k + 1 + j) = true then seqOn ops v al (k + 1) _ j else (seqOn ops v al (k + 1) _ j).put _ _) = (if al (k + (j + 1)) = true then seqOn ops v al k a (j + 1) else (seqOn ops v al k a (j + 1)).put _ _)
    rw [ih, show k + 1 + j = k + (j + 1) by omega]
theorem seqOn_congr {v v' : Nat → Value} {al : Nat → Bool} {k : Nat} {a : Act} : ∀ j, (∀ i, i < j → v (k + i) = v' (k + i)) → seqOn ops v al k a j = seqOn ops v' al k a j
  | 0, _ => rfl
  | j + 1, h => by
    unfold seqOn
    rw [seqOn_congr j fun i hi => h i (by omega), h j (by omega)]
/-- the quiet operations alone -/
def quietOf (al : Nat → Bool) : List Oper → Nat → List Oper
  | [], _ => []
  | o :: l, k => if al k = true then quietOf al l (k + 1) else o :: quietOf al l (k + 1)
theorem wpQE_vals {C : World → Prop} {Z : Act → Prop} {al : Nat → Bool} : ∀ (l : List Oper) (k : Nat) (a : Act), (∀ j, j < l.length → l[j]? = ops[k + j]?) → wpQE P ops C Z (quietOf al l k) a →
    ∃ v : Nat → Value, (∀ j o, j < l.length → al (k + j) = false → ops[k + j]? = some o → YieldsE P ops C o (v (k + j)) (seqOn ops v al k a j)) ∧ Z (seqOn ops v al k a l.length)
  | [], k, a, _, h => ⟨fun _ => undef, fun j o hj => by simp at hj, h⟩
  | o :: l, k, a, hl, h => by
    have h0 : ops[k]? = some o := by simpa using (hl 0 (by simp)).symm
    have hd : dstAt ops k = o.dst := by unfold dstAt; rw [h0]; rfl
    have hl' : ∀ j, j < l.length → l[j]? = ops[k + 1 + j]? := fun j hj => by
      have := hl (j + 1) (by simp; omega)
      rw [show k + 1 + j = k + (j + 1) by omega, ← this]; simp
    by_cases hal : al k = true
    · have h' : wpQE P ops C Z (quietOf al l (k + 1)) a := by
        unfold quietOf at h; rw [if_pos hal] at h; exact h
      obtain ⟨v, h1, h2⟩ := wpQE_vals l (k + 1) _ hl' h'
      have e : ∀ j, seqOn ops v al (k + 1) a j = seqOn ops v al k a (j + 1) := fun j => by
        rw [← seqOn_tail, if_pos hal]
      refine ⟨v, fun j o' hj ha ho' => ?_, ?_⟩
      · cases j with
        | zero => rw [Nat.add_zero, hal] at ha; cases ha
        | succ j =>
          rw [← e j, show k + (j + 1) = k + 1 + j by omega]
          exact h1 j o' (by simpa using hj) (by rw [show k + 1 + j = k + (j + 1) by omega]; exact ha) (by rw [show k + 1 + j = k + (j + 1) by omega]; exact ho')
      · show Z (seqOn ops v al k a (l.length + 1))
        rw [← e]; exact h2
    · have hy : ∃ u, YieldsE P ops C o u a ∧ wpQE P ops C Z (quietOf al l (k + 1)) (a.put o.dst u) := by
        unfold quietOf at h
        rw [if_neg hal] at h
        unfold wpQE at h
        by_cases hw : Region.wanted o (yielded ops a.tmps) = true
        · rw [if_pos hw] at h
          obtain ⟨u, h1, h2⟩ := h
          exact ⟨u, .inl ⟨hw, h1⟩, h2⟩
        · rw [if_neg hw] at h
          exact ⟨undef, .inr ⟨by simpa using hw, rfl⟩, h⟩
      obtain ⟨u, hy1, hK⟩ := hy
      obtain ⟨v, h1, h2⟩ := wpQE_vals l (k + 1) _ hl' hK
      have e : ∀ j, seqOn ops (fun i => if i = k then u else v i) al k a (j + 1) = seqOn ops v al (k + 1) (a.put o.dst u) j := fun j => by
        rw [← seqOn_tail, if_neg hal]
        rw [show (if k = k then u else v k) = u by rw [if_pos rfl], hd]
        exact seqOn_congr j fun i _ => by rw [if_neg (by omega)]
      refine ⟨fun i => if i = k then u else v i, fun j o' hj ha ho' => ?_, ?_⟩
      · cases j with
        | zero =>
          rw [Nat.add_zero, h0] at ho'
          cases ho'
          show YieldsE P ops C o (if k + 0 = k then u else v (k + 0)) a
          rw [if_pos (by omega)]; exact hy1
        | succ j =>
          rw [e j]
          dsimp only
          rw [if_neg (by omega), show k + (j + 1) = k + 1 + j by omega]
          exact h1 j o' (by simpa using hj) (by rw [show k + 1 + j = k + (j + 1) by omega]; exact ha) (by rw [show k + 1 + j = k + (j + 1) by omega]; exact ho')
      · show Z (seqOn ops _ al k a (l.length + 1))
        rw [e]; exact h2

/-- what is known of the world: nothing below B has changed, and each variable that is made lies in a block of its own -/
def MadeOn (W0 : World) (al : Nat → Bool) (M : Nat) (c : Nat → Array Value) (bs : Nat → Nat) (lst : Array Bool) (w : World) : Prop :=
  Below W0.heap.size W0 w ∧ (∀ k, al k = true → k < M → lst.getD k false = true → W0.heap.size ≤ bs k ∧ IsRow w (bs k) ∧ blk w (bs k) = c k) ∧
    ∀ j k, al j = true → j < M → al k = true → k < M → lst.getD j false = true → lst.getD k false = true → j ≠ k → bs j ≠ bs k
theorem closed_madeOn (W0 : World) (al : Nat → Bool) (M : Nat) (c : Nat → Array Value) (bs : Nat → Nat) (lst : Array Bool) : Closed (MadeOn W0 al M c bs lst) := fun w w' h hb =>
  ⟨h.1.trans (hb.mono h.1.size), fun k h1 h2 h3 => by
    obtain ⟨x1, x2, x3⟩ := h.2.1 k h1 h2 h3
    obtain ⟨y1, y2⟩ := keepB hb (isRow_lt x2) x2 x3
    exact ⟨x1, y1, y2⟩, h.2.2⟩
/-- how many of the first M are not done -/
def undone (lst : Array Bool) (M : Nat) : Nat := ((List.range M).filter fun i => !lst.getD i true).length
theorem undone_set {lst : Array Bool} {i : Nat} (hi : lst.getD i true = false) : ∀ M, undone (lst.setIfInBounds i true) M + (if i < M then 1 else 0) = undone lst M
  | 0 => by simp [undone]
  | M + 1 => by
    have ih := undone_set hi M
    have hlt : i < lst.size := by
      rcases Nat.lt_or_ge i lst.size with h' | h'
      · exact h'
      · simp [Array.getElem?_eq_none h'] at hi
    unfold undone at *
    rw [List.range_succ, List.filter_append, List.filter_append, List.length_append, List.length_append]
    by_cases e : i = M
    · subst e
      rw [if_neg (by omega)] at ih
      have h1 : (lst.setIfInBounds i true).getD i true = true := by simp [hlt]
      simp only [List.filter_cons, List.filter_nil, h1, hi]
      simp at ih ⊢
      omega
    · have h1 : (lst.setIfInBounds i true).getD M true = lst.getD M true := getD_set_ne true e
      simp only [List.filter_cons, List.filter_nil, h1]
      by_cases hlt' : i < M
      · rw [if_pos hlt'] at ih
        have e2 : (if i < M + 1 then 1 else 0 : Nat) = 1 := if_pos (by omega)
        rw [e2]
        omega
      · rw [if_neg hlt'] at ih
        have e2 : (if i < M + 1 then 1 else 0 : Nat) = 0 := if_neg (by omega)
        rw [e2]
        omega
theorem undone_pos {lst : Array Bool} : ∀ M, undone lst M ≠ 0 → ∃ i, i < M ∧ lst.getD i true = false ∧ ∀ j, j < i → lst.getD j true = true
  | 0, h => by simp [undone] at h
  | M + 1, h => by
    by_cases h0 : undone lst M = 0
    · have key : ∀ j, j < M → lst.getD j true = true := fun j hj => by
        unfold undone at h0
        rw [List.length_eq_zero_iff, List.filter_eq_nil_iff] at h0
        simpa using h0 j (by simpa using hj)
      refine ⟨M, by omega, ?_, key⟩
      unfold undone at h h0
      rw [List.range_succ, List.filter_append, List.length_append, h0] at h
      cases hm : lst.getD M true
      · rfl
      · simp only [List.filter_cons, List.filter_nil, hm] at h
        simp at h
    · obtain ⟨i, h1, h2, h3⟩ := undone_pos M h0
      exact ⟨i, by omega, h2, h3⟩
theorem undone_zero {lst : Array Bool} {M : Nat} (h : undone lst M = 0) (hM : M ≤ lst.size) (j : Nat) (hj : j < M) : lst.getD j false = true := by
  unfold undone at h
  rw [List.length_eq_zero_iff, List.filter_eq_nil_iff] at h
  have := h j (by simpa using hj)
  have hlt : j < lst.size := by omega
  simp [hlt] at this ⊢
  exact this

/-- the checks on such a region: of the first M operations those of al make variables, the others are quiet; the rest follow in a forced order -/
def madeB (md : Region.Mode) (ops : Array Oper) (al : Nat → Bool) (M : Nat) : Bool :=
  Region.noSelect ops && decide (M < ops.size) && Region.sinkB md ops M && Region.chainB md ops M &&
  ((List.range M).all fun i => match ops[i]? with | some o => o.after.all fun e => !Region.binds md e || decide (e.on < i) | none => true) &&
  ((List.range M).all fun i => (List.range M).all fun j => i == j || (match dstAt ops i with | some d => dstAt ops j != some d | none => true)) &&
  ((List.range M).all fun i => al i || match ops[i]? with
    | some o => (List.range M).all fun j => match dstAt ops j with
      | some d => !(o.looksAt ops).contains d || ((decide (j < i) && !al j) && o.after.any fun e => Region.binds md e && e.on == j)
      | none => true
    | none => true) &&
  Region.seqB md ops (ops.size - M) M (Array.ofFn (n := ops.size) fun i => decide (i.val < M))

theorem any_of_made {R : Exit → Act → World → Prop} {W0 : World} {al : Nat → Bool} {M : Nat} {a0 : Act} {c : Nat → Array Value} {ty : Nat → TypeId} {v : Nat → Value} (hB : madeB md ops al M = true)
    (hq : ∀ i o, i < M → al i = false → ops[i]? = some o → YieldsE P ops (Below W0.heap.size W0) o (v i) (seqOn ops v al 0 a0 i))
    (ha : ∀ i, al i = true → i < M → ∃ o, ops[i]? = some o ∧ o.guard = none ∧ ∀ (a : Act) w, (execOp a.eval o).run P w = .ok (.value (.pointer (some ⟨w.heap.size, 0, none⟩))) (w.alloc (.cells (c i) (ty i))))
    (hfin : ∀ bs lst w, lst = (Array.ofFn (n := ops.size) fun i => decide (i.val < M)) → MadeOn W0 al M c bs lst w → wpAny P md ops R (ops.size - M) lst (laidOn ops (fun k => if al k = true then .pointer (some ⟨bs k, 0, none⟩) else v k) lst a0 M) w) :
    ∀ (u : Nat) (lst : Array Bool) (bs : Nat → Nat) (w : World), HeadInv md ops M lst → undone lst M = u → MadeOn W0 al M c bs lst w →
      wpAny P md ops R (u + (ops.size - M)) lst (laidOn ops (fun k => if al k = true then .pointer (some ⟨bs k, 0, none⟩) else v k) lst a0 M) w := by
  simp only [madeB, Bool.and_eq_true, decide_eq_true_eq] at hB
  obtain ⟨⟨⟨⟨⟨⟨⟨hsel, hMN⟩, hs⟩, hc⟩, hback⟩, hdst⟩, hlook⟩, hseq⟩ := hB
  have hdst' : ∀ i j, i < M → j < M → i ≠ j → ∀ d, dstAt ops i = some d → dstAt ops j ≠ some d := fun i j hi hj hne d hd => by
    have := List.all_eq_true.1 (List.all_eq_true.1 hdst i (List.mem_range.2 hi)) j (List.mem_range.2 hj)
    simp only [hd, Bool.or_eq_true, beq_iff_eq, bne_iff_ne] at this
    exact this.resolve_left hne
  intro u
  induction u with
  | zero =>
    intro lst bs w inv hu hw
    rw [Nat.zero_add]
    refine hfin bs lst w ?_ hw
    apply Array.ext
    · simp [inv.size]
    · intro i h1 h2
      simp only [Array.getElem_ofFn]
      by_cases hi : i < M
      · have := undone_zero hu (by rw [inv.size]; omega) i hi
        simp [h1] at this
        simp [this, hi]
      · have := inv.tail i (by omega) (by rw [← inv.size]; exact h1)
        simp [h1] at this
        simp [this, hi]
  | succ u ih =>
    intro lst bs w inv hu hw
    rw [show u + 1 + (ops.size - M) = (u + (ops.size - M)) + 1 by omega]
    obtain ⟨i0, hi0, hun0, hmin⟩ := undone_pos M (by rw [hu]; omega)
    have hr0 : i0 ∈ Region.ready md ops lst := by
      refine mem_ready.2 ⟨hun0, ops[i0]'(by omega), by simp, fun e he hb => ?_⟩
      have := List.all_eq_true.1 hback i0 (List.mem_range.2 hi0)
      rw [Array.getElem?_eq_getElem (by omega : i0 < ops.size)] at this
      have := (Array.all_eq_true_iff_forall_mem.1 this) e he
      rw [hb] at this
      have hlt : e.on < i0 := by simpa using this
      have h2 := hmin e.on hlt
      have h3 : e.on < lst.size := by rw [inv.size]; omega
      simp [h3] at h2 ⊢
      exact h2
    refine ⟨fun h0 => (by rw [h0] at hr0; cases hr0), fun i hi => ?_⟩
    have hiM : i < M := (Nat.lt_or_ge i M).resolve_right fun h => tail_waits hs hc hMN inv _ i0 rfl hi0 hun0 i h hi
    obtain ⟨hun, oi, hoi, hall⟩ := mem_ready.1 hi
    have hcnt : undone (lst.setIfInBounds i true) M = u := by
      have := undone_set hun M
      rw [if_pos hiM, hu] at this
      omega
    have hdi : dstAt ops i = oi.dst := by unfold dstAt; rw [hoi]; rfl
    by_cases hin : al i = false
    · -- a quiet operation
      have hy := hq i oi hiM hin hoi
      have hy' : YieldsE P ops (Below W0.heap.size W0) oi (v i) (laidOn ops (fun k => if al k = true then .pointer (some ⟨bs k, 0, none⟩) else v k) lst a0 M) := by
        refine hy.of_slots (fun cs b => Region.noSelect_spec hsel i oi cs b hoi) fun t ht => ?_
        have look : ∀ j, j < M → dstAt ops j = some t → j < i ∧ lst.getD j false = true ∧ al j = false := fun j hj hd => by
          have := List.all_eq_true.1 hlook i (List.mem_range.2 hiM)
          rw [hin, Bool.false_or, hoi] at this
          simp only at this
          have := List.all_eq_true.1 this j (List.mem_range.2 hj)
          rw [hd] at this
          simp only [Bool.or_eq_true, Bool.not_eq_true', Bool.and_eq_true, decide_eq_true_eq] at this
          rcases this with h | ⟨⟨h1, h3⟩, h2⟩
          · rw [List.contains_eq_mem] at h
            simp [ht] at h
          · obtain ⟨e, he, h⟩ := any_mem h2
            simp only [Bool.and_eq_true, beq_iff_eq] at h
            exact ⟨h1, by rw [← h.2]; exact hall e he h.1, h3⟩
        -- both are the values done, slot by slot
        have key : ∀ k, k ≤ M → (laidOn ops (fun k => if al k = true then .pointer (some ⟨bs k, 0, none⟩) else v k) lst a0 k).tmps[t]? = (seqOn ops v al 0 a0 (min k i)).tmps[t]? := by
          intro k
          induction k with
          | zero => intro _; rw [Nat.zero_min]; rfl
          | succ k ihk =>
            intro hk
            have ih' := ihk (by omega)
            by_cases hd : dstAt ops k = some t
            · obtain ⟨h1, h2, h3⟩ := look k (by omega) hd
              have e1 : min (k + 1) i = k + 1 := by omega
              have e2 : min k i = k := by omega
              rw [e1]
              rw [e2] at ih'
              unfold laidOn seqOn
              rw [if_pos h2, Nat.zero_add, hd, if_neg (by rw [h3]; simp)]
              have hs1 := seqOn_size (ops := ops) v al 0 a0 k
              simp only [Act.put, Array.getElem?_setIfInBounds_self, laidOn_size, hs1, h3, Bool.false_eq_true, if_false]
            · have e1 : (laidOn ops (fun k => if al k = true then .pointer (some ⟨bs k, 0, none⟩) else v k) lst a0 (k + 1)).tmps[t]? = (laidOn ops (fun k => if al k = true then .pointer (some ⟨bs k, 0, none⟩) else v k) lst a0 k).tmps[t]? := by
                show (if _ then _ else _ : Act).tmps[t]? = _
                split
                · exact put_other hd
                · rfl
              rw [e1, ih']
              by_cases hki : k < i
              · rw [show min (k + 1) i = k + 1 by omega, show min k i = k by omega]
                show _ = (if _ then _ else _ : Act).tmps[t]?
                split
                · rfl
                · rw [put_other (by rw [Nat.zero_add]; exact hd)]
              · rw [show min (k + 1) i = i by omega, show min k i = i by omega]
        have := key M (Nat.le_refl _)
        rw [show min M i = i by omega] at this
        exact this
      have hyI := hy'.at (D := MadeOn W0 al M c bs lst) (fun w h => h.1) (closed_madeOn W0 al M c bs lst)
      refine wpOp_of_qOp (C := MadeOn W0 al M c bs lst) (K := fun a' => a' = laidOn ops (fun k => if al k = true then .pointer (some ⟨bs k, 0, none⟩) else v k) (lst.setIfInBounds i true) a0 M) hw (fun a' w' hw' ha' => ?_) (hyI.qOp hoi ?_)
      · subst ha'
        have nk : ∀ k, al k = true → i ≠ k := fun k h e => by subst e; rw [hin] at h; cases h
        refine ih _ bs w' (inv.set hi hiM) hcnt ⟨hw'.1, fun k h1 h2 h3 => hw'.2.1 k h1 h2 (by rwa [getD_set_ne false (nk k h1)] at h3), fun j k h1 h2 h3 h4 h5 h6 h7 => hw'.2.2 j k h1 h2 h3 h4 (by rwa [getD_set_ne false (nk j h1)] at h5) (by rwa [getD_set_ne false (nk k h3)] at h6) h7⟩
      · rw [← hdi]
        exact laidOn_put hun (by rw [hin]; rfl) (fun _ _ _ => rfl) M hiM fun j hj hne d hd => hdst' i j hiM hj (Ne.symm hne) d hd
    · -- a variable is made
      have hin' : al i = true := by cases h : al i <;> simp_all
      obtain ⟨o', ho', hg, hrun⟩ := ha i hin' hiM
      rw [hoi] at ho'
      cases ho'
      unfold wpOp
      simp only [hoi]
      rw [if_pos (by simp [Region.wanted, hg])]
      refine .inl ?_
      unfold Oper.wp
      rw [hrun]
      simp only [Oper.upon]
      have e : (laidOn ops (fun k => if al k = true then .pointer (some ⟨bs k, 0, none⟩) else v k) lst a0 M).put oi.dst (.pointer (some ⟨w.heap.size, 0, none⟩)) =
          laidOn ops (fun k => if al k = true then .pointer (some ⟨(fun j => if j = i then w.heap.size else bs j) k, 0, none⟩) else v k) (lst.setIfInBounds i true) a0 M := by
        rw [← hdi]
        refine laidOn_put hun (by simp [hin']) (fun j hj _ => ?_) M hiM fun j hj hne d hd => hdst' i j hiM hj (Ne.symm hne) d hd
        simp [hj]
      rw [e]
      refine ih _ _ _ (inv.set hi hiM) hcnt ⟨hw.1.alloc hw.1.size _, fun k h1 h2 h3 => ?_, fun j k h1 h2 h3 h4 h5 h6 h7 => ?_⟩
      · by_cases ek : k = i
        · subst ek
          dsimp only
          rw [if_pos rfl]
          exact ⟨hw.1.size, ⟨_, _, heap_alloc_last _ _⟩, blk_new _ _ _⟩
        · rw [getD_set_ne false (fun h => ek h.symm)] at h3
          obtain ⟨x1, x2, x3⟩ := hw.2.1 k h1 h2 h3
          obtain ⟨y1, y2⟩ := keepB ((Below.refl w.heap.size w).alloc (Nat.le_refl _) _) (isRow_lt x2) x2 x3
          dsimp only
          rw [if_neg ek]
          exact ⟨x1, y1, y2⟩
      · dsimp only
        by_cases ej : j = i
        · subst ej
          rw [getD_set_ne false h7] at h6
          rw [if_pos rfl, if_neg (Ne.symm h7)]
          have := isRow_lt (hw.2.1 k h3 h4 h6).2.1
          omega
        · by_cases ek : k = i
          · subst ek
            rw [getD_set_ne false (Ne.symm h7)] at h5
            rw [if_neg ej, if_pos rfl]
            have := isRow_lt (hw.2.1 j h1 h2 h5).2.1
            omega
          · rw [getD_set_ne false (fun h => ej h.symm)] at h5
            rw [getD_set_ne false (fun h => ek h.symm)] at h6
            rw [if_neg ej, if_neg ek]
            exact hw.2.2 j k h1 h2 h3 h4 h5 h6 h7

/-- in the world W the block b, made since W0, holds c -/
def MadeAt (W0 : World) (c : Array Value) (b : Nat) (W : World) : Prop := W0.heap.size ≤ b ∧ IsRow W b ∧ blk W b = c
theorem undone_none (N M : Nat) (hM : M ≤ N) : undone (Array.replicate N false) M = M := by
  unfold undone
  rw [List.filter_eq_self.2, List.length_range]
  intro i hi
  have : i < N := Nat.lt_of_lt_of_le (List.mem_range.1 hi) hM
  have h2 := getD_in (listed := Array.replicate N false) (by simpa using this) (getD_replicate_false _ i)
  rw [h2]; rfl
theorem laidOn_none (V : Nat → Value) (N : Nat) (a : Act) : ∀ k, laidOn ops V (Array.replicate N false) a k = a
  | 0 => rfl
  | k + 1 => by unfold laidOn; rw [getD_replicate_false, if_neg (by simp), laidOn_none V N a k]
/-- the quiet operations, and the variables of al made at any time, the rest in a forced order -/
theorem wp_quiet_made {id : Nat} {R : Exit → Act → World → Prop} {a : Act} {w : World} {l : List Oper} (al : Nat → Bool) (M : Nat) (c : Nat → Array Value) (ty : Nat → TypeId) (hm : P.follows .mixedOrders = true)
    (hB : madeB .any l.toArray al M = true)
    (ha : ∀ i, al i = true → i < M → ∃ o, l[i]? = some o ∧ o.guard = none ∧ ∀ (a : Act) w, (execOp a.eval o).run P w = .ok (.value (.pointer (some ⟨w.heap.size, 0, none⟩))) (w.alloc (.cells (c i) (ty i))))
    (h : wpQE P l.toArray (Below w.heap.size w) (fun a' => ∀ (v : Nat → Value) bs W, a' = seqOn l.toArray v al 0 a M → MadeOn w al M c bs (Array.ofFn (n := l.toArray.size) fun i => decide (i.val < M)) W →
      wpList P l.toArray R (l.drop M) (laidOn l.toArray (fun k => if al k = true then .pointer (some ⟨bs k, 0, none⟩) else v k) (Array.ofFn (n := l.toArray.size) fun i => decide (i.val < M)) a M) W) (quietOf al (l.take M) 0) a) : (Code.region id l.toArray true).wp P R a w := by
  have hM : M < l.length := by
    simp only [madeB, Bool.and_eq_true, decide_eq_true_eq] at hB
    simpa using hB.1.1.1.1.1.1.2
  have ht : (l.take M).length = M := by simp; omega
  obtain ⟨v, hv, hZ⟩ := wpQE_vals (l.take M) 0 a (fun j hj => by
    have hj' : j < M := by rw [ht] at hj; exact hj
    simp [hj']) h
  rw [ht] at hZ
  refine wp_region_any hm ?_
  have inv : HeadInv .any l.toArray M (Array.replicate l.toArray.size false) :=
    ⟨by simp, fun j _ _ hl => (by rw [getD_replicate_false] at hl; cases hl), fun t _ h1 => getD_in (by simpa using h1) (getD_replicate_false _ _)⟩
  have H := any_of_made (P := P) (R := R) (W0 := w) (a0 := a) (c := c) (ty := ty) (v := v) (al := al) (md := .any) (ops := l.toArray) hB
    (fun i o hi hal ho => by have := hv i o (by rw [ht]; exact hi) (by rw [Nat.zero_add]; exact hal) (by rw [Nat.zero_add]; exact ho); rwa [Nat.zero_add] at this)
    (fun i hi hi2 => by
      obtain ⟨o, h1, h2⟩ := ha i hi hi2
      exact ⟨o, by simpa using h1, h2⟩)
    (fun bs lst W hl hW => by
      subst hl
      have hl2 := hZ v bs W rfl hW
      have hd : (l.drop M).length = l.toArray.size - M := by simp
      have := wpAny_of_seq (md := .any) (Q' := R) (l.drop M) M _ _ W (fun j => by simp [List.getElem?_drop]) (by
        rw [hd]
        simp only [madeB, Bool.and_eq_true] at hB
        exact hB.2) hl2
      rwa [hd] at this)
    M (Array.replicate l.toArray.size false) (fun _ => 0) { w with drawn := w.drawn + 1 } inv (undone_none _ _ (by simp; omega)) ⟨(Below.refl _ _).drew, fun k _ _ h3 => (by rw [getD_replicate_false] at h3; cases h3), fun j k _ _ _ _ h5 => by rw [getD_replicate_false] at h5; cases h5⟩
  rw [laidOn_none, show M + (l.toArray.size - M) = l.toArray.size by simp only [List.size_toArray]; omega] at H
  exact H
theorem done_ofFn (N M k : Nat) (h : k < M) (hM : M ≤ N) : (Array.ofFn (n := N) fun i => decide (i.val < M)).getD k false = true := by
  have : k < N := by omega
  simp [this, h]
theorem quietOf_none {al : Nat → Bool} : ∀ (l : List Oper) (k : Nat), (∀ j, k ≤ j → al j = false) → quietOf al l k = l
  | [], _, _ => rfl
  | o :: l, k, h => by
    unfold quietOf
    rw [if_neg (by rw [h k (Nat.le_refl _)]; simp), quietOf_none l (k + 1) fun j hj => h j (by omega)]
theorem quietOf_one : ∀ (l : List Oper) (k n : Nat), k ≤ n → quietOf (fun i => i == n) l k = l.eraseIdx (n - k)
  | [], _, _, _ => rfl
  | o :: l, k, n, h => by
    unfold quietOf
    by_cases e : k = n
    · subst e
      rw [if_pos (by simp), Nat.sub_self, List.eraseIdx_cons_zero]
      exact quietOf_none l (k + 1) fun j hj => by simp; omega
    · rw [if_neg (by simp [e]), show n - k = (n - (k + 1)) + 1 by omega, List.eraseIdx_cons_succ, quietOf_one l (k + 1) n (by omega)]
theorem quietOf_two : ∀ (l : List Oper) (k n : Nat), k ≤ n → quietOf (fun i => i == n || i == n + 1) l k = (l.eraseIdx (n - k)).eraseIdx (n - k)
  | [], _, _, _ => rfl
  | o :: l, k, n, h => by
    unfold quietOf
    by_cases e : k = n
    · subst e
      rw [if_pos (by simp), Nat.sub_self, List.eraseIdx_cons_zero]
      cases l with
      | nil => rfl
      | cons o2 l =>
        unfold quietOf
        rw [if_pos (by simp), List.eraseIdx_cons_zero]
        exact quietOf_none l (k + 1 + 1) fun j hj => by simp; omega
    · rw [if_neg (by simp; omega), show n - k = (n - (k + 1)) + 1 by omega, List.eraseIdx_cons_succ, List.eraseIdx_cons_succ, quietOf_two l (k + 1) n (by omega)]
/-- one variable -/
theorem wp_quiet_made1 {id : Nat} {R : Exit → Act → World → Prop} {a : Act} {w : World} {l : List Oper} (n M : Nat) (o1 : Oper) (c1 : Array Value) (t1 : TypeId) (hm : P.follows .mixedOrders = true) (h1 : l[n]? = some o1) (g1 : o1.guard = none) (hnM : n < M)
    (hB : madeB .any l.toArray (fun i => i == n) M = true)
    (r1 : ∀ (a : Act) w, (execOp a.eval o1).run P w = .ok (.value (.pointer (some ⟨w.heap.size, 0, none⟩))) (w.alloc (.cells c1 t1)))
    (h : wpQE P l.toArray (Below w.heap.size w) (fun a' => ∀ b1 W, Made w c1 b1 W → wpList P l.toArray R (l.drop M) (a'.put o1.dst (.pointer (some ⟨b1, 0, none⟩))) W) ((l.take M).eraseIdx n) a) : (Code.region id l.toArray true).wp P R a w := by
  have hM : M < l.length := by
    simp only [madeB, Bool.and_eq_true, decide_eq_true_eq] at hB
    simpa using hB.1.1.1.1.1.1.2
  have hdst : ∀ j, j < M → j ≠ n → ∀ d, o1.dst = some d → dstAt l.toArray j ≠ some d := fun j hj hne d hd => by
    simp only [madeB, Bool.and_eq_true, decide_eq_true_eq] at hB
    have := List.all_eq_true.1 (List.all_eq_true.1 hB.1.1.2 n (List.mem_range.2 hnM)) j (List.mem_range.2 hj)
    have d1 : dstAt l.toArray n = o1.dst := by unfold dstAt; rw [List.getElem?_toArray, h1]; rfl
    simp only [d1, hd, Bool.or_eq_true, beq_iff_eq, bne_iff_ne] at this
    exact this.resolve_left (Ne.symm hne)
  have d1 : dstAt l.toArray n = o1.dst := by unfold dstAt; rw [List.getElem?_toArray, h1]; rfl
  refine wp_quiet_made (fun i => i == n) M (fun _ => c1) (fun _ => t1) hm hB (fun i hi _ => by
    obtain rfl : i = n := by simpa using hi
    exact ⟨o1, h1, g1, r1⟩) ?_
  rw [quietOf_one _ _ _ (Nat.zero_le _), Nat.sub_zero]
  refine wpQE_mono (fun a' hz v bs W ha' hW => ?_) _ _ h
  have done : ∀ k, k < M → (Array.ofFn (n := l.toArray.size) fun i => decide (i.val < M)).getD k false = true := fun k hk => done_ofFn _ M k hk (by simp; omega)
  have key : ∀ k, k ≤ M → laidOn l.toArray (fun k => if (k == n) = true then .pointer (some ⟨bs k, 0, none⟩) else v k) (Array.ofFn (n := l.toArray.size) fun i => decide (i.val < M)) a k =
      if k ≤ n then seqOn l.toArray v (fun i => i == n) 0 a k else (seqOn l.toArray v (fun i => i == n) 0 a k).put o1.dst (.pointer (some ⟨bs n, 0, none⟩)) := by
    intro k
    induction k with
    | zero => intro _; rw [if_pos (Nat.zero_le _)]; rfl
    | succ k ih =>
      intro hk
      unfold laidOn
      rw [done k (by omega), if_pos rfl, ih (by omega)]
      by_cases e : k = n
      · subst e
        rw [if_pos (Nat.le_refl _), if_pos (by simp), if_neg (by omega), d1]
        show _ = (if _ then _ else _ : Act).put _ _
        rw [if_pos (by simp)]
      · have e2 : ((k == n) = true) = False := by simp [e]
        have hs : seqOn l.toArray v (fun i => i == n) 0 a (k + 1) = (seqOn l.toArray v (fun i => i == n) 0 a k).put (dstAt l.toArray k) (v k) := by
          show (if _ then _ else _ : Act) = _
          rw [if_neg (by simp [e]), Nat.zero_add]
        have ev : (if (k == n) = true then Value.pointer (some ⟨bs k, 0, none⟩) else v k) = v k := if_neg (by simp [e])
        rw [ev, hs]
        by_cases hlt : k ≤ n
        · rw [if_pos hlt, if_pos (by omega)]
        · rw [if_neg hlt, if_neg (by omega), Act.put_comm _ _ _ fun d hd => hdst k (by omega) e d hd]
  rw [key M (Nat.le_refl _), if_neg (by omega), ← ha']
  obtain ⟨x1, x2, x3⟩ := hW.2.1 n (by simp) hnM (done n hnM)
  exact hz (bs n) W ⟨hW.1, x1, x2, x3⟩
/-- two variables, one behind the other -/
theorem wp_quiet_made2 {id : Nat} {R : Exit → Act → World → Prop} {a : Act} {w : World} {l : List Oper} (n M : Nat) (o1 o2 : Oper) (c1 c2 : Array Value) (t1 t2 : TypeId) (hm : P.follows .mixedOrders = true) (h1 : l[n]? = some o1) (h2 : l[n + 1]? = some o2) (g1 : o1.guard = none) (g2 : o2.guard = none) (hnM : n + 1 < M)
    (hB : madeB .any l.toArray (fun i => i == n || i == n + 1) M = true)
    (r1 : ∀ (a : Act) w, (execOp a.eval o1).run P w = .ok (.value (.pointer (some ⟨w.heap.size, 0, none⟩))) (w.alloc (.cells c1 t1)))
    (r2 : ∀ (a : Act) w, (execOp a.eval o2).run P w = .ok (.value (.pointer (some ⟨w.heap.size, 0, none⟩))) (w.alloc (.cells c2 t2)))
    (h : wpQE P l.toArray (Below w.heap.size w) (fun a' => ∀ b1 b2 W, Below w.heap.size w W → MadeAt w c1 b1 W → MadeAt w c2 b2 W → b1 ≠ b2 →
      wpList P l.toArray R (l.drop M) ((a'.put o1.dst (.pointer (some ⟨b1, 0, none⟩))).put o2.dst (.pointer (some ⟨b2, 0, none⟩))) W) (((l.take M).eraseIdx n).eraseIdx n) a) : (Code.region id l.toArray true).wp P R a w := by
  have hM : M < l.length := by
    simp only [madeB, Bool.and_eq_true, decide_eq_true_eq] at hB
    simpa using hB.1.1.1.1.1.1.2
  have d1 : dstAt l.toArray n = o1.dst := by unfold dstAt; rw [List.getElem?_toArray, h1]; rfl
  have d2 : dstAt l.toArray (n + 1) = o2.dst := by unfold dstAt; rw [List.getElem?_toArray, h2]; rfl
  have hdst : ∀ i j, i < M → j < M → i ≠ j → ∀ d, dstAt l.toArray i = some d → dstAt l.toArray j ≠ some d := fun i j hi hj hne d hd => by
    simp only [madeB, Bool.and_eq_true, decide_eq_true_eq] at hB
    have := List.all_eq_true.1 (List.all_eq_true.1 hB.1.1.2 i (List.mem_range.2 hi)) j (List.mem_range.2 hj)
    simp only [hd, Bool.or_eq_true, beq_iff_eq, bne_iff_ne] at this
    exact this.resolve_left hne
  refine wp_quiet_made (fun i => i == n || i == n + 1) M (fun k => if k = n then c1 else c2) (fun k => if k = n then t1 else t2) hm hB (fun i hi _ => by
    by_cases e : i = n
    · subst e
      exact ⟨o1, h1, g1, fun a w => by rw [if_pos rfl, if_pos rfl]; exact r1 a w⟩
    · obtain rfl : i = n + 1 := by simp at hi; omega
      exact ⟨o2, h2, g2, fun a w => by rw [if_neg (by omega), if_neg (by omega)]; exact r2 a w⟩) ?_
  rw [quietOf_two _ _ _ (Nat.zero_le _), Nat.sub_zero]
  refine wpQE_mono (fun a' hz v bs W ha' hW => ?_) _ _ h
  have done : ∀ k, k < M → (Array.ofFn (n := l.toArray.size) fun i => decide (i.val < M)).getD k false = true := fun k hk => done_ofFn _ M k hk (by simp; omega)
  have key : ∀ k, k ≤ M → laidOn l.toArray (fun k => if (k == n || k == n + 1) = true then .pointer (some ⟨bs k, 0, none⟩) else v k) (Array.ofFn (n := l.toArray.size) fun i => decide (i.val < M)) a k =
      if k ≤ n then seqOn l.toArray v (fun i => i == n || i == n + 1) 0 a k else if k ≤ n + 1 then (seqOn l.toArray v (fun i => i == n || i == n + 1) 0 a k).put o1.dst (.pointer (some ⟨bs n, 0, none⟩))
      else ((seqOn l.toArray v (fun i => i == n || i == n + 1) 0 a k).put o1.dst (.pointer (some ⟨bs n, 0, none⟩))).put o2.dst (.pointer (some ⟨bs (n + 1), 0, none⟩)) := by
    intro k
    induction k with
    | zero => intro _; rw [if_pos (Nat.zero_le _)]; rfl
    | succ k ih =>
      intro hk
      unfold laidOn
      rw [done k (by omega), if_pos rfl, ih (by omega)]
      by_cases e : k = n
      · subst e
        have hs : seqOn l.toArray v (fun i => i == k || i == k + 1) 0 a (k + 1) = seqOn l.toArray v (fun i => i == k || i == k + 1) 0 a k := by
          show (if _ then _ else _ : Act) = _
          rw [if_pos (by simp)]
        rw [if_pos (Nat.le_refl _), if_pos (by simp), if_neg (by omega), if_pos (by omega), d1, hs]
      · by_cases e2 : k = n + 1
        · subst e2
          have hs : seqOn l.toArray v (fun i => i == n || i == n + 1) 0 a (n + 1 + 1) = seqOn l.toArray v (fun i => i == n || i == n + 1) 0 a (n + 1) := by
            show (if _ then _ else _ : Act) = _
            rw [if_pos (by simp)]
          rw [if_neg (by omega), if_pos (Nat.le_refl _), if_pos (by simp), if_neg (by omega), if_neg (by omega), d2, hs]
        · have hs : seqOn l.toArray v (fun i => i == n || i == n + 1) 0 a (k + 1) = (seqOn l.toArray v (fun i => i == n || i == n + 1) 0 a k).put (dstAt l.toArray k) (v k) := by
            show (if _ then _ else _ : Act) = _
            rw [if_neg (by simp [e, e2]), Nat.zero_add]
          have ev : (if (k == n || k == n + 1) = true then Value.pointer (some ⟨bs k, 0, none⟩) else v k) = v k := if_neg (by simp [e, e2])
          rw [ev, hs]
          by_cases hlt : k ≤ n
          · rw [if_pos hlt, if_pos (by omega)]
          · have c1 := fun d hd => hdst n k (by omega) (by omega) (Ne.symm e) d hd
            have c2 := fun d hd => hdst (n + 1) k (by omega) (by omega) (Ne.symm e2) d hd
            rw [d1] at c1
            rw [d2] at c2
            rw [if_neg hlt, if_neg (by omega), if_neg (by omega), if_neg (by omega), Act.put_comm _ _ _ c2, Act.put_comm _ _ _ c1]
  rw [key M (Nat.le_refl _), if_neg (by omega), if_neg (by omega), ← ha']
  have m1 := hW.2.1 n (by simp) (by omega) (done n (by omega))
  have m2 := hW.2.1 (n + 1) (by simp) hnM (done (n + 1) hnM)
  have x1 : (fun k => if k = n then c1 else c2) n = c1 := if_pos rfl
  have x2 : (fun k => if k = n then c1 else c2) (n + 1) = c2 := if_neg (by omega)
  rw [x1] at m1
  rw [x2] at m2
  exact hz (bs n) (bs (n + 1)) W hW.1 m1 m2 (hW.2.2 n (n + 1) (by simp) (by omega) (by simp) (by omega) (done n (by omega)) (done (n + 1) (by omega)) (by omega))
end
end
end Go.Proofs.YtjmmmggnbndolaaGreat
