/- A statement whose order Go leaves open, in which a variable is made at any time before it is stored into: one walk serves every order. -/
import Derived.Test.YtnjjcimpcnennaaRegion
import Derived.Test.YtnjjcimpcnennaaArrT
namespace Go.Proofs.Ytnjjcimpcnennaa
open Go Go.RowKit
set_option linter.unusedSimpArgs false
set_option linter.unusedVariables false

section
variable {P : Program} {ops : Array Oper} {md : Region.Mode}

/-- a class that more new blocks do not leave -/
def Closed (D : World → Prop) : Prop := ∀ w w', D w → Below w.heap.size w w' → D w'
/-- in every closed class within C, operation o hands back v and keeps the class -/
def QuietE (P : Program) (C : World → Prop) (o : Oper) (a : Act) (v : Value) : Prop := ∀ D : World → Prop, (∀ w, D w → C w) → Closed D → ∀ w, D w → o.quietAt P a D w v
/-- the walk in the text's order -/
def wpQE (P : Program) (ops : Array Oper) (C : World → Prop) (Z : Act → Prop) : List Oper → Act → Prop
  | [], a => Z a
  | o :: rest, a => if Region.wanted o (yielded ops a.tmps) then ∃ v, QuietE P C o a v ∧ wpQE P ops C Z rest (a.put o.dst v) else wpQE P ops C Z rest (a.put o.dst undef)
def YieldsE (P : Program) (ops : Array Oper) (C : World → Prop) (o : Oper) (v : Value) (a : Act) : Prop :=
  (Region.wanted o (yielded ops a.tmps) = true ∧ QuietE P C o a v) ∨ (Region.wanted o (yielded ops a.tmps) = false ∧ v = undef)
theorem YieldsE.at {C D : World → Prop} {o : Oper} {v : Value} {a : Act} (h : YieldsE P ops C o v a) (hs : ∀ w, D w → C w) (hc : Closed D) : YieldsIn P ops D o v a := by
  rcases h with ⟨h1, h2⟩ | h
  · exact .inl ⟨h1, fun w hw => h2 D hs hc w hw⟩
  · exact .inr h
theorem YieldsE.put {C : World → Prop} {oi oj : Oper} {v u : Value} {a : Act} (hap : oi.apart ops oj = true) (hsi : ∀ cs b, oi.op ≠ .select cs b) (h : YieldsE P ops C oi v a) : YieldsE P ops C oi v (a.put oj.dst u) := by
  obtain ⟨_, _, h3⟩ := Oper.apart_spec hap
  unfold YieldsE QuietE Oper.quietAt at *
  rw [execOp_put oi hsi a oj.dst u h3, wanted_put oi a oj.dst u h3]
  exact h

/-- before the variable is made: f operations more, and its making at any time -/
def headA (P : Program) (md : Region.Mode) (ops : Array Oper) (C0 : World → Prop) (C1 : Nat → World → Prop) (n : Nat) (d : Option Tmp) (L : Nat → Array Bool → Act → Prop) : Nat → Array Bool → Act → Prop
  | 0, lst, a => Region.ready md ops lst ≠ [] ∧ ∀ i, i ∈ Region.ready md ops lst → i = n ∧ ∀ b, L b (lst.setIfInBounds n true) (a.put d (.pointer (some ⟨b, 0, none⟩)))
  | f + 1, lst, a => Region.ready md ops lst ≠ [] ∧ ∀ i, i ∈ Region.ready md ops lst →
      (i < n ∧ qOp P ops C0 i (headA P md ops C0 C1 n d L f (lst.setIfInBounds i true)) a) ∨
      (i = n ∧ ∀ b, headQ P md ops (C1 b) (n + 1) (L b) (f + 1) (lst.setIfInBounds n true) (a.put d (.pointer (some ⟨b, 0, none⟩))))

theorem any_of_headA {C0 : World → Prop} {C1 : Nat → World → Prop} {n g : Nat} {oa : Oper} {o : Obj} {L : Nat → Array Bool → Act → Prop} {R : Exit → Act → World → Prop} (ha : ops[n]? = some oa) (hg : oa.guard = none)
    (hrun : ∀ (a : Act) w, (execOp a.eval oa).run P w = .ok (.value (.pointer (some ⟨w.heap.size, 0, none⟩))) (w.alloc o)) (hC : ∀ w, C0 w → C1 w.heap.size (w.alloc o))
    (hL : ∀ b lst a w, C1 b w → L b lst a → wpAny P md ops R g lst a w) (f : Nat) :
    ∀ (lst : Array Bool) (a : Act) (w : World), C0 w → headA P md ops C0 C1 n oa.dst L f lst a → wpAny P md ops R (f + 1 + g) lst a w := by
  have step : ∀ (k : Nat) (lst : Array Bool) (a : Act) (w : World), C0 w → (∀ b w, C1 b w → wpAny P md ops R k lst (a.put oa.dst (.pointer (some ⟨b, 0, none⟩))) w) →
      wpOp P ops R n (wpAny P md ops R k lst) a w := by
    intro k lst a w hw h
    unfold wpOp
    simp only [ha]
    rw [if_pos (by simp [Region.wanted, hg])]
    refine .inl ?_
    unfold Oper.wp
    rw [hrun a w]
    exact h _ _ (hC w hw)
  induction f with
  | zero =>
    intro lst a w hw h
    rw [show 0 + 1 + g = g + 1 by omega]
    refine ⟨fun h0 => (h.1 h0).elim, fun i hi => ?_⟩
    obtain ⟨rfl, h2⟩ := h.2 i hi
    exact step g _ a w hw fun b w' hw' => hL b _ _ w' hw' (h2 b)
  | succ f ih =>
    intro lst a w hw h
    rw [show f + 1 + 1 + g = (f + 1 + g) + 1 by omega]
    refine ⟨fun h0 => (h.1 h0).elim, fun i hi => ?_⟩
    rcases h.2 i hi with ⟨_, h2⟩ | ⟨rfl, h2⟩
    · exact wpOp_of_qOp hw (fun a' w' hw' h' => ih _ a' w' hw' h') h2
    · exact step (f + 1 + g) _ a w hw fun b w' hw' => any_of_headQ (fun lst a w => hL b lst a w) (f + 1) _ _ w' hw' (h2 b)

theorem headA_first {C0 : World → Prop} {C1 : Nat → World → Prop} {n i : Nat} {oi oa : Oper} {v : Value} {L : Nat → Array Bool → Act → Prop} (ha : ops[n]? = some oa) (hi : ops[i]? = some oi) (hsel : ∀ (j : Nat) (o : Oper) cs b, ops[j]? = some o → o.op ≠ .select cs b)
    (hs : Region.sinkB md ops (n + 1) = true) (hc : Region.chainB md ops (n + 1) = true) (hn : n + 1 < ops.size) (hin : i < n) (hdone : ∀ b lst a, L b lst a → ∀ j, j ∈ Region.ready md ops lst → n + 1 ≤ j)
    (k0 : Closed C0) (k1 : ∀ b, Closed (C1 b)) (hsub : ∀ b w, C1 b w → C0 w) (f : Nat) :
    ∀ (lst : Array Bool) (a : Act), HeadInv md ops (n + 1) lst →
      (∀ j oj, ops[j]? = some oj → j ≠ i → lst.getD j true = false → (∀ e ∈ oj.after, Region.binds md e = true → e.on ≠ i) → oi.apart ops oj = true) →
      i ∈ Region.ready md ops lst → YieldsE P ops C0 oi v a → headA P md ops C0 C1 n oa.dst L f (lst.setIfInBounds i true) (a.put oi.dst v) → headA P md ops C0 C1 n oa.dst L (f + 1) lst a := by
  have notI : ∀ (lst : Array Bool) j oj, i ∈ Region.ready md ops lst → ops[j]? = some oj → j ∈ Region.ready md ops lst → ∀ x ∈ oj.after, Region.binds md x = true → x.on ≠ i := by
    intro lst j oj hr hoj hj x hx hb hxi
    obtain ⟨_, oj', hoj', hall⟩ := mem_ready.1 hj
    rw [hoj] at hoj'
    cases hoj'
    have := hall x hx hb
    rw [hxi, getD_both (mem_ready.1 hr).1] at this
    cases this
  have free' : ∀ (lst : Array Bool) j, (∀ k ok, ops[k]? = some ok → k ≠ i → lst.getD k true = false → (∀ e ∈ ok.after, Region.binds md e = true → e.on ≠ i) → oi.apart ops ok = true) → lst.getD j true = false →
      ∀ k ok, ops[k]? = some ok → k ≠ i → (lst.setIfInBounds j true).getD k true = false → (∀ e ∈ ok.after, Region.binds md e = true → e.on ≠ i) → oi.apart ops ok = true := by
    intro lst j hfree hjun k ok hk hki hun hno
    refine hfree k ok hk hki ?_ hno
    by_cases hjk : j = k
    · subst hjk; exact hjun
    · rw [getD_set_ne true hjk] at hun; exact hun
  -- the making comes up: from there on by the walk behind it
  have made : ∀ (m : Nat) (lst : Array Bool) (a : Act), HeadInv md ops (n + 1) lst →
      (∀ j oj, ops[j]? = some oj → j ≠ i → lst.getD j true = false → (∀ e ∈ oj.after, Region.binds md e = true → e.on ≠ i) → oi.apart ops oj = true) →
      i ∈ Region.ready md ops lst → n ∈ Region.ready md ops lst → YieldsE P ops C0 oi v a → ∀ b, headQ P md ops (C1 b) (n + 1) (L b) m ((lst.setIfInBounds i true).setIfInBounds n true) ((a.put oi.dst v).put oa.dst (.pointer (some ⟨b, 0, none⟩))) →
      headQ P md ops (C1 b) (n + 1) (L b) (m + 1) (lst.setIfInBounds n true) (a.put oa.dst (.pointer (some ⟨b, 0, none⟩))) := by
    intro m lst a inv hfree hr hna hy b H
    have hni : n ≠ i := by omega
    have hnun := (mem_ready.1 hna).1
    have hap := hfree n oa ha hni hnun (notI lst n oa hr ha hna)
    obtain ⟨_, h2, _⟩ := Oper.apart_spec hap
    have hy' : YieldsIn P ops (C1 b) oi v (a.put oa.dst (.pointer (some ⟨b, 0, none⟩))) := (hy.put hap (fun cs b => hsel i oi cs b hi)).at (fun w hw => hsub b w hw) (k1 b)
    refine headQ_first hi hsel hs hc hn (by omega) (fun lst a hL => hdone b lst a hL) m _ _ (inv.set hna (by omega)) (free' lst n hfree hnun) (ready_mono hr (Ne.symm hni)) hy' ?_
    rw [Array.setIfInBounds_comm _ _ hni, ← Act.put_comm a v _ h2]
    exact H
  have below : ∀ (lst : Array Bool), HeadInv md ops (n + 1) lst → lst.getD i true = false → ∀ j, j ∈ Region.ready md ops lst → j < n + 1 := fun lst inv hun j hj =>
    (Nat.lt_or_ge j (n + 1)).resolve_right fun h => tail_waits hs hc hn inv _ i rfl (by omega) hun j h hj
  induction f with
  | zero =>
    intro lst a inv hfree hr hy H
    refine ⟨List.ne_nil_of_mem hr, fun j hj => ?_⟩
    by_cases e : j = i
    · subst e; exact .inl ⟨hin, (hy.at (fun _ h => h) k0).qOp hi H⟩
    · obtain ⟨rfl, h2⟩ := H.2 j (ready_mono hj e)
      exact .inr ⟨rfl, fun b => made 0 lst a inv hfree hr hj hy b (h2 b)⟩
  | succ f ih =>
    intro lst a inv hfree hr hy H
    refine ⟨List.ne_nil_of_mem hr, fun j hj => ?_⟩
    by_cases e : j = i
    · subst e; exact .inl ⟨hin, (hy.at (fun _ h => h) k0).qOp hi H⟩
    · obtain ⟨hjun, oj, hoj, hall⟩ := mem_ready.1 hj
      rcases H.2 j (ready_mono hj e) with ⟨hjn, h2⟩ | ⟨rfl, h2⟩
      · have hap := hfree j oj hoj e hjun (notI lst j oj hr hoj hj)
        have h3 := qOp_put hoj hap (fun cs b => hsel i oi cs b hi) (fun cs b => hsel j oj cs b hoj) (hy.at (fun _ h => h) k0) h2
        refine .inl ⟨hjn, ?_⟩
        -- what 'oi' yields does not hang on what 'oj' leaves
        unfold qOp at h3 ⊢
        simp only [hoj] at h3 ⊢
        have fin : ∀ u, headA P md ops C0 C1 n oa.dst L f ((lst.setIfInBounds i true).setIfInBounds j true) ((a.put oj.dst u).put oi.dst v) → headA P md ops C0 C1 n oa.dst L (f + 1) (lst.setIfInBounds j true) (a.put oj.dst u) := fun u h4 => by
          refine ih _ _ (inv.set hj (by omega)) (free' lst j hfree hjun) (ready_mono hr (Ne.symm e)) (hy.put hap (fun cs b => hsel i oi cs b hi)) ?_
          rw [Array.setIfInBounds_comm _ _ e]
          exact h4
        split
        · rename_i hw
          simp only [hw, if_true] at h3
          obtain ⟨u, hu, h4⟩ := h3
          exact ⟨u, hu, fin u h4.2⟩
        · rename_i hw
          simp only [hw] at h3
          exact fin undef h3.2
      · exact .inr ⟨rfl, fun b => made (f + 1) lst a inv hfree hr hj hy b (h2 b)⟩

/-- the checks on such a region: n operations in the text's order, the making, the rest in a forced order -/
def allocB (md : Region.Mode) (ops : Array Oper) (n : Nat) : Bool :=
  Region.noSelect ops && decide (n + 1 < ops.size) && Region.sinkB md ops (n + 1) && Region.chainB md ops (n + 1) && Region.lexHead md ops (ops.size - n) n 0 (Array.replicate ops.size false)

theorem headA_lex {C0 : World → Prop} {C1 : Nat → World → Prop} {n g : Nat} {oa : Oper} {Z : Act → Prop} (ha : ops[n]? = some oa) (hsel : Region.noSelect ops = true) (hs : Region.sinkB md ops (n + 1) = true) (hc : Region.chainB md ops (n + 1) = true) (hn : n + 1 < ops.size)
    (k0 : Closed C0) (k1 : ∀ b, Closed (C1 b)) (hsub : ∀ b w, C1 b w → C0 w) (W : Nat → Act → Prop) (hZ : ∀ a, Z a → ∀ b, W b (a.put oa.dst (.pointer (some ⟨b, 0, none⟩)))) :
    ∀ (l : List Oper) (k : Nat) (lst : Array Bool) (a : Act), (∀ j, j < l.length → l[j]? = ops[k + j]?) → k + l.length = n → HeadInv md ops (n + 1) lst → Region.lexHead md ops (g + 1) l.length k lst = true →
      wpQE P ops C0 Z l a → headA P md ops C0 C1 n oa.dst (fun b lst' a' => Region.seqB md ops g (n + 1) lst' = true ∧ W b a') l.length lst a := by
  intro l
  induction l with
  | nil =>
    intro k lst a _ hk _ hB h
    have e : k = n := by simpa using hk
    subst e
    simp only [List.length_nil, Region.lexHead, Region.seqB, Bool.and_eq_true, decide_eq_true_eq] at hB
    refine ⟨by rw [hB.1]; simp, fun i hi => ?_⟩
    rw [hB.1] at hi
    obtain rfl : i = k := by simpa using hi
    exact ⟨rfl, fun b => ⟨hB.2, hZ a h b⟩⟩
  | cons o l ih =>
    intro k lst a hl hk inv hB h
    have h0 : ops[k]? = some o := by simpa using (hl 0 (by simp)).symm
    have hkn : k < n := by simp only [List.length_cons] at hk; omega
    simp only [List.length_cons, Region.lexHead, Bool.and_eq_true] at hB
    have hr : k ∈ Region.ready md ops lst := by simpa using hB.1.1
    have hy : ∃ v, YieldsE P ops C0 o v a ∧ wpQE P ops C0 Z l (a.put o.dst v) := by
      unfold wpQE at h
      by_cases hw : Region.wanted o (yielded ops a.tmps) = true
      · rw [if_pos hw] at h
        obtain ⟨v, h1, h2⟩ := h
        exact ⟨v, .inl ⟨hw, h1⟩, h2⟩
      · rw [if_neg hw] at h
        exact ⟨undef, .inr ⟨by simpa using hw, rfl⟩, h⟩
    obtain ⟨v, hy1, hK⟩ := hy
    refine headA_first ha h0 (Region.noSelect_spec hsel) hs hc hn hkn (fun _ _ _ hL => seqB_ready hL.1) k0 k1 hsub l.length lst a inv (Region.free_spec h0 hB.1.2) hr hy1 ?_
    refine ih (k + 1) _ _ (fun j hj => ?_) (by simp only [List.length_cons] at hk; omega) (inv.set hr (by omega)) hB.2 hK
    have := hl (j + 1) (by simp; omega)
    rw [show k + 1 + j = k + (j + 1) by omega, ← this]
    simp

theorem wp_quiet_alloc {id : Nat} {R : Exit → Act → World → Prop} {a : Act} {w : World} {l : List Oper} (n : Nat) (oa : Oper) (o : Obj) (C0 : World → Prop) (C1 : Nat → World → Prop) (hm : P.follows .mixedOrders = true) (ha : l[n]? = some oa) (hg : oa.guard = none)
    (hB : allocB .any l.toArray n = true) (hrun : ∀ (a : Act) w, (execOp a.eval oa).run P w = .ok (.value (.pointer (some ⟨w.heap.size, 0, none⟩))) (w.alloc o))
    (k0 : Closed C0) (k1 : ∀ b, Closed (C1 b)) (hsub : ∀ b w, C1 b w → C0 w) (hC1 : ∀ w, C0 w → C1 w.heap.size (w.alloc o)) (hC : C0 w.drew)
    (h : wpQE P l.toArray C0 (fun a' => ∀ b W, C1 b W → wpList P l.toArray R (l.drop (n + 1)) (a'.put oa.dst (.pointer (some ⟨b, 0, none⟩))) W) (l.take n) a) : (Code.region id l.toArray true).wp P R a w := by
  simp only [allocB, Bool.and_eq_true, decide_eq_true_eq] at hB
  obtain ⟨⟨⟨⟨hsel, hn⟩, hs⟩, hc⟩, hlex⟩ := hB
  have hn' : n + 1 < l.length := by simpa using hn
  have ht : (l.take n).length = n := by simp; omega
  have hd : (l.drop (n + 1)).length = l.toArray.size - n - 1 := by simp; omega
  have inv : HeadInv .any l.toArray (n + 1) (Array.replicate l.toArray.size false) :=
    ⟨by simp, fun j _ _ hl => (by rw [getD_replicate_false] at hl; cases hl), fun t _ h1 => getD_in (by simpa using h1) (getD_replicate_false _ _)⟩
  have hg1 : l.toArray.size - n = (l.toArray.size - n - 1) + 1 := by simp only [List.size_toArray]; omega
  rw [hg1] at hlex
  have ha' : l.toArray[n]? = some oa := by simpa using ha
  have H := headA_lex (P := P) (md := .any) (g := l.toArray.size - n - 1) ha' hsel hs hc hn k0 k1 hsub (fun b a' => ∀ W, C1 b W → wpList P l.toArray R (l.drop (n + 1)) a' W) (fun a h b W => h b W) (l.take n) 0 _ a (fun j hj => by
    have hj' : j < n := by rw [ht] at hj; exact hj
    simp [hj']) (by simpa using ht) inv (by rw [ht]; exact hlex) h
  refine wp_region_any hm ?_
  have := any_of_headA (P := P) (R := R) (g := l.toArray.size - n - 1) ha' hg hrun hC1 (fun b lst a' w' hw' hL => by
    have := wpAny_of_seq (md := .any) (Q' := R) (l.drop (n + 1)) (n + 1) lst a' w' (fun j => by simp [List.getElem?_drop]) (by rw [hd]; exact hL.1) (hL.2 w' hw')
    rwa [hd] at this) _ _ a _ hC H
  rw [ht, show n + 1 + (l.toArray.size - n - 1) = l.toArray.size by simp only [List.size_toArray]; omega] at this
  exact this

variable {C : World → Prop} {Z : Act → Prop} {a : Act} {o : Oper} {rest : List Oper}
theorem e_want (hw : Region.wanted o (yielded ops a.tmps) = true) (h : ∃ v, QuietE P C o a v ∧ wpQE P ops C Z rest (a.put o.dst v)) : wpQE P ops C Z (o :: rest) a := by
  unfold wpQE
  rw [if_pos hw]
  exact h
theorem e_skip (hw : Region.wanted o (yielded ops a.tmps) = false) (h : wpQE P ops C Z rest (a.put o.dst undef)) : wpQE P ops C Z (o :: rest) a := by
  unfold wpQE
  rw [if_neg (by rw [hw]; exact Bool.false_ne_true)]
  exact h
theorem e_nil (h : Z a) : wpQE P ops C Z [] a := h
end

/-- the worlds in which nothing below B has changed -/
theorem closed_below (w : World) : Closed (Below w.heap.size w) := fun _ _ h h' => h.trans (h'.mono h.size)
/-- .. and in which block b, made since, holds c -/
def Made (w : World) (c : Array Value) (b : Nat) (W : World) : Prop := Below w.heap.size w W ∧ w.heap.size ≤ b ∧ IsRow W b ∧ blk W b = c
theorem closed_made (w : World) (c : Array Value) (b : Nat) : Closed (Made w c b) := fun _ _ h h' =>
  ⟨h.1.trans (h'.mono h.1.size), h.2.1, keepB h' (isRow_lt h.2.2.1) h.2.2.1 h.2.2.2⟩
theorem made_new (w : World) (c : Array Value) (t : TypeId) (W : World) (h : Below w.heap.size w W) : Made w c W.heap.size (W.alloc (.cells c t)) :=
  ⟨h.alloc h.size _, h.size, ⟨c, t, heap_alloc_last _ _⟩, blk_new W c t⟩
end Go.Proofs.Ytnjjcimpcnennaa
