/- A statement whose order Go leaves open, in which two variables are made, and the store into the first one may come before what the second one is to hold is read: one walk serves every order. -/
import Derived.Test.YtjmmmggnbndolaaReg
import Derived.Laws.CopyOwn
namespace Go.Proofs.Ytjmmmggnbndolaa
open Go Go.RowKit
set_option linter.unusedSimpArgs false
set_option linter.unusedVariables false

section
variable {P : Program} {ops : Array Oper} {md : Region.Mode}
/-- the operations before n are quiet, n and n + 1 make variables, n + 2 stores into the first one what q yields, the rest follow in a forced order -/
def madeSB (md : Region.Mode) (ops : Array Oper) (n q : Nat) : Bool :=
  Region.noSelect ops && decide (n + 3 < ops.size) && Region.sinkB md ops (n + 3) && Region.chainB md ops (n + 3) &&
  ((List.range (n + 3)).all fun i => match ops[i]? with | some o => o.after.all fun e => !Region.binds md e || decide (e.on < i) | none => true) &&
  ((List.range (n + 3)).all fun i => (List.range (n + 3)).all fun j => i == j || (match dstAt ops i with | some d => dstAt ops j != some d | none => true)) &&
  ((List.range n).all fun i => match ops[i]? with
    | some o => (List.range (n + 3)).all fun j => match dstAt ops j with
      | some d => !(o.looksAt ops).contains d || (decide (j < i) && o.after.any fun e => Region.binds md e && e.on == j)
      | none => true
    | none => true) &&
  (decide (q < n) && match ops[n + 2]? with | some o => o.dst.isNone && (o.after.any fun e => Region.binds md e && e.on == n) && (o.after.any fun e => Region.binds md e && e.on == q) | none => false) &&
  Region.seqB md ops (ops.size - (n + 3)) (n + 3) (Array.ofFn (n := ops.size) fun i => decide (i.val < n + 3))

theorem laid_key {V v : Nat → Value} {lst : Array Bool} {a0 : Act} {n i M : Nat} {t : Tmp} (hin : i ≤ n) (hV : ∀ k, k < n → V k = v k) (look : ∀ j, j < M → dstAt ops j = some t → j < i ∧ lst.getD j false = true) :
    ∀ k, k ≤ M → (laidOn ops V lst a0 k).tmps[t]? = (seqOn ops v (fun j => decide (n ≤ j)) 0 a0 (min k i)).tmps[t]? := by
  intro k
  induction k with
  | zero => intro _; rw [Nat.zero_min]; rfl
  | succ k ihk =>
    intro hk
    have ih' := ihk (by omega)
    by_cases hd : dstAt ops k = some t
    · obtain ⟨h1, h2⟩ := look k (by omega) hd
      have e1 : min (k + 1) i = k + 1 := by omega
      have e2 : min k i = k := by omega
      rw [e1]
      rw [e2] at ih'
      have hs1 := seqOn_size (ops := ops) v (fun j => decide (n ≤ j)) 0 a0 k
      have hl1 := laidOn_size (ops := ops) V lst a0 k
      have x1 : laidOn ops V lst a0 (k + 1) = (laidOn ops V lst a0 k).put (some t) (V k) := by
        show (if _ then _ else _ : Act) = _
        rw [if_pos h2, hd]
      have x2 : seqOn ops v (fun j => decide (n ≤ j)) 0 a0 (k + 1) = (seqOn ops v (fun j => decide (n ≤ j)) 0 a0 k).put (some t) (v k) := by
        show (if _ then _ else _ : Act) = _
        rw [if_neg (by simp; omega), Nat.zero_add, hd]
      rw [x1, x2, hV k (by omega)]
      show ((laidOn ops V lst a0 k).tmps.setIfInBounds t (v k))[t]? = ((seqOn ops v (fun j => decide (n ≤ j)) 0 a0 k).tmps.setIfInBounds t (v k))[t]?
      rw [Array.getElem?_setIfInBounds_self, Array.getElem?_setIfInBounds_self, hs1, hl1]
    · have e1 : (laidOn ops V lst a0 (k + 1)).tmps[t]? = (laidOn ops V lst a0 k).tmps[t]? := by
        show (if _ then _ else _ : Act).tmps[t]? = _
        split
        · exact put_other hd
        · rfl
      rw [e1, ih']
      by_cases hki : k < i
      · rw [show min (k + 1) i = k + 1 by omega, show min k i = k by omega]
        show _ = (if _ then _ else _ : Act).tmps[t]?
        split
        · rfl
        · rw [put_other (by rw [Nat.zero_add]; exact hd)]
      · rw [show min (k + 1) i = i by omega, show min k i = i by omega]
theorem laid_slot {V : Nat → Value} {lst : Array Bool} {a0 : Act} {n M : Nat} {t : Tmp} (ht : t < a0.tmps.size) (hn : dstAt ops n = some t) (hdone : lst.getD n false = true) (only : ∀ j, j < M → j ≠ n → dstAt ops j ≠ some t) :
    ∀ k, n < k → k ≤ M → (laidOn ops V lst a0 k).tmps[t]? = some (V n) := by
  intro k
  induction k with
  | zero => intro h; omega
  | succ k ihk =>
    intro h1 h2
    by_cases e : k = n
    · subst e
      have x1 : laidOn ops V lst a0 (k + 1) = (laidOn ops V lst a0 k).put (some t) (V k) := by
        show (if _ then _ else _ : Act) = _
        rw [if_pos hdone, hn]
      rw [x1]
      show ((laidOn ops V lst a0 k).tmps.setIfInBounds t (V k))[t]? = _
      rw [Array.getElem?_setIfInBounds_self, laidOn_size, if_pos ht]
    · have e1 : (laidOn ops V lst a0 (k + 1)).tmps[t]? = (laidOn ops V lst a0 k).tmps[t]? := by
        show (if _ then _ else _ : Act).tmps[t]? = _
        split
        · exact put_other (only k (by omega) e)
        · rfl
      rw [e1]
      exact ihk (by omega) (by omega)
theorem MadeAt.below {W0 w w' : World} {c : Array Value} {b : Nat} (h : MadeAt W0 c b w) (hb : Below w.heap.size w w') : MadeAt W0 c b w' := by
  obtain ⟨x1, x2, x3⟩ := h
  obtain ⟨y1, y2⟩ := keepB hb (isRow_lt x2) x2 x3
  exact ⟨x1, y1, y2⟩
/-- what is known of the world -/
def MadeS (W0 : World) (n : Nat) (c1 c2 c' : Array Value) (b1 b2 : Nat) (lst : Array Bool) (w : World) : Prop :=
  Below W0.heap.size W0 w ∧ (lst.getD n false = true → MadeAt W0 (if lst.getD (n + 2) false = true then c' else c1) b1 w) ∧ (lst.getD (n + 1) false = true → MadeAt W0 c2 b2 w) ∧
    (lst.getD n false = true → lst.getD (n + 1) false = true → b1 ≠ b2) ∧ (lst.getD (n + 2) false = true → lst.getD n false = true)
theorem closed_madeS (W0 : World) (n : Nat) (c1 c2 c' : Array Value) (b1 b2 : Nat) (lst : Array Bool) : Closed (MadeS W0 n c1 c2 c' b1 b2 lst) := fun w w' h hb =>
  ⟨h.1.trans (hb.mono h.1.size), fun h1 => (h.2.1 h1).below hb, fun h1 => (h.2.2.1 h1).below hb, h.2.2.2.1, h.2.2.2.2⟩
def twoV (n b1 b2 : Nat) (v : Nat → Value) : Nat → Value := fun k => if k = n then .pointer (some ⟨b1, 0, none⟩) else if k = n + 1 then .pointer (some ⟨b2, 0, none⟩) else v k
theorem twoV_low {n b1 b2 k : Nat} {v : Nat → Value} (h : k < n) : twoV n b1 b2 v k = v k := by unfold twoV; rw [if_neg (by omega), if_neg (by omega)]

theorem any_of_madeS {R : Exit → Act → World → Prop} {W0 : World} {n q : Nat} {a0 : Act} {c1 c2 c' : Array Value} {t1 t2 : TypeId} {v : Nat → Value} {o1 o2 os : Oper} {d1 dq : Tmp} (hB : madeSB md ops n q = true)
    (h1 : ops[n]? = some o1) (h2 : ops[n + 1]? = some o2) (hst : ops[n + 2]? = some os) (g1 : o1.guard = none) (g2 : o2.guard = none) (gs : os.guard = none) (e1 : o1.dst = some d1) (hd1 : d1 < a0.tmps.size) (eq : dstAt ops q = some dq)
    (hq : ∀ i o, i < n → ops[i]? = some o → YieldsE P ops (Below W0.heap.size W0) o (v i) (seqOn ops v (fun j => decide (n ≤ j)) 0 a0 i))
    (r1 : ∀ (a : Act) w, (execOp a.eval o1).run P w = .ok (.value (.pointer (some ⟨w.heap.size, 0, none⟩))) (w.alloc (.cells c1 t1)))
    (r2 : ∀ (a : Act) w, (execOp a.eval o2).run P w = .ok (.value (.pointer (some ⟨w.heap.size, 0, none⟩))) (w.alloc (.cells c2 t2)))
    (rs : ∀ (A : Act) w b, A.eval (.tmp d1) = .pointer (some ⟨b, 0, none⟩) → A.eval (.tmp dq) = (seqOn ops v (fun j => decide (n ≤ j)) 0 a0 n).eval (.tmp dq) → IsRow w b → blk w b = c1 → (execOp A.eval os).run P w = .ok .skip (w.setRow b c'))
    (hfin : ∀ b1 b2 lst w, lst = (Array.ofFn (n := ops.size) fun i => decide (i.val < n + 3)) → MadeS W0 n c1 c2 c' b1 b2 lst w → wpAny P md ops R (ops.size - (n + 3)) lst (laidOn ops (twoV n b1 b2 v) lst a0 (n + 3)) w) :
    ∀ (u : Nat) (lst : Array Bool) (b1 b2 : Nat) (w : World), HeadInv md ops (n + 3) lst → undone lst (n + 3) = u → MadeS W0 n c1 c2 c' b1 b2 lst w →
      wpAny P md ops R (u + (ops.size - (n + 3))) lst (laidOn ops (twoV n b1 b2 v) lst a0 (n + 3)) w := by
  simp only [madeSB, Bool.and_eq_true, decide_eq_true_eq] at hB
  obtain ⟨⟨⟨⟨⟨⟨⟨⟨hsel, hMN⟩, hs⟩, hc⟩, hback⟩, hdst⟩, hlook⟩, hqn, hsto⟩, hseq⟩ := hB
  rw [hst] at hsto
  simp only [Bool.and_eq_true, Option.isNone_iff_eq_none] at hsto
  obtain ⟨⟨hs0, hsn⟩, hsq⟩ := hsto
  have hdst' : ∀ i j, i < n + 3 → j < n + 3 → i ≠ j → ∀ d, dstAt ops i = some d → dstAt ops j ≠ some d := fun i j hi hj hne d hd => by
    have := List.all_eq_true.1 (List.all_eq_true.1 hdst i (List.mem_range.2 hi)) j (List.mem_range.2 hj)
    simp only [hd, Bool.or_eq_true, beq_iff_eq, bne_iff_ne] at this
    exact this.resolve_left hne
  have dn : dstAt ops n = some d1 := by unfold dstAt; rw [h1]; exact e1
  have ds : dstAt ops (n + 2) = none := by unfold dstAt; rw [hst]; exact hs0
  intro u
  induction u with
  | zero =>
    intro lst b1 b2 w inv hu hw
    rw [Nat.zero_add]
    refine hfin b1 b2 lst w ?_ hw
    apply Array.ext
    · simp [inv.size]
    · intro i h1 h2
      simp only [Array.getElem_ofFn]
      by_cases hi : i < n + 3
      · have := undone_zero hu (by rw [inv.size]; omega) i hi
        simp [h1] at this
        simp [this, hi]
      · have := inv.tail i (by omega) (by rw [← inv.size]; exact h1)
        simp [h1] at this
        simp [this, hi]
  | succ u ih =>
    intro lst b1 b2 w inv hu hw
    rw [show u + 1 + (ops.size - (n + 3)) = (u + (ops.size - (n + 3))) + 1 by omega]
    obtain ⟨i0, hi0, hun0, hmin⟩ := undone_pos (n + 3) (by rw [hu]; omega)
    have hr0 : i0 ∈ Region.ready md ops lst := by
      refine mem_ready.2 ⟨hun0, ops[i0]'(by omega), by simp, fun e he hb => ?_⟩
      have := List.all_eq_true.1 hback i0 (List.mem_range.2 hi0)
      rw [Array.getElem?_eq_getElem (by omega : i0 < ops.size)] at this
      have := (Array.all_eq_true_iff_forall_mem.1 this) e he
      rw [hb] at this
      have hlt : e.on < i0 := by simpa using this
      have h2 := hmin e.on hlt
      have h3 : e.on < lst.size := by rw [inv.size]; omega
      simp [h3] at h2 ⊢
      exact h2
    refine ⟨fun h0 => (by rw [h0] at hr0; cases hr0), fun i hi => ?_⟩
    have hiM : i < n + 3 := (Nat.lt_or_ge i (n + 3)).resolve_right fun h => tail_waits hs hc hMN inv _ i0 rfl hi0 hun0 i h hi
    obtain ⟨hun, oi, hoi, hall⟩ := mem_ready.1 hi
    have hcnt : undone (lst.setIfInBounds i true) (n + 3) = u := by
      have := undone_set hun (n + 3)
      rw [if_pos hiM, hu] at this
      omega
    have hdi : dstAt ops i = oi.dst := by unfold dstAt; rw [hoi]; rfl
    have hilt : i < lst.size := by rw [inv.size]; omega
    have self : (lst.setIfInBounds i true).getD i false = true := by simp [hilt]
    have hfalse : lst.getD i false = false := getD_both hun
    by_cases hin : i < n
    · -- a quiet operation
      have hy := hq i oi hin hoi
      have hy' : YieldsE P ops (Below W0.heap.size W0) oi (v i) (laidOn ops (twoV n b1 b2 v) lst a0 (n + 3)) := by
        refine hy.of_slots (fun cs b => Region.noSelect_spec hsel i oi cs b hoi) fun t ht => ?_
        have look : ∀ j, j < n + 3 → dstAt ops j = some t → j < i ∧ lst.getD j false = true := fun j hj hd => by
          have := List.all_eq_true.1 hlook i (List.mem_range.2 hin)
          rw [hoi] at this
          simp only at this
          have := List.all_eq_true.1 this j (List.mem_range.2 hj)
          rw [hd] at this
          simp only [Bool.or_eq_true, Bool.not_eq_true', Bool.and_eq_true, decide_eq_true_eq] at this
          rcases this with h | ⟨h1, h2⟩
          · rw [List.contains_eq_mem] at h
            simp [ht] at h
          · obtain ⟨e, he, h⟩ := any_mem h2
            simp only [Bool.and_eq_true, beq_iff_eq] at h
            exact ⟨h1, by rw [← h.2]; exact hall e he h.1⟩
        have := laid_key (a0 := a0) (Nat.le_of_lt hin) (fun k hk => twoV_low (b1 := b1) (b2 := b2) (v := v) hk) look (n + 3) (Nat.le_refl _)
        rw [show min (n + 3) i = i by omega] at this
        exact this
      have hyI := hy'.at (D := MadeS W0 n c1 c2 c' b1 b2 lst) (fun w h => h.1) (closed_madeS W0 n c1 c2 c' b1 b2 lst)
      refine wpOp_of_qOp (C := MadeS W0 n c1 c2 c' b1 b2 lst) (K := fun a' => a' = laidOn ops (twoV n b1 b2 v) (lst.setIfInBounds i true) a0 (n + 3)) hw (fun a' w' hw' ha' => ?_) (hyI.qOp hoi ?_)
      · subst ha'
        refine ih _ b1 b2 w' (inv.set hi hiM) hcnt ?_
        unfold MadeS at hw' ⊢
        rw [getD_set_ne false (show i ≠ n by omega), getD_set_ne false (show i ≠ n + 1 by omega), getD_set_ne false (show i ≠ n + 2 by omega)]
        exact hw'
      · rw [← hdi]
        exact laidOn_put hun (twoV_low hin) (fun _ _ _ => rfl) (n + 3) hiM fun j hj hne d hd => hdst' i j hiM hj (Ne.symm hne) d hd
    · rcases (show i = n ∨ i = n + 1 ∨ i = n + 2 by omega) with ei | ei | ei
      · -- the first variable is made
        subst ei
        rw [h1] at hoi
        cases hoi
        unfold wpOp
        simp only [h1]
        rw [if_pos (by simp [Region.wanted, g1])]
        refine .inl ?_
        unfold Oper.wp
        rw [r1]
        simp only [Oper.upon]
        have e : (laidOn ops (twoV i b1 b2 v) lst a0 (i + 3)).put o1.dst (.pointer (some ⟨w.heap.size, 0, none⟩)) = laidOn ops (twoV i w.heap.size b2 v) (lst.setIfInBounds i true) a0 (i + 3) := by
          rw [← hdi]
          refine laidOn_put hun (by unfold twoV; rw [if_pos rfl]) (fun j hj _ => by unfold twoV; rw [if_neg hj, if_neg hj]) (i + 3) hiM fun j hj hne d hd => hdst' i j hiM hj (Ne.symm hne) d hd
        rw [e]
        have hno : ¬ lst.getD (i + 2) false = true := fun h => by rw [hw.2.2.2.2 h] at hfalse; cases hfalse
        refine ih _ _ _ _ (inv.set hi hiM) hcnt ?_
        unfold MadeS
        rw [self, getD_set_ne false (show i ≠ i + 1 by omega), getD_set_ne false (show i ≠ i + 2 by omega), if_neg hno]
        exact ⟨hw.1.alloc hw.1.size _, fun _ => ⟨hw.1.size, ⟨_, _, heap_alloc_last _ _⟩, blk_new _ _ _⟩, fun h => (hw.2.2.1 h).below ((Below.refl w.heap.size w).alloc (Nat.le_refl _) _), fun _ h => by have := isRow_lt (hw.2.2.1 h).2.1; omega, fun _ => rfl⟩
      · -- the second one
        subst ei
        rw [h2] at hoi
        cases hoi
        unfold wpOp
        simp only [h2]
        rw [if_pos (by simp [Region.wanted, g2])]
        refine .inl ?_
        unfold Oper.wp
        rw [r2]
        simp only [Oper.upon]
        have e : (laidOn ops (twoV n b1 b2 v) lst a0 (n + 3)).put o2.dst (.pointer (some ⟨w.heap.size, 0, none⟩)) = laidOn ops (twoV n b1 w.heap.size v) (lst.setIfInBounds (n + 1) true) a0 (n + 3) := by
          rw [← hdi]
          refine laidOn_put hun (by unfold twoV; rw [if_neg (by omega), if_pos rfl]) (fun j hj _ => by unfold twoV; split; rfl; simp only [if_neg hj]) (n + 3) hiM fun j hj hne d hd => hdst' (n + 1) j hiM hj (Ne.symm hne) d hd
        rw [e]
        refine ih _ _ _ _ (inv.set hi hiM) hcnt ?_
        unfold MadeS
        rw [self, getD_set_ne false (show n + 1 ≠ n by omega), getD_set_ne false (show n + 1 ≠ n + 2 by omega)]
        exact ⟨hw.1.alloc hw.1.size _, fun h => (hw.2.1 h).below ((Below.refl w.heap.size w).alloc (Nat.le_refl _) _), fun _ => ⟨hw.1.size, ⟨_, _, heap_alloc_last _ _⟩, blk_new _ _ _⟩, fun h _ => by have := isRow_lt (hw.2.1 h).2.1; omega, hw.2.2.2.2⟩
      · -- the store
        subst ei
        rw [hst] at hoi
        cases hoi
        obtain ⟨en, hen, hen2⟩ := any_mem hsn
        obtain ⟨eqq, heq, heq2⟩ := any_mem hsq
        simp only [Bool.and_eq_true, beq_iff_eq] at hen2 heq2
        have ndone : lst.getD n false = true := by rw [← hen2.2]; exact hall en hen hen2.1
        have qdone : lst.getD q false = true := by rw [← heq2.2]; exact hall eqq heq heq2.1
        have hm := hw.2.1 ndone
        have hno : ¬ lst.getD (n + 2) false = true := by rw [hfalse]; simp
        rw [if_neg hno] at hm
        have ev1 : (laidOn ops (twoV n b1 b2 v) lst a0 (n + 3)).eval (.tmp d1) = .pointer (some ⟨b1, 0, none⟩) := by
          have := laid_slot (V := twoV n b1 b2 v) (M := n + 3) hd1 dn ndone (fun j hj hne hd => hdst' n j (by omega) hj (Ne.symm hne) d1 dn hd) (n + 3) (by omega) (Nat.le_refl _)
          simp [Act.eval, this, twoV]
        have ev2 : (laidOn ops (twoV n b1 b2 v) lst a0 (n + 3)).eval (.tmp dq) = (seqOn ops v (fun j => decide (n ≤ j)) 0 a0 n).eval (.tmp dq) := by
          have := laid_key (a0 := a0) (lst := lst) (M := n + 3) (t := dq) (ops := ops) (Nat.le_refl n) (fun k hk => twoV_low (b1 := b1) (b2 := b2) (v := v) hk) (fun j hj hd => by
            by_cases ej : j = q
            · subst ej; exact ⟨hqn, qdone⟩
            · exact (hdst' q j (by omega) hj (Ne.symm ej) dq eq hd).elim) (n + 3) (Nat.le_refl _)
          rw [show min (n + 3) n = n by omega] at this
          simp [Act.eval, this]
        unfold wpOp
        simp only [hst]
        rw [if_pos (by simp [Region.wanted, gs])]
        refine .inl ?_
        unfold Oper.wp
        rw [rs _ w b1 ev1 ev2 hm.2.1 hm.2.2]
        simp only [Oper.upon]
        have e := laidOn_put (ops := ops) (a := a0) (V := twoV n b1 b2 v) (V' := twoV n b1 b2 v) hun rfl (fun _ _ _ => rfl) (n + 3) hiM fun j hj hne d hd => hdst' (n + 2) j hiM hj (Ne.symm hne) d hd
        rw [ds] at e
        have e' : laidOn ops (twoV n b1 b2 v) lst a0 (n + 3) = laidOn ops (twoV n b1 b2 v) (lst.setIfInBounds (n + 2) true) a0 (n + 3) := e
        rw [hs0]
        show wpAny P md ops R (u + (ops.size - (n + 3))) (lst.setIfInBounds (n + 2) true) (laidOn ops (twoV n b1 b2 v) lst a0 (n + 3)) (w.setRow b1 c')
        rw [e']
        refine ih _ _ _ _ (inv.set hi hiM) hcnt ?_
        unfold MadeS
        rw [self, getD_set_ne false (show n + 2 ≠ n by omega), getD_set_ne false (show n + 2 ≠ n + 1 by omega), if_pos rfl]
        refine ⟨below_setRow hw.1 hm.1 _, fun _ => ⟨hm.1, (isRow_setRow _ _ _ _).2 hm.2.1, by rw [blk_setRow _ _ _ _ hm.2.1, if_pos rfl]⟩, fun h => ?_, hw.2.2.2.1, fun _ => ndone⟩
        obtain ⟨x1, x2, x3⟩ := hw.2.2.1 h
        exact ⟨x1, (isRow_setRow _ _ _ _).2 x2, by rw [blk_setRow _ _ _ _ hm.2.1, if_neg (Ne.symm (hw.2.2.2.1 ndone h))]; exact x3⟩

theorem quietOf_low {al : Nat → Bool} : ∀ (l : List Oper) (k : Nat), (∀ j, j < l.length → al (k + j) = false) → quietOf al l k = l
  | [], _, _ => rfl
  | o :: l, k, h => by
    unfold quietOf
    rw [if_neg (by have := h 0 (by simp); rw [Nat.add_zero] at this; rw [this]; simp), quietOf_low l (k + 1) fun j hj => by have := h (j + 1) (by simp; omega); rw [show k + 1 + j = k + (j + 1) by omega]; exact this]
/-- two variables, the first one's store among what is open -/
theorem wp_quiet_made2s {id : Nat} {R : Exit → Act → World → Prop} {a : Act} {w : World} {l : List Oper} (n q : Nat) (o1 o2 os : Oper) (c1 c2 : Array Value) (t1 t2 T : TypeId) (d1 dq : Tmp) (hm : P.follows .mixedOrders = true) (h1 : l[n]? = some o1) (h2 : l[n + 1]? = some o2) (hst : l[n + 2]? = some os)
    (g1 : o1.guard = none) (g2 : o2.guard = none) (gs : os.guard = none) (e1 : o1.dst = some d1) (hd1 : d1 < a.tmps.size) (eq : dstAt l.toArray q = some dq)
    (hB : madeSB .any l.toArray n q = true)
    (r1 : ∀ (a : Act) w, (execOp a.eval o1).run P w = .ok (.value (.pointer (some ⟨w.heap.size, 0, none⟩))) (w.alloc (.cells c1 t1)))
    (r2 : ∀ (a : Act) w, (execOp a.eval o2).run P w = .ok (.value (.pointer (some ⟨w.heap.size, 0, none⟩))) (w.alloc (.cells c2 t2)))
    (rs : ∀ (A : Act) W, (execOp A.eval os).run P W = storeN P T (A.eval (.tmp d1)) (A.eval (.tmp dq)) W)
    (h : wpQE P l.toArray (Below w.heap.size w) (fun a' => ∃ c', (∀ b W, IsRow W b → blk W b = c1 → storeN P T (.pointer (some ⟨b, 0, none⟩)) (a'.eval (.tmp dq)) W = .ok .skip (W.setRow b c')) ∧
      ∀ b1 b2 W, Below w.heap.size w W → MadeAt w c' b1 W → MadeAt w c2 b2 W → b1 ≠ b2 → wpList P l.toArray R (l.drop (n + 3)) ((a'.put o1.dst (.pointer (some ⟨b1, 0, none⟩))).put o2.dst (.pointer (some ⟨b2, 0, none⟩))) W) (l.take n) a) : (Code.region id l.toArray true).wp P R a w := by
  have hM : n + 3 < l.length := by
    simp only [madeSB, Bool.and_eq_true, decide_eq_true_eq] at hB
    simpa using hB.1.1.1.1.1.1.1.2
  have ds : dstAt l.toArray (n + 2) = none := by
    simp only [madeSB, Bool.and_eq_true, decide_eq_true_eq] at hB
    have := hB.1.2.2
    rw [show l.toArray[n + 2]? = some os by simpa using hst] at this
    simp only [Bool.and_eq_true, Option.isNone_iff_eq_none] at this
    unfold dstAt
    rw [show l.toArray[n + 2]? = some os by simpa using hst]
    exact this.1.1
  have ht : (l.take n).length = n := by simp; omega
  rw [← quietOf_low (al := fun j => decide (n ≤ j)) (l.take n) 0 (fun j hj => by rw [ht] at hj; simp; omega)] at h
  obtain ⟨v, hv, hZ⟩ := wpQE_vals (l.take n) 0 a (fun j hj => by
    have hj' : j < n := by rw [ht] at hj; exact hj
    simp [hj']) h
  rw [ht] at hZ
  obtain ⟨c', hs1, hs2⟩ := hZ
  refine wp_region_any hm ?_
  have inv : HeadInv .any l.toArray (n + 3) (Array.replicate l.toArray.size false) :=
    ⟨by simp, fun j _ _ hl => (by rw [getD_replicate_false] at hl; cases hl), fun t _ h1 => getD_in (by simpa using h1) (getD_replicate_false _ _)⟩
  have H := any_of_madeS (P := P) (R := R) (W0 := w) (a0 := a) (c1 := c1) (c2 := c2) (c' := c') (t1 := t1) (t2 := t2) (v := v) (md := .any) (ops := l.toArray) (o1 := o1) (o2 := o2) (os := os) (d1 := d1) (dq := dq) hB
    (by simpa using h1) (by simpa using h2) (by simpa using hst) g1 g2 gs e1 hd1 eq
    (fun i o hi ho => by have := hv i o (by rw [ht]; exact hi) (by simp; omega) (by rw [Nat.zero_add]; exact ho); rwa [Nat.zero_add] at this) r1 r2
    (fun A W b x1 x2 x3 x4 => by rw [rs, x1, x2]; exact hs1 b W x3 x4)
    (fun b1 b2 lst W hl hW => by
      have done : ∀ k, k < n + 3 → lst.getD k false = true := fun k hk => by rw [hl]; exact done_ofFn _ (n + 3) k hk (by simp; omega)
      have x1 := hW.2.1 (done n (by omega))
      rw [if_pos (done (n + 2) (by omega))] at x1
      have hl2 := hs2 b1 b2 W hW.1 x1 (hW.2.2.1 (done (n + 1) (by omega))) (hW.2.2.2.1 (done n (by omega)) (done (n + 1) (by omega)))
      have low : ∀ k, k ≤ n → laidOn l.toArray (twoV n b1 b2 v) lst a k = seqOn l.toArray v (fun j => decide (n ≤ j)) 0 a k := by
        intro k
        induction k with
        | zero => intro _; rfl
        | succ k ih =>
          intro hk
          show (if _ then _ else _ : Act) = (if _ then _ else _ : Act)
          rw [if_pos (done k (by omega)), if_neg (by simp; omega), ih (by omega), twoV_low (by omega), Nat.zero_add]
      have y1 : laidOn l.toArray (twoV n b1 b2 v) lst a (n + 1) = (seqOn l.toArray v (fun j => decide (n ≤ j)) 0 a n).put o1.dst (.pointer (some ⟨b1, 0, none⟩)) := by
        show (if _ then _ else _ : Act) = _
        rw [if_pos (done n (by omega)), low n (Nat.le_refl _), show dstAt l.toArray n = o1.dst by unfold dstAt; rw [show l.toArray[n]? = some o1 by simpa using h1]; rfl]
        unfold twoV
        rw [if_pos rfl]
      have y2 : laidOn l.toArray (twoV n b1 b2 v) lst a (n + 2) = ((seqOn l.toArray v (fun j => decide (n ≤ j)) 0 a n).put o1.dst (.pointer (some ⟨b1, 0, none⟩))).put o2.dst (.pointer (some ⟨b2, 0, none⟩)) := by
        show (if _ then _ else _ : Act) = _
        rw [if_pos (done (n + 1) (by omega)), y1, show dstAt l.toArray (n + 1) = o2.dst by unfold dstAt; rw [show l.toArray[n + 1]? = some o2 by simpa using h2]; rfl]
        unfold twoV
        rw [if_neg (by omega), if_pos rfl]
      have y3 : laidOn l.toArray (twoV n b1 b2 v) lst a (n + 3) = ((seqOn l.toArray v (fun j => decide (n ≤ j)) 0 a n).put o1.dst (.pointer (some ⟨b1, 0, none⟩))).put o2.dst (.pointer (some ⟨b2, 0, none⟩)) := by
        rw [← y2]
        show (if _ then _ else _ : Act) = _
        rw [if_pos (done (n + 2) (by omega)), ds]
        rfl
      rw [y3]
      subst hl
      have hd : (l.drop (n + 3)).length = l.toArray.size - (n + 3) := by simp
      have := wpAny_of_seq (md := .any) (Q' := R) (l.drop (n + 3)) (n + 3) _ _ W (fun j => by simp [List.getElem?_drop]) (by
        rw [hd]
        simp only [madeSB, Bool.and_eq_true] at hB
        exact hB.2) hl2
      rwa [hd] at this)
    (n + 3) (Array.replicate l.toArray.size false) 0 0 { w with drawn := w.drawn + 1 } inv (undone_none _ _ (by simp; omega)) ⟨(Below.refl _ _).drew, fun h3 => (by rw [getD_replicate_false] at h3; cases h3), fun h3 => (by rw [getD_replicate_false] at h3; cases h3), fun h3 => (by rw [getD_replicate_false] at h3; cases h3), fun h3 => (by rw [getD_replicate_false] at h3; cases h3)⟩
  rw [laidOn_none, show n + 3 + (l.toArray.size - (n + 3)) = l.toArray.size by simp only [List.size_toArray]; omega] at H
  exact H
end
end Go.Proofs.Ytjmmmggnbndolaa
