/- A statement whose order Go leaves open, in which a store into a variable that there is already may come before some of what follows is worked out: one walk serves every order. -/
import Derived.Test.YtjmmmggnbndolaaRegionH
import Derived.Test.YtjmmmggnbndolaaGen
namespace Go.Proofs.Ytjmmmggnbndolaa
open Go Go.RowKit
set_option linter.unusedSimpArgs false
set_option linter.unusedVariables false

section
variable {P : Program} {ops : Array Oper} {md : Region.Mode}
/-- the operations before n are quiet, n stores what q yields into what slot d1 points to, the rest follow in a forced order -/
def storeFB (md : Region.Mode) (ops : Array Oper) (n q d1 : Nat) : Bool :=
  Region.noSelect ops && decide (n + 1 < ops.size) && Region.sinkB md ops (n + 1) && Region.chainB md ops (n + 1) &&
  ((List.range (n + 1)).all fun i => match ops[i]? with | some o => o.after.all fun e => !Region.binds md e || decide (e.on < i) | none => true) &&
  ((List.range (n + 1)).all fun i => (List.range (n + 1)).all fun j => i == j || (match dstAt ops i with | some d => dstAt ops j != some d | none => true)) &&
  ((List.range n).all fun i => match ops[i]? with
    | some o => (List.range (n + 1)).all fun j => match dstAt ops j with
      | some d => !(o.looksAt ops).contains d || (decide (j < i) && o.after.any fun e => Region.binds md e && e.on == j)
      | none => true
    | none => true) &&
  (decide (q < n) && match ops[n]? with | some o => o.dst.isNone && (o.after.any fun e => Region.binds md e && e.on == q) | none => false) &&
  ((List.range (n + 1)).all fun j => dstAt ops j != some d1) &&
  Region.seqB md ops (ops.size - (n + 1)) (n + 1) (Array.ofFn (n := ops.size) fun i => decide (i.val < n + 1))
def StoF (W0 : World) (b n : Nat) (c1 c' : Array Value) (lst : Array Bool) (w : World) : Prop := Aside W0.heap.size b W0 w ∧ IsRow w b ∧ blk w b = if lst.getD n false = true then c' else c1
theorem closed_aside (W0 : World) (b : Nat) : Closed (Aside W0.heap.size b W0) := fun w w' h hb => h.tail (hb.mono h.size)
theorem closed_stoF (W0 : World) (b n : Nat) (c1 c' : Array Value) (lst : Array Bool) : Closed (StoF W0 b n c1 c' lst) := fun w w' h hb => by
  obtain ⟨h1, h2, h3⟩ := h
  obtain ⟨y1, y2⟩ := keepB hb (isRow_lt h2) h2 h3
  exact ⟨h1.tail (hb.mono h1.size), y1, y2⟩
theorem laid_not {V : Nat → Value} {lst : Array Bool} {a0 : Act} {t : Tmp} {M : Nat} (h : ∀ j, j < M → dstAt ops j ≠ some t) : ∀ k, k ≤ M → (laidOn ops V lst a0 k).tmps[t]? = a0.tmps[t]? := by
  intro k
  induction k with
  | zero => intro _; rfl
  | succ k ih =>
    intro hk
    have e : (laidOn ops V lst a0 (k + 1)).tmps[t]? = (laidOn ops V lst a0 k).tmps[t]? := by
      show (if _ then _ else _ : Act).tmps[t]? = _
      split
      · exact put_other (h k (by omega))
      · rfl
    rw [e, ih (by omega)]

theorem any_of_stoF {R : Exit → Act → World → Prop} {W0 : World} {n q b : Nat} {a0 : Act} {c1 c' : Array Value} {v : Nat → Value} {os : Oper} {d1 dq : Tmp} (hB : storeFB md ops n q d1 = true)
    (hst : ops[n]? = some os) (gs : os.guard = none) (hd1 : a0.eval (.tmp d1) = .pointer (some ⟨b, 0, none⟩)) (eq : dstAt ops q = some dq)
    (hq : ∀ i o, i < n → ops[i]? = some o → YieldsE P ops (Aside W0.heap.size b W0) o (v i) (seqOn ops v (fun j => decide (n ≤ j)) 0 a0 i))
    (rs : ∀ (A : Act) w, A.eval (.tmp d1) = .pointer (some ⟨b, 0, none⟩) → A.eval (.tmp dq) = (seqOn ops v (fun j => decide (n ≤ j)) 0 a0 n).eval (.tmp dq) → IsRow w b → blk w b = c1 → (execOp A.eval os).run P w = .ok .skip (w.setRow b c'))
    (hfin : ∀ lst w, lst = (Array.ofFn (n := ops.size) fun i => decide (i.val < n + 1)) → StoF W0 b n c1 c' lst w → wpAny P md ops R (ops.size - (n + 1)) lst (laidOn ops v lst a0 (n + 1)) w) :
    ∀ (u : Nat) (lst : Array Bool) (w : World), HeadInv md ops (n + 1) lst → undone lst (n + 1) = u → StoF W0 b n c1 c' lst w →
      wpAny P md ops R (u + (ops.size - (n + 1))) lst (laidOn ops v lst a0 (n + 1)) w := by
  simp only [storeFB, Bool.and_eq_true, decide_eq_true_eq] at hB
  obtain ⟨⟨⟨⟨⟨⟨⟨⟨⟨hsel, hMN⟩, hs⟩, hc⟩, hback⟩, hdst⟩, hlook⟩, hqn, hsto⟩, hnot⟩, hseq⟩ := hB
  rw [hst] at hsto
  simp only [Bool.and_eq_true, Option.isNone_iff_eq_none] at hsto
  obtain ⟨hs0, hsq⟩ := hsto
  have hdst' : ∀ i j, i < n + 1 → j < n + 1 → i ≠ j → ∀ d, dstAt ops i = some d → dstAt ops j ≠ some d := fun i j hi hj hne d hd => by
    have := List.all_eq_true.1 (List.all_eq_true.1 hdst i (List.mem_range.2 hi)) j (List.mem_range.2 hj)
    simp only [hd, Bool.or_eq_true, beq_iff_eq, bne_iff_ne] at this
    exact this.resolve_left hne
  have hnot' : ∀ j, j < n + 1 → dstAt ops j ≠ some d1 := fun j hj => by
    have := List.all_eq_true.1 hnot j (List.mem_range.2 hj)
    simpa using this
  have ds : dstAt ops n = none := by unfold dstAt; rw [hst]; exact hs0
  intro u
  induction u with
  | zero =>
    intro lst w inv hu hw
    rw [Nat.zero_add]
    refine hfin lst w ?_ hw
    apply Array.ext
    · simp [inv.size]
    · intro i h1 h2
      simp only [Array.getElem_ofFn]
      by_cases hi : i < n + 1
      · have := undone_zero hu (by rw [inv.size]; omega) i hi
        simp [h1] at this
        simp [this, hi]
      · have := inv.tail i (by omega) (by rw [← inv.size]; exact h1)
        simp [h1] at this
        simp [this, hi]
  | succ u ih =>
    intro lst w inv hu hw
    rw [show u + 1 + (ops.size - (n + 1)) = (u + (ops.size - (n + 1))) + 1 by omega]
    obtain ⟨i0, hi0, hun0, hmin⟩ := undone_pos (n + 1) (by rw [hu]; omega)
    have hr0 : i0 ∈ Region.ready md ops lst := by
      refine mem_ready.2 ⟨hun0, ops[i0]'(by omega), by simp, fun e he hb => ?_⟩
      have := List.all_eq_true.1 hback i0 (List.mem_range.2 hi0)
      rw [Array.getElem?_eq_getElem (by omega : i0 < ops.size)] at this
      have := (Array.all_eq_true_iff_forall_mem.1 this) e he
      rw [hb] at this
      have hlt : e.on < i0 := by simpa using this
      have h2 := hmin e.on hlt
      have h3 : e.on < lst.size := by rw [inv.size]; omega
      simp [h3] at h2 ⊢
      exact h2
    refine ⟨fun h0 => (by rw [h0] at hr0; cases hr0), fun i hi => ?_⟩
    have hiM : i < n + 1 := (Nat.lt_or_ge i (n + 1)).resolve_right fun h => tail_waits hs hc hMN inv _ i0 rfl hi0 hun0 i h hi
    obtain ⟨hun, oi, hoi, hall⟩ := mem_ready.1 hi
    have hcnt : undone (lst.setIfInBounds i true) (n + 1) = u := by
      have := undone_set hun (n + 1)
      rw [if_pos hiM, hu] at this
      omega
    have hdi : dstAt ops i = oi.dst := by unfold dstAt; rw [hoi]; rfl
    have hilt : i < lst.size := by rw [inv.size]; omega
    have self : (lst.setIfInBounds i true).getD i false = true := by simp [hilt]
    have hfalse : lst.getD i false = false := getD_both hun
    by_cases hin : i < n
    · have hy := hq i oi hin hoi
      have hy' : YieldsE P ops (Aside W0.heap.size b W0) oi (v i) (laidOn ops v lst a0 (n + 1)) := by
        refine hy.of_slots (fun cs b => Region.noSelect_spec hsel i oi cs b hoi) fun t ht => ?_
        have look : ∀ j, j < n + 1 → dstAt ops j = some t → j < i ∧ lst.getD j false = true := fun j hj hd => by
          have := List.all_eq_true.1 hlook i (List.mem_range.2 hin)
          rw [hoi] at this
          simp only at this
          have := List.all_eq_true.1 this j (List.mem_range.2 hj)
          rw [hd] at this
          simp only [Bool.or_eq_true, Bool.not_eq_true', Bool.and_eq_true, decide_eq_true_eq] at this
          rcases this with h | ⟨h1, h2⟩
          · rw [List.contains_eq_mem] at h
            simp [ht] at h
          · obtain ⟨e, he, h⟩ := any_mem h2
            simp only [Bool.and_eq_true, beq_iff_eq] at h
            exact ⟨h1, by rw [← h.2]; exact hall e he h.1⟩
        have := laid_key (ops := ops) (v := v) (V := v) (n := n) (a0 := a0) (Nat.le_of_lt hin) (fun k _ => rfl) look (n + 1) (Nat.le_refl _)
        rw [show min (n + 1) i = i by omega] at this
        exact this
      have hyI := hy'.at (D := StoF W0 b n c1 c' lst) (fun w h => h.1) (closed_stoF W0 b n c1 c' lst)
      refine wpOp_of_qOp (C := StoF W0 b n c1 c' lst) (K := fun a' => a' = laidOn ops v (lst.setIfInBounds i true) a0 (n + 1)) hw (fun a' w' hw' ha' => ?_) (hyI.qOp hoi ?_)
      · subst ha'
        refine ih _ w' (inv.set hi hiM) hcnt ⟨hw'.1, hw'.2.1, ?_⟩
        rw [getD_set_ne false (show i ≠ n by omega)]
        exact hw'.2.2
      · rw [← hdi]
        exact laidOn_put hun rfl (fun _ _ _ => rfl) (n + 1) hiM fun j hj hne d hd => hdst' i j hiM hj (Ne.symm hne) d hd
    · obtain rfl : i = n := by omega
      rw [hst] at hoi
      cases hoi
      obtain ⟨eqq, heq, heq2⟩ := any_mem hsq
      simp only [Bool.and_eq_true, beq_iff_eq] at heq2
      have qdone : lst.getD q false = true := by rw [← heq2.2]; exact hall eqq heq heq2.1
      have hno : ¬ lst.getD i false = true := by rw [hfalse]; simp
      have hm := hw.2.2
      rw [if_neg hno] at hm
      have ev1 : (laidOn ops v lst a0 (i + 1)).eval (.tmp d1) = .pointer (some ⟨b, 0, none⟩) := by
        have := laid_not (V := v) (lst := lst) (a0 := a0) hnot' (i + 1) (Nat.le_refl _)
        rw [← hd1]
        simp [Act.eval, this]
      have ev2 : (laidOn ops v lst a0 (i + 1)).eval (.tmp dq) = (seqOn ops v (fun j => decide (i ≤ j)) 0 a0 i).eval (.tmp dq) := by
        have := laid_key (v := v) (V := v) (a0 := a0) (lst := lst) (M := i + 1) (t := dq) (ops := ops) (Nat.le_refl i) (fun k _ => rfl) (fun j hj hd => by
          by_cases ej : j = q
          · subst ej; exact ⟨hqn, qdone⟩
          · exact (hdst' q j (by omega) hj (Ne.symm ej) dq eq hd).elim) (i + 1) (Nat.le_refl _)
        rw [show min (i + 1) i = i by omega] at this
        simp [Act.eval, this]
      unfold wpOp
      simp only [hst]
      rw [if_pos (by simp [Region.wanted, gs])]
      refine .inl ?_
      unfold Oper.wp
      rw [rs _ w ev1 ev2 hw.2.1 hm]
      simp only [Oper.upon]
      have e := laidOn_put (ops := ops) (a := a0) (V := v) (V' := v) hun rfl (fun _ _ _ => rfl) (i + 1) hiM fun j hj hne d hd => hdst' i j hiM hj (Ne.symm hne) d hd
      rw [ds] at e
      have e' : laidOn ops v lst a0 (i + 1) = laidOn ops v (lst.setIfInBounds i true) a0 (i + 1) := e
      rw [hs0]
      show wpAny P md ops R (u + (ops.size - (i + 1))) (lst.setIfInBounds i true) (laidOn ops v lst a0 (i + 1)) (w.setRow b c')
      rw [e']
      refine ih _ _ (inv.set hi hiM) hcnt ⟨hw.1.self _, (isRow_setRow _ _ _ _).2 hw.2.1, ?_⟩
      rw [self, if_pos rfl, blk_setRow _ _ _ _ hw.2.1, if_pos rfl]

/-- a store into a variable that there is, among what is open -/
theorem wp_quiet_store {id : Nat} {R : Exit → Act → World → Prop} {a : Act} {w : World} {l : List Oper} (n q b : Nat) (os : Oper) (c1 : Array Value) (T : TypeId) (d1 dq : Tmp) (hm : P.follows .mixedOrders = true) (hst : l[n]? = some os) (gs : os.guard = none) (hd1 : a.eval (.tmp d1) = .pointer (some ⟨b, 0, none⟩)) (eq : dstAt l.toArray q = some dq)
    (hB : storeFB .any l.toArray n q d1 = true) (hr : IsRow w b) (hc : blk w b = c1)
    (rs : ∀ (A : Act) W, (execOp A.eval os).run P W = storeN P T (A.eval (.tmp d1)) (A.eval (.tmp dq)) W)
    (h : wpQE P l.toArray (Aside w.heap.size b w) (fun a' => ∃ c', (∀ W, IsRow W b → blk W b = c1 → storeN P T (.pointer (some ⟨b, 0, none⟩)) (a'.eval (.tmp dq)) W = .ok .skip (W.setRow b c')) ∧
      ∀ W, Aside w.heap.size b w W → IsRow W b → blk W b = c' → wpList P l.toArray R (l.drop (n + 1)) a' W) (l.take n) a) : (Code.region id l.toArray true).wp P R a w := by
  have hM : n + 1 < l.length := by
    simp only [storeFB, Bool.and_eq_true, decide_eq_true_eq] at hB
    simpa using hB.1.1.1.1.1.1.1.1.2
  have ds : dstAt l.toArray n = none := by
    simp only [storeFB, Bool.and_eq_true, decide_eq_true_eq] at hB
    have := hB.1.1.2.2
    rw [show l.toArray[n]? = some os by simpa using hst] at this
    simp only [Bool.and_eq_true, Option.isNone_iff_eq_none] at this
    unfold dstAt
    rw [show l.toArray[n]? = some os by simpa using hst]
    exact this.1
  have ht : (l.take n).length = n := by simp; omega
  rw [← quietOf_low (al := fun j => decide (n ≤ j)) (l.take n) 0 (fun j hj => by rw [ht] at hj; simp; omega)] at h
  obtain ⟨v, hv, hZ⟩ := wpQE_vals (l.take n) 0 a (fun j hj => by
    have hj' : j < n := by rw [ht] at hj; exact hj
    simp [hj']) h
  rw [ht] at hZ
  obtain ⟨c', hs1, hs2⟩ := hZ
  refine wp_region_any hm ?_
  have inv : HeadInv .any l.toArray (n + 1) (Array.replicate l.toArray.size false) :=
    ⟨by simp, fun j _ _ hl => (by rw [getD_replicate_false] at hl; cases hl), fun t _ h1 => getD_in (by simpa using h1) (getD_replicate_false _ _)⟩
  have H := any_of_stoF (P := P) (R := R) (W0 := w) (a0 := a) (b := b) (c1 := c1) (c' := c') (v := v) (md := .any) (ops := l.toArray) (os := os) (d1 := d1) (dq := dq) hB
    (by simpa using hst) gs hd1 eq
    (fun i o hi ho => by have := hv i o (by rw [ht]; exact hi) (by simp; omega) (by rw [Nat.zero_add]; exact ho); rwa [Nat.zero_add] at this)
    (fun A W x1 x2 x3 x4 => by rw [rs, x1, x2]; exact hs1 W x3 x4)
    (fun lst W hl hW => by
      have done : ∀ k, k < n + 1 → lst.getD k false = true := fun k hk => by rw [hl]; exact done_ofFn _ (n + 1) k hk (by simp; omega)
      have x1 := hW.2.2
      rw [if_pos (done n (by omega))] at x1
      have hl2 := hs2 W hW.1 hW.2.1 x1
      have low : ∀ k, k ≤ n → laidOn l.toArray v lst a k = seqOn l.toArray v (fun j => decide (n ≤ j)) 0 a k := by
        intro k
        induction k with
        | zero => intro _; rfl
        | succ k ih =>
          intro hk
          show (if _ then _ else _ : Act) = (if _ then _ else _ : Act)
          rw [if_pos (done k (by omega)), if_neg (by simp; omega), ih (by omega), Nat.zero_add]
      have y1 : laidOn l.toArray v lst a (n + 1) = seqOn l.toArray v (fun j => decide (n ≤ j)) 0 a n := by
        rw [← low n (Nat.le_refl _)]
        show (if _ then _ else _ : Act) = _
        rw [if_pos (done n (by omega)), ds]
        rfl
      rw [y1]
      subst hl
      have hd : (l.drop (n + 1)).length = l.toArray.size - (n + 1) := by simp
      have := wpAny_of_seq (md := .any) (Q' := R) (l.drop (n + 1)) (n + 1) _ _ W (fun j => by simp [List.getElem?_drop]) (by
        rw [hd]
        simp only [storeFB, Bool.and_eq_true] at hB
        exact hB.2) hl2
      rwa [hd] at this)
    (n + 1) (Array.replicate l.toArray.size false) { w with drawn := w.drawn + 1 } inv (undone_none _ _ (by simp; omega)) ⟨(Aside.refl _ _ _).tail (Below.refl _ _).drew, hr, by rw [getD_replicate_false, if_neg (by simp)]; exact hc⟩
  rw [laidOn_none, show n + 1 + (l.toArray.size - (n + 1)) = l.toArray.size by simp only [List.size_toArray]; omega] at H
  exact H
end
end Go.Proofs.Ytjmmmggnbndolaa
