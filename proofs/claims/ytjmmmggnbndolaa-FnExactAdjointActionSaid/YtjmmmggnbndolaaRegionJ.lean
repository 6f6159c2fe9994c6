/- A statement whose order Go leaves open, in which some variables are made, and the store into the first one may come before some of what the others are to hold is worked out: one walk serves every order. -/
import Derived.Test.YtjmmmggnbndolaaRegionH
namespace Go.Proofs.Ytjmmmggnbndolaa
open Go Go.RowKit
set_option linter.unusedSimpArgs false
set_option linter.unusedVariables false

section
variable {P : Program} {ops : Array Oper} {md : Region.Mode}
/-- the operations before n are quiet, n .. N - 1 make variables, N stores into the first one what q yields, the rest follow in a forced order -/
def madeFB (md : Region.Mode) (ops : Array Oper) (n N q : Nat) : Bool :=
  Region.noSelect ops && decide (N + 1 < ops.size) && Region.sinkB md ops (N + 1) && Region.chainB md ops (N + 1) &&
  ((List.range (N + 1)).all fun i => match ops[i]? with | some o => o.after.all fun e => !Region.binds md e || decide (e.on < i) | none => true) &&
  ((List.range (N + 1)).all fun i => (List.range (N + 1)).all fun j => i == j || (match dstAt ops i with | some d => dstAt ops j != some d | none => true)) &&
  ((List.range n).all fun i => match ops[i]? with
    | some o => (List.range (N + 1)).all fun j => match dstAt ops j with
      | some d => !(o.looksAt ops).contains d || (decide (j < i) && o.after.any fun e => Region.binds md e && e.on == j)
      | none => true
    | none => true) &&
  (decide (q < n) && match ops[N]? with | some o => o.dst.isNone && (o.after.any fun e => Region.binds md e && e.on == n) && (o.after.any fun e => Region.binds md e && e.on == q) | none => false) &&
  Region.seqB md ops (ops.size - (N + 1)) (N + 1) (Array.ofFn (n := ops.size) fun i => decide (i.val < N + 1))
/-- what is known of the world -/
def MadeF (W0 : World) (n N : Nat) (c : Nat → Array Value) (c' : Array Value) (bs : Nat → Nat) (lst : Array Bool) (w : World) : Prop :=
  Below W0.heap.size W0 w ∧ (∀ k, n ≤ k → k < N → lst.getD k false = true → MadeAt W0 (if k = n ∧ lst.getD N false = true then c' else c k) (bs k) w) ∧
    (∀ j k, n ≤ j → j < N → n ≤ k → k < N → lst.getD j false = true → lst.getD k false = true → j ≠ k → bs j ≠ bs k) ∧ (lst.getD N false = true → lst.getD n false = true)
theorem closed_madeF (W0 : World) (n N : Nat) (c : Nat → Array Value) (c' : Array Value) (bs : Nat → Nat) (lst : Array Bool) : Closed (MadeF W0 n N c c' bs lst) := fun w w' h hb =>
  ⟨h.1.trans (hb.mono h.1.size), fun k h1 h2 h3 => (h.2.1 k h1 h2 h3).below hb, h.2.2.1, h.2.2.2⟩
def manyV (n N : Nat) (bs : Nat → Nat) (v : Nat → Value) : Nat → Value := fun k => if n ≤ k ∧ k < N then .pointer (some ⟨bs k, 0, none⟩) else v k
theorem manyV_low {n N k : Nat} {bs : Nat → Nat} {v : Nat → Value} (h : k < n) : manyV n N bs v k = v k := by unfold manyV; rw [if_neg (by omega)]
theorem manyV_in {n N k : Nat} {bs : Nat → Nat} {v : Nat → Value} (h1 : n ≤ k) (h2 : k < N) : manyV n N bs v k = .pointer (some ⟨bs k, 0, none⟩) := by unfold manyV; rw [if_pos ⟨h1, h2⟩]
def setB (bs : Nat → Nat) (i x : Nat) : Nat → Nat := fun k => if k = i then x else bs k

theorem any_of_madeF {R : Exit → Act → World → Prop} {W0 : World} {n N q : Nat} {a0 : Act} {c : Nat → Array Value} {c' : Array Value} {ty : Nat → TypeId} {v : Nat → Value} {o1 os : Oper} {d1 dq : Tmp} (hnN : n < N) (hB : madeFB md ops n N q = true)
    (h1 : ops[n]? = some o1) (hst : ops[N]? = some os) (gs : os.guard = none) (e1 : o1.dst = some d1) (hd1 : d1 < a0.tmps.size) (eq : dstAt ops q = some dq)
    (hq : ∀ i o, i < n → ops[i]? = some o → YieldsE P ops (Below W0.heap.size W0) o (v i) (seqOn ops v (fun j => decide (n ≤ j)) 0 a0 i))
    (ha : ∀ i, n ≤ i → i < N → ∃ o, ops[i]? = some o ∧ o.guard = none ∧ ∀ (a : Act) w, (execOp a.eval o).run P w = .ok (.value (.pointer (some ⟨w.heap.size, 0, none⟩))) (w.alloc (.cells (c i) (ty i))))
    (rs : ∀ (A : Act) w b, A.eval (.tmp d1) = .pointer (some ⟨b, 0, none⟩) → A.eval (.tmp dq) = (seqOn ops v (fun j => decide (n ≤ j)) 0 a0 n).eval (.tmp dq) → IsRow w b → blk w b = c n → (execOp A.eval os).run P w = .ok .skip (w.setRow b c'))
    (hfin : ∀ bs lst w, lst = (Array.ofFn (n := ops.size) fun i => decide (i.val < N + 1)) → MadeF W0 n N c c' bs lst w → wpAny P md ops R (ops.size - (N + 1)) lst (laidOn ops (manyV n N bs v) lst a0 (N + 1)) w) :
    ∀ (u : Nat) (lst : Array Bool) (bs : Nat → Nat) (w : World), HeadInv md ops (N + 1) lst → undone lst (N + 1) = u → MadeF W0 n N c c' bs lst w →
      wpAny P md ops R (u + (ops.size - (N + 1))) lst (laidOn ops (manyV n N bs v) lst a0 (N + 1)) w := by
  simp only [madeFB, Bool.and_eq_true, decide_eq_true_eq] at hB
  obtain ⟨⟨⟨⟨⟨⟨⟨⟨hsel, hMN⟩, hs⟩, hc⟩, hback⟩, hdst⟩, hlook⟩, hqn, hsto⟩, hseq⟩ := hB
  rw [hst] at hsto
  simp only [Bool.and_eq_true, Option.isNone_iff_eq_none] at hsto
  obtain ⟨⟨hs0, hsn⟩, hsq⟩ := hsto
  have hdst' : ∀ i j, i < N + 1 → j < N + 1 → i ≠ j → ∀ d, dstAt ops i = some d → dstAt ops j ≠ some d := fun i j hi hj hne d hd => by
    have := List.all_eq_true.1 (List.all_eq_true.1 hdst i (List.mem_range.2 hi)) j (List.mem_range.2 hj)
    simp only [hd, Bool.or_eq_true, beq_iff_eq, bne_iff_ne] at this
    exact this.resolve_left hne
  have dn : dstAt ops n = some d1 := by unfold dstAt; rw [h1]; exact e1
  have ds : dstAt ops N = none := by unfold dstAt; rw [hst]; exact hs0
  intro u
  induction u with
  | zero =>
    intro lst bs w inv hu hw
    rw [Nat.zero_add]
    refine hfin bs lst w ?_ hw
    apply Array.ext
    · simp [inv.size]
    · intro i h1 h2
      simp only [Array.getElem_ofFn]
      by_cases hi : i < N + 1
      · have := undone_zero hu (by rw [inv.size]; omega) i hi
        simp [h1] at this
        simp [this, hi]
      · have := inv.tail i (by omega) (by rw [← inv.size]; exact h1)
        simp [h1] at this
        simp [this, hi]
  | succ u ih =>
    intro lst bs w inv hu hw
    rw [show u + 1 + (ops.size - (N + 1)) = (u + (ops.size - (N + 1))) + 1 by omega]
    obtain ⟨i0, hi0, hun0, hmin⟩ := undone_pos (N + 1) (by rw [hu]; omega)
    have hr0 : i0 ∈ Region.ready md ops lst := by
      refine mem_ready.2 ⟨hun0, ops[i0]'(by omega), by simp, fun e he hb => ?_⟩
      have := List.all_eq_true.1 hback i0 (List.mem_range.2 hi0)
      rw [Array.getElem?_eq_getElem (by omega : i0 < ops.size)] at this
      have := (Array.all_eq_true_iff_forall_mem.1 this) e he
      rw [hb] at this
      have hlt : e.on < i0 := by simpa using this
      have h2 := hmin e.on hlt
      have h3 : e.on < lst.size := by rw [inv.size]; omega
      simp [h3] at h2 ⊢
      exact h2
    refine ⟨fun h0 => (by rw [h0] at hr0; cases hr0), fun i hi => ?_⟩
    have hiM : i < N + 1 := (Nat.lt_or_ge i (N + 1)).resolve_right fun h => tail_waits hs hc hMN inv _ i0 rfl hi0 hun0 i h hi
    obtain ⟨hun, oi, hoi, hall⟩ := mem_ready.1 hi
    have hcnt : undone (lst.setIfInBounds i true) (N + 1) = u := by
      have := undone_set hun (N + 1)
      rw [if_pos hiM, hu] at this
      omega
    have hdi : dstAt ops i = oi.dst := by unfold dstAt; rw [hoi]; rfl
    have hilt : i < lst.size := by rw [inv.size]; omega
    have self : (lst.setIfInBounds i true).getD i false = true := by simp [hilt]
    have hfalse : lst.getD i false = false := getD_both hun
    by_cases hin : i < n
    · -- a quiet operation
      have hy := hq i oi hin hoi
      have hy' : YieldsE P ops (Below W0.heap.size W0) oi (v i) (laidOn ops (manyV n N bs v) lst a0 (N + 1)) := by
        refine hy.of_slots (fun cs b => Region.noSelect_spec hsel i oi cs b hoi) fun t ht => ?_
        have look : ∀ j, j < N + 1 → dstAt ops j = some t → j < i ∧ lst.getD j false = true := fun j hj hd => by
          have := List.all_eq_true.1 hlook i (List.mem_range.2 hin)
          rw [hoi] at this
          simp only at this
          have := List.all_eq_true.1 this j (List.mem_range.2 hj)
          rw [hd] at this
          simp only [Bool.or_eq_true, Bool.not_eq_true', Bool.and_eq_true, decide_eq_true_eq] at this
          rcases this with h | ⟨h1, h2⟩
          · rw [List.contains_eq_mem] at h
            simp [ht] at h
          · obtain ⟨e, he, h⟩ := any_mem h2
            simp only [Bool.and_eq_true, beq_iff_eq] at h
            exact ⟨h1, by rw [← h.2]; exact hall e he h.1⟩
        have := laid_key (a0 := a0) (Nat.le_of_lt hin) (fun k hk => manyV_low (N := N) (bs := bs) (v := v) hk) look (N + 1) (Nat.le_refl _)
        rw [show min (N + 1) i = i by omega] at this
        exact this
      have hyI := hy'.at (D := MadeF W0 n N c c' bs lst) (fun w h => h.1) (closed_madeF W0 n N c c' bs lst)
      refine wpOp_of_qOp (C := MadeF W0 n N c c' bs lst) (K := fun a' => a' = laidOn ops (manyV n N bs v) (lst.setIfInBounds i true) a0 (N + 1)) hw (fun a' w' hw' ha' => ?_) (hyI.qOp hoi ?_)
      · subst ha'
        refine ih _ bs w' (inv.set hi hiM) hcnt ⟨hw'.1, fun k k1 k2 k3 => ?_, fun j k j1 j2 k1 k2 j3 k3 hne => ?_, fun h => ?_⟩
        · rw [getD_set_ne false (show i ≠ k by omega)] at k3
          rw [getD_set_ne false (show i ≠ N by omega)]
          exact hw'.2.1 k k1 k2 k3
        · rw [getD_set_ne false (show i ≠ j by omega)] at j3
          rw [getD_set_ne false (show i ≠ k by omega)] at k3
          exact hw'.2.2.1 j k j1 j2 k1 k2 j3 k3 hne
        · rw [getD_set_ne false (show i ≠ N by omega)] at h
          rw [getD_set_ne false (show i ≠ n by omega)]
          exact hw'.2.2.2 h
      · rw [← hdi]
        exact laidOn_put hun (manyV_low hin) (fun _ _ _ => rfl) (N + 1) hiM fun j hj hne d hd => hdst' i j hiM hj (Ne.symm hne) d hd
    · by_cases hiN : i < N
      · -- a variable is made
        obtain ⟨o2, h2, g2, r2⟩ := ha i (by omega) hiN
        rw [hoi] at h2
        cases h2
        unfold wpOp
        simp only [hoi]
        rw [if_pos (by simp [Region.wanted, g2])]
        refine .inl ?_
        unfold Oper.wp
        rw [r2]
        simp only [Oper.upon]
        have e : (laidOn ops (manyV n N bs v) lst a0 (N + 1)).put oi.dst (.pointer (some ⟨w.heap.size, 0, none⟩)) = laidOn ops (manyV n N (setB bs i w.heap.size) v) (lst.setIfInBounds i true) a0 (N + 1) := by
          rw [← hdi]
          refine laidOn_put hun (by rw [manyV_in (by omega) hiN]; unfold setB; rw [if_pos rfl]) (fun j hj _ => by unfold manyV setB; rw [if_neg hj]) (N + 1) hiM fun j hj hne d hd => hdst' i j hiM hj (Ne.symm hne) d hd
        rw [e]
        refine ih _ _ _ (inv.set hi hiM) hcnt ⟨hw.1.alloc hw.1.size _, fun k k1 k2 k3 => ?_, fun j k j1 j2 k1 k2 j3 k3 hne => ?_, fun h => ?_⟩
        · rw [getD_set_ne false (show i ≠ N by omega)]
          by_cases ek : k = i
          · subst ek
            have hno : ¬ (k = n ∧ lst.getD N false = true) := fun ⟨x1, x2⟩ => by have := hw.2.2.2 x2; rw [← x1, hfalse] at this; cases this
            rw [if_neg hno]
            unfold setB
            rw [if_pos rfl]
            exact ⟨hw.1.size, ⟨_, _, heap_alloc_last _ _⟩, blk_new _ _ _⟩
          · rw [getD_set_ne false (Ne.symm ek)] at k3
            unfold setB
            rw [if_neg ek]
            exact (hw.2.1 k k1 k2 k3).below ((Below.refl w.heap.size w).alloc (Nat.le_refl _) _)
        · unfold setB
          by_cases ej : j = i
          · rw [if_pos ej, if_neg (by omega)]
            rw [getD_set_ne false (show i ≠ k by omega)] at k3
            have := isRow_lt (hw.2.1 k k1 k2 k3).2.1
            omega
          · rw [getD_set_ne false (Ne.symm ej)] at j3
            rw [if_neg ej]
            by_cases ek : k = i
            · rw [if_pos ek]
              have := isRow_lt (hw.2.1 j j1 j2 j3).2.1
              omega
            · rw [getD_set_ne false (Ne.symm ek)] at k3
              rw [if_neg ek]
              exact hw.2.2.1 j k j1 j2 k1 k2 j3 k3 hne
        · rw [getD_set_ne false (show i ≠ N by omega)] at h
          by_cases en : i = n
          · have := hw.2.2.2 h; rw [← en, hfalse] at this; cases this
          · rw [getD_set_ne false en]
            exact hw.2.2.2 h
      · -- the store
        obtain rfl : i = N := by omega
        rw [hst] at hoi
        cases hoi
        obtain ⟨en, hen, hen2⟩ := any_mem hsn
        obtain ⟨eqq, heq, heq2⟩ := any_mem hsq
        simp only [Bool.and_eq_true, beq_iff_eq] at hen2 heq2
        have ndone : lst.getD n false = true := by rw [← hen2.2]; exact hall en hen hen2.1
        have qdone : lst.getD q false = true := by rw [← heq2.2]; exact hall eqq heq heq2.1
        have hm := hw.2.1 n (Nat.le_refl _) hnN ndone
        have hno : ¬ (n = n ∧ lst.getD i false = true) := fun h => by rw [hfalse] at h; cases h.2
        rw [if_neg hno] at hm
        have ev1 : (laidOn ops (manyV n i bs v) lst a0 (i + 1)).eval (.tmp d1) = .pointer (some ⟨bs n, 0, none⟩) := by
          have := laid_slot (V := manyV n i bs v) (M := i + 1) hd1 dn ndone (fun j hj hne hd => hdst' n j (by omega) hj (Ne.symm hne) d1 dn hd) (i + 1) (by omega) (Nat.le_refl _)
          rw [manyV_in (Nat.le_refl _) hnN] at this
          simp [Act.eval, this]
        have ev2 : (laidOn ops (manyV n i bs v) lst a0 (i + 1)).eval (.tmp dq) = (seqOn ops v (fun j => decide (n ≤ j)) 0 a0 n).eval (.tmp dq) := by
          have := laid_key (a0 := a0) (lst := lst) (M := i + 1) (t := dq) (ops := ops) (Nat.le_refl n) (fun k hk => manyV_low (N := i) (bs := bs) (v := v) hk) (fun j hj hd => by
            by_cases ej : j = q
            · subst ej; exact ⟨hqn, qdone⟩
            · exact (hdst' q j (by omega) hj (Ne.symm ej) dq eq hd).elim) (i + 1) (Nat.le_refl _)
          rw [show min (i + 1) n = n by omega] at this
          simp [Act.eval, this]
        unfold wpOp
        simp only [hst]
        rw [if_pos (by simp [Region.wanted, gs])]
        refine .inl ?_
        unfold Oper.wp
        rw [rs _ w (bs n) ev1 ev2 hm.2.1 hm.2.2]
        simp only [Oper.upon]
        have e := laidOn_put (ops := ops) (a := a0) (V := manyV n i bs v) (V' := manyV n i bs v) hun rfl (fun _ _ _ => rfl) (i + 1) hiM fun j hj hne d hd => hdst' i j hiM hj (Ne.symm hne) d hd
        rw [ds] at e
        have e' : laidOn ops (manyV n i bs v) lst a0 (i + 1) = laidOn ops (manyV n i bs v) (lst.setIfInBounds i true) a0 (i + 1) := e
        rw [hs0]
        show wpAny P md ops R (u + (ops.size - (i + 1))) (lst.setIfInBounds i true) (laidOn ops (manyV n i bs v) lst a0 (i + 1)) (w.setRow (bs n) c')
        rw [e']
        refine ih _ _ _ (inv.set hi hiM) hcnt ⟨below_setRow hw.1 hm.1 _, fun k k1 k2 k3 => ?_, fun j k j1 j2 k1 k2 j3 k3 hne => ?_, fun _ => ?_⟩
        · rw [getD_set_ne false (show i ≠ k by omega)] at k3
          rw [self]
          by_cases ek : k = n
          · subst ek
            rw [if_pos ⟨rfl, rfl⟩]
            exact ⟨hm.1, (isRow_setRow _ _ _ _).2 hm.2.1, by rw [blk_setRow _ _ _ _ hm.2.1, if_pos rfl]⟩
          · rw [if_neg (fun h => ek h.1)]
            have h3 := hw.2.1 k k1 k2 k3
            rw [if_neg (fun h => ek h.1)] at h3
            obtain ⟨x1, x2, x3⟩ := h3
            exact ⟨x1, (isRow_setRow _ _ _ _).2 x2, by rw [blk_setRow _ _ _ _ hm.2.1, if_neg (Ne.symm (hw.2.2.1 n k (Nat.le_refl _) hnN k1 k2 ndone k3 (Ne.symm ek)))]; exact x3⟩
        · rw [getD_set_ne false (show i ≠ j by omega)] at j3
          rw [getD_set_ne false (show i ≠ k by omega)] at k3
          exact hw.2.2.1 j k j1 j2 k1 k2 j3 k3 hne
        · rw [getD_set_ne false (show i ≠ n by omega)]
          exact ndone
/-- three variables, the first one's store among what is open -/
theorem wp_quiet_made3s {id : Nat} {R : Exit → Act → World → Prop} {a : Act} {w : World} {l : List Oper} (n q : Nat) (o1 o2 o3 os : Oper) (c1 c2 c3 : Array Value) (t1 t2 t3 T : TypeId) (d1 dq : Tmp) (hm : P.follows .mixedOrders = true) (h1 : l[n]? = some o1) (h2 : l[n + 1]? = some o2) (h3 : l[n + 2]? = some o3) (hst : l[n + 3]? = some os)
    (g1 : o1.guard = none) (g2 : o2.guard = none) (g3 : o3.guard = none) (gs : os.guard = none) (e1 : o1.dst = some d1) (hd1 : d1 < a.tmps.size) (eq : dstAt l.toArray q = some dq)
    (hB : madeFB .any l.toArray n (n + 3) q = true)
    (r1 : ∀ (a : Act) w, (execOp a.eval o1).run P w = .ok (.value (.pointer (some ⟨w.heap.size, 0, none⟩))) (w.alloc (.cells c1 t1)))
    (r2 : ∀ (a : Act) w, (execOp a.eval o2).run P w = .ok (.value (.pointer (some ⟨w.heap.size, 0, none⟩))) (w.alloc (.cells c2 t2)))
    (r3 : ∀ (a : Act) w, (execOp a.eval o3).run P w = .ok (.value (.pointer (some ⟨w.heap.size, 0, none⟩))) (w.alloc (.cells c3 t3)))
    (rs : ∀ (A : Act) W, (execOp A.eval os).run P W = storeN P T (A.eval (.tmp d1)) (A.eval (.tmp dq)) W)
    (h : wpQE P l.toArray (Below w.heap.size w) (fun a' => ∃ c', (∀ b W, IsRow W b → blk W b = c1 → storeN P T (.pointer (some ⟨b, 0, none⟩)) (a'.eval (.tmp dq)) W = .ok .skip (W.setRow b c')) ∧
      ∀ b1 b2 b3 W, Below w.heap.size w W → MadeAt w c' b1 W → MadeAt w c2 b2 W → MadeAt w c3 b3 W → b1 ≠ b2 → b1 ≠ b3 → b2 ≠ b3 → wpList P l.toArray R (l.drop (n + 3 + 1)) (((a'.put o1.dst (.pointer (some ⟨b1, 0, none⟩))).put o2.dst (.pointer (some ⟨b2, 0, none⟩))).put o3.dst (.pointer (some ⟨b3, 0, none⟩))) W) (l.take n) a) : (Code.region id l.toArray true).wp P R a w := by
  have hM : n + 3 + 1 < l.length := by
    simp only [madeFB, Bool.and_eq_true, decide_eq_true_eq] at hB
    simpa using hB.1.1.1.1.1.1.1.2
  have ds : dstAt l.toArray (n + 3) = none := by
    simp only [madeFB, Bool.and_eq_true, decide_eq_true_eq] at hB
    have := hB.1.2.2
    rw [show l.toArray[n + 3]? = some os by simpa using hst] at this
    simp only [Bool.and_eq_true, Option.isNone_iff_eq_none] at this
    unfold dstAt
    rw [show l.toArray[n + 3]? = some os by simpa using hst]
    exact this.1.1
  have ht : (l.take n).length = n := by simp; omega
  rw [← quietOf_low (al := fun j => decide (n ≤ j)) (l.take n) 0 (fun j hj => by rw [ht] at hj; simp; omega)] at h
  obtain ⟨v, hv, hZ⟩ := wpQE_vals (l.take n) 0 a (fun j hj => by
    have hj' : j < n := by rw [ht] at hj; exact hj
    simp [hj']) h
  rw [ht] at hZ
  obtain ⟨c', hs1, hs2⟩ := hZ
  refine wp_region_any hm ?_
  have inv : HeadInv .any l.toArray (n + 3 + 1) (Array.replicate l.toArray.size false) :=
    ⟨by simp, fun j _ _ hl => (by rw [getD_replicate_false] at hl; cases hl), fun t _ h1 => getD_in (by simpa using h1) (getD_replicate_false _ _)⟩
  have H := any_of_madeF (P := P) (R := R) (W0 := w) (a0 := a) (n := n) (N := n + 3) (c := fun k => if k = n then c1 else if k = n + 1 then c2 else c3) (c' := c') (ty := fun k => if k = n then t1 else if k = n + 1 then t2 else t3) (v := v) (md := .any) (ops := l.toArray) (o1 := o1) (os := os) (d1 := d1) (dq := dq) (by omega) hB
    (by simpa using h1) (by simpa using hst) gs e1 hd1 eq
    (fun i o hi ho => by have := hv i o (by rw [ht]; exact hi) (by simp; omega) (by rw [Nat.zero_add]; exact ho); rwa [Nat.zero_add] at this)
    (fun i hi hi2 => by
      by_cases e : i = n
      · subst e
        exact ⟨o1, by simpa using h1, g1, fun a w => by rw [if_pos rfl, if_pos rfl]; exact r1 a w⟩
      · by_cases e2 : i = n + 1
        · subst e2
          exact ⟨o2, by simpa using h2, g2, fun a w => by rw [if_neg (by omega), if_pos rfl, if_neg (by omega), if_pos rfl]; exact r2 a w⟩
        · obtain rfl : i = n + 2 := by omega
          exact ⟨o3, by simpa using h3, g3, fun a w => by rw [if_neg (by omega), if_neg (by omega), if_neg (by omega), if_neg (by omega)]; exact r3 a w⟩)
    (fun A W b x1 x2 x3 x4 => by rw [rs, x1, x2]; rw [if_pos rfl] at x4; exact hs1 b W x3 x4)
    (fun bs lst W hl hW => by
      have done : ∀ k, k < n + 3 + 1 → lst.getD k false = true := fun k hk => by rw [hl]; exact done_ofFn _ (n + 3 + 1) k hk (by simp; omega)
      have x1 := hW.2.1 n (by omega) (by omega) (done n (by omega))
      rw [if_pos ⟨rfl, done (n + 3) (by omega)⟩] at x1
      have x2 := hW.2.1 (n + 1) (by omega) (by omega) (done (n + 1) (by omega))
      have z2 : (fun k => if k = n then c1 else if k = n + 1 then c2 else c3) (n + 1) = c2 := by show (if _ then _ else _) = _; rw [if_neg (by omega), if_pos rfl]
      rw [if_neg (by omega), z2] at x2
      have x3 := hW.2.1 (n + 2) (by omega) (by omega) (done (n + 2) (by omega))
      have z3 : (fun k => if k = n then c1 else if k = n + 1 then c2 else c3) (n + 2) = c3 := by show (if _ then _ else _) = _; rw [if_neg (by omega), if_neg (by omega)]
      rw [if_neg (by omega), z3] at x3
      have hl2 := hs2 (bs n) (bs (n + 1)) (bs (n + 2)) W hW.1 x1 x2 x3 (hW.2.2.1 n (n + 1) (by omega) (by omega) (by omega) (by omega) (done n (by omega)) (done (n + 1) (by omega)) (by omega)) (hW.2.2.1 n (n + 2) (by omega) (by omega) (by omega) (by omega) (done n (by omega)) (done (n + 2) (by omega)) (by omega)) (hW.2.2.1 (n + 1) (n + 2) (by omega) (by omega) (by omega) (by omega) (done (n + 1) (by omega)) (done (n + 2) (by omega)) (by omega))
      have low : ∀ k, k ≤ n → laidOn l.toArray (manyV n (n + 3) bs v) lst a k = seqOn l.toArray v (fun j => decide (n ≤ j)) 0 a k := by
        intro k
        induction k with
        | zero => intro _; rfl
        | succ k ih =>
          intro hk
          show (if _ then _ else _ : Act) = (if _ then _ else _ : Act)
          rw [if_pos (done k (by omega)), if_neg (by simp; omega), ih (by omega), manyV_low (by omega), Nat.zero_add]
      have y1 : laidOn l.toArray (manyV n (n + 3) bs v) lst a (n + 1) = (seqOn l.toArray v (fun j => decide (n ≤ j)) 0 a n).put o1.dst (.pointer (some ⟨bs n, 0, none⟩)) := by
        show (if _ then _ else _ : Act) = _
        rw [if_pos (done n (by omega)), low n (Nat.le_refl _), show dstAt l.toArray n = o1.dst by unfold dstAt; rw [show l.toArray[n]? = some o1 by simpa using h1]; rfl, manyV_in (by omega) (by omega)]
      have y2 : laidOn l.toArray (manyV n (n + 3) bs v) lst a (n + 2) = ((seqOn l.toArray v (fun j => decide (n ≤ j)) 0 a n).put o1.dst (.pointer (some ⟨bs n, 0, none⟩))).put o2.dst (.pointer (some ⟨bs (n + 1), 0, none⟩)) := by
        show (if _ then _ else _ : Act) = _
        rw [if_pos (done (n + 1) (by omega)), y1, show dstAt l.toArray (n + 1) = o2.dst by unfold dstAt; rw [show l.toArray[n + 1]? = some o2 by simpa using h2]; rfl, manyV_in (by omega) (by omega)]
      have y3 : laidOn l.toArray (manyV n (n + 3) bs v) lst a (n + 3) = (((seqOn l.toArray v (fun j => decide (n ≤ j)) 0 a n).put o1.dst (.pointer (some ⟨bs n, 0, none⟩))).put o2.dst (.pointer (some ⟨bs (n + 1), 0, none⟩))).put o3.dst (.pointer (some ⟨bs (n + 2), 0, none⟩)) := by
        show (if _ then _ else _ : Act) = _
        rw [if_pos (done (n + 2) (by omega)), y2, show dstAt l.toArray (n + 2) = o3.dst by unfold dstAt; rw [show l.toArray[n + 2]? = some o3 by simpa using h3]; rfl, manyV_in (by omega) (by omega)]
      have y4 : laidOn l.toArray (manyV n (n + 3) bs v) lst a (n + 3 + 1) = (((seqOn l.toArray v (fun j => decide (n ≤ j)) 0 a n).put o1.dst (.pointer (some ⟨bs n, 0, none⟩))).put o2.dst (.pointer (some ⟨bs (n + 1), 0, none⟩))).put o3.dst (.pointer (some ⟨bs (n + 2), 0, none⟩)) := by
        rw [← y3]
        show (if _ then _ else _ : Act) = _
        rw [if_pos (done (n + 3) (by omega)), ds]
        rfl
      rw [y4]
      subst hl
      have hd : (l.drop (n + 3 + 1)).length = l.toArray.size - (n + 3 + 1) := by simp
      have := wpAny_of_seq (md := .any) (Q' := R) (l.drop (n + 3 + 1)) (n + 3 + 1) _ _ W (fun j => by simp [List.getElem?_drop]) (by
        rw [hd]
        simp only [madeFB, Bool.and_eq_true] at hB
        exact hB.2) hl2
      rwa [hd] at this)
    (n + 3 + 1) (Array.replicate l.toArray.size false) (fun _ => 0) { w with drawn := w.drawn + 1 } inv (undone_none _ _ (by simp; omega)) ⟨(Below.refl _ _).drew, fun k _ _ h3 => (by rw [getD_replicate_false] at h3; cases h3), fun j k _ _ _ _ h3 => (by rw [getD_replicate_false] at h3; cases h3), fun h3 => (by rw [getD_replicate_false] at h3; cases h3)⟩
  rw [laidOn_none, show n + 3 + 1 + (l.toArray.size - (n + 3 + 1)) = l.toArray.size by simp only [List.size_toArray]; omega] at H
  exact H
end
end Go.Proofs.Ytjmmmggnbndolaa
