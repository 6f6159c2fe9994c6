/- A statement whose order Go leaves open, in which one operation is a call that hands back what is not fixed ahead (a slice that it made), while quiet operations may come before it or behind it. -/
import Derived.Test.YtfmhgfnadgaiaaaReg
namespace Go.Proofs.Ytfmhgfnadgaiaaa
open Go Go.RowKit
set_option linter.unusedSimpArgs false
set_option linter.unusedVariables false

section
variable {P : Program} {ops : Array Oper} {md : Region.Mode}

/-- an operation that is a call: it hands back some v and leaves a world, of which Post tells -/
def noisyUpon (P : Program) (w : World) (Post : Value → World → Prop) : Result Next → Prop
  | .ok (.enter f args) w' => w' = w ∧ Calls P f args w fun e w2 => ∃ v, e = .returned v ∧ Below w.heap.size w w2 ∧ Post v w2
  | _ => False
@[go_sem] theorem noisyUpon_enter (P : Program) (w w' : World) (Post : Value → World → Prop) (f : FuncId) (args : Array Value) : noisyUpon P w Post (.ok (.enter f args) w') = (w' = w ∧ Calls P f args w fun e w2 => ∃ v, e = .returned v ∧ Below w.heap.size w w2 ∧ Post v w2) := rfl
def NoisyE (P : Program) (C : World → Prop) (Post : Value → World → Prop) (o : Oper) (a : Act) : Prop := ∀ w, C w → noisyUpon P w Post ((execOp a.eval o).run P w)
/-- what is known of the world: nothing below has changed, and the call's word holds once it is done -/
def NoisyOn (W0 : World) (n : Nat) (Post : Value → World → Prop) (val : Value) (lst : Array Bool) (w : World) : Prop := Below W0.heap.size W0 w ∧ (lst.getD n false = true → Post val w)
theorem closed_noisyOn (W0 : World) (n : Nat) (Post : Value → World → Prop) (hPc : ∀ u, Closed (Post u)) (val : Value) (lst : Array Bool) : Closed (NoisyOn W0 n Post val lst) := fun w w' h hb =>
  ⟨h.1.trans (hb.mono h.1.size), fun h1 => hPc val w w' (h.2 h1) hb⟩
theorem NoisyE.of_slots {C : World → Prop} {Post : Value → World → Prop} {o : Oper} {a a' : Act} (hsel : ∀ cs b, o.op ≠ .select cs b) (h : ∀ t, t ∈ o.looksAt ops → a'.tmps[t]? = a.tmps[t]?) (hy : NoisyE P C Post o a) : NoisyE P C Post o a' := by
  have e1 : execOp a'.eval o = execOp a.eval o := execOp_congr o hsel fun x hx => by
    cases x with
    | tmp t =>
      have := h t (List.mem_append_left _ (List.mem_filterMap.2 ⟨.tmp t, by simpa using hx, rfl⟩))
      simp [Act.eval, this]
    | _ => rfl
  unfold NoisyE at *
  rw [e1]
  exact hy
/-- the checks on such a region -/
def noisyB (md : Region.Mode) (ops : Array Oper) (n M : Nat) : Bool :=
  Region.noSelect ops && decide (M < ops.size) && Region.sinkB md ops M && Region.chainB md ops M &&
  ((List.range M).all fun i => match ops[i]? with | some o => o.after.all fun e => !Region.binds md e || decide (e.on < i) | none => true) &&
  ((List.range M).all fun i => (List.range M).all fun j => i == j || (match dstAt ops i with | some d => dstAt ops j != some d | none => true)) &&
  ((List.range M).all fun i => match ops[i]? with
    | some o => (List.range M).all fun j => match dstAt ops j with
      | some d => !(o.looksAt ops).contains d || ((decide (j < i) && !(j == n)) && o.after.any fun e => Region.binds md e && e.on == j)
      | none => true
    | none => true) &&
  Region.seqB md ops (ops.size - M) M (Array.ofFn (n := ops.size) fun i => decide (i.val < M))
theorem look_slots {n M i t : Nat} {o : Oper} (hB : noisyB md ops n M = true) (hi : i < M) (ho : ops[i]? = some o) (ht : t ∈ o.looksAt ops) : ∀ j, j < M → dstAt ops j = some t → j < i ∧ (j == n) = false ∧ ∃ e ∈ o.after, Region.binds md e = true ∧ e.on = j := fun j hj hd => by
  simp only [noisyB, Bool.and_eq_true, decide_eq_true_eq] at hB
  have := List.all_eq_true.1 hB.1.2 i (List.mem_range.2 hi)
  rw [ho] at this
  simp only at this
  have := List.all_eq_true.1 this j (List.mem_range.2 hj)
  rw [hd] at this
  simp only [Bool.or_eq_true, Bool.not_eq_true', Bool.and_eq_true, decide_eq_true_eq] at this
  rcases this with h | ⟨⟨h1, h3⟩, h2⟩
  · rw [List.contains_eq_mem] at h
    simp [ht] at h
  · obtain ⟨e, he, h⟩ := any_mem h2
    simp only [Bool.and_eq_true, beq_iff_eq] at h
    exact ⟨h1, h3, e, he, h⟩
/-- behind the operation i no slot that it looks at is written -/
theorem seq_stop {n M i t : Nat} {o : Oper} {v : Nat → Value} {a0 : Act} (hB : noisyB md ops n M = true) (hi : i < M) (ho : ops[i]? = some o) (ht : t ∈ o.looksAt ops) : ∀ k, i ≤ k → k ≤ M → (seqOn ops v (fun i => i == n) 0 a0 k).tmps[t]? = (seqOn ops v (fun i => i == n) 0 a0 i).tmps[t]? := by
  intro k
  induction k with
  | zero => intro h _; rw [show i = 0 by omega]
  | succ k ih =>
    intro h h2
    by_cases e : i = k + 1
    · rw [e]
    · rw [← ih (by omega) (by omega)]
      show (if _ then _ else _ : Act).tmps[t]? = _
      split
      · rfl
      · refine put_other fun hd => ?_
        have := (look_slots hB hi ho ht k (by omega) (by rw [← hd, Nat.zero_add])).1
        omega
theorem laid_slots {n M i t : Nat} {o : Oper} {v : Nat → Value} {val : Value} {lst : Array Bool} {a0 : Act} (hB : noisyB md ops n M = true) (hi : i < M) (ho : ops[i]? = some o) (hall : ∀ e ∈ o.after, Region.binds md e = true → lst.getD e.on false = true) (ht : t ∈ o.looksAt ops) :
    (laidOn ops (fun k => if (k == n) = true then val else v k) lst a0 M).tmps[t]? = (seqOn ops v (fun i => i == n) 0 a0 i).tmps[t]? := by
  have look := look_slots hB hi ho ht
  have key : ∀ k, k ≤ M → (laidOn ops (fun k => if (k == n) = true then val else v k) lst a0 k).tmps[t]? = (seqOn ops v (fun i => i == n) 0 a0 (min k i)).tmps[t]? := by
    intro k
    induction k with
    | zero => intro _; rw [Nat.zero_min]; rfl
    | succ k ihk =>
      intro hk
      have ih' := ihk (by omega)
      by_cases hd : dstAt ops k = some t
      · obtain ⟨h1, h3, e, he, hb, hon⟩ := look k (by omega) hd
        have h2 : lst.getD k false = true := by rw [← hon]; exact hall e he hb
        have e1 : min (k + 1) i = k + 1 := by omega
        have e2 : min k i = k := by omega
        rw [e1]
        rw [e2] at ih'
        unfold laidOn seqOn
        rw [if_pos h2, Nat.zero_add, hd, if_neg (by rw [h3]; simp)]
        have hs1 := seqOn_size (ops := ops) v (fun i => i == n) 0 a0 k
        simp only [Act.put, Array.getElem?_setIfInBounds_self, laidOn_size, hs1, h3, Bool.false_eq_true, if_false]
      · have e1 : (laidOn ops (fun k => if (k == n) = true then val else v k) lst a0 (k + 1)).tmps[t]? = (laidOn ops (fun k => if (k == n) = true then val else v k) lst a0 k).tmps[t]? := by
          show (if _ then _ else _ : Act).tmps[t]? = _
          split
          · exact put_other hd
          · rfl
        rw [e1, ih']
        by_cases hki : k < i
        · rw [show min (k + 1) i = k + 1 by omega, show min k i = k by omega]
          show _ = (if _ then _ else _ : Act).tmps[t]?
          split
          · rfl
          · rw [put_other (by rw [Nat.zero_add]; exact hd)]
        · rw [show min (k + 1) i = i by omega, show min k i = i by omega]
  have := key M (Nat.le_refl _)
  rw [show min M i = i by omega] at this
  exact this
theorem any_of_noisy {R : Exit → Act → World → Prop} {W0 : World} {n M : Nat} {a0 : Act} {v : Nat → Value} {Post : Value → World → Prop} {o1 : Oper} (hPc : ∀ u, Closed (Post u)) (h1 : ops[n]? = some o1) (hg1 : o1.guard = none) (hnM : n < M) (hB : noisyB md ops n M = true)
    (hq : ∀ i o, i < M → (i == n) = false → ops[i]? = some o → YieldsE P ops (Below W0.heap.size W0) o (v i) (seqOn ops v (fun i => i == n) 0 a0 i))
    (ha : NoisyE P (Below W0.heap.size W0) Post o1 (seqOn ops v (fun i => i == n) 0 a0 n))
    (hfin : ∀ val lst w, lst = (Array.ofFn (n := ops.size) fun i => decide (i.val < M)) → NoisyOn W0 n Post val lst w → wpAny P md ops R (ops.size - M) lst (laidOn ops (fun k => if (k == n) = true then val else v k) lst a0 M) w) :
    ∀ (u : Nat) (lst : Array Bool) (val : Value) (w : World), HeadInv md ops M lst → undone lst M = u → NoisyOn W0 n Post val lst w →
      wpAny P md ops R (u + (ops.size - M)) lst (laidOn ops (fun k => if (k == n) = true then val else v k) lst a0 M) w := by
  have hB0 := hB
  simp only [noisyB, Bool.and_eq_true, decide_eq_true_eq] at hB
  obtain ⟨⟨⟨⟨⟨⟨⟨hsel, hMN⟩, hs⟩, hc⟩, hback⟩, hdst⟩, hlook⟩, hseq⟩ := hB
  have hdst' : ∀ i j, i < M → j < M → i ≠ j → ∀ d, dstAt ops i = some d → dstAt ops j ≠ some d := fun i j hi hj hne d hd => by
    have := List.all_eq_true.1 (List.all_eq_true.1 hdst i (List.mem_range.2 hi)) j (List.mem_range.2 hj)
    simp only [hd, Bool.or_eq_true, beq_iff_eq, bne_iff_ne] at this
    exact this.resolve_left hne
  intro u
  induction u with
  | zero =>
    intro lst val w inv hu hw
    rw [Nat.zero_add]
    refine hfin val lst w ?_ hw
    apply Array.ext
    · simp [inv.size]
    · intro i h1 h2
      simp only [Array.getElem_ofFn]
      by_cases hi : i < M
      · have := undone_zero hu (by rw [inv.size]; omega) i hi
        simp [h1] at this
        simp [this, hi]
      · have := inv.tail i (by omega) (by rw [← inv.size]; exact h1)
        simp [h1] at this
        simp [this, hi]
  | succ u ih =>
    intro lst val w inv hu hw
    rw [show u + 1 + (ops.size - M) = (u + (ops.size - M)) + 1 by omega]
    obtain ⟨i0, hi0, hun0, hmin⟩ := undone_pos M (by rw [hu]; omega)
    have hr0 : i0 ∈ Region.ready md ops lst := by
      refine mem_ready.2 ⟨hun0, ops[i0]'(by omega), by simp, fun e he hb => ?_⟩
      have := List.all_eq_true.1 hback i0 (List.mem_range.2 hi0)
      rw [Array.getElem?_eq_getElem (by omega : i0 < ops.size)] at this
      have := (Array.all_eq_true_iff_forall_mem.1 this) e he
      rw [hb] at this
      have hlt : e.on < i0 := by simpa using this
      have h2 := hmin e.on hlt
      have h3 : e.on < lst.size := by rw [inv.size]; omega
      simp [h3] at h2 ⊢
      exact h2
    refine ⟨fun h0 => (by rw [h0] at hr0; cases hr0), fun i hi => ?_⟩
    have hiM : i < M := (Nat.lt_or_ge i M).resolve_right fun h => tail_waits hs hc hMN inv _ i0 rfl hi0 hun0 i h hi
    obtain ⟨hun, oi, hoi, hall⟩ := mem_ready.1 hi
    have hcnt : undone (lst.setIfInBounds i true) M = u := by
      have := undone_set hun M
      rw [if_pos hiM, hu] at this
      omega
    have hdi : dstAt ops i = oi.dst := by unfold dstAt; rw [hoi]; rfl
    by_cases hin : (i == n) = false
    · -- a quiet operation
      have hne : i ≠ n := by simpa using hin
      have hy := hq i oi hiM hin hoi
      have hy' : YieldsE P ops (Below W0.heap.size W0) oi (v i) (laidOn ops (fun k => if (k == n) = true then val else v k) lst a0 M) :=
        hy.of_slots (fun cs b => Region.noSelect_spec hsel i oi cs b hoi) fun t ht => laid_slots hB0 hiM hoi hall ht
      have hyI := hy'.at (D := NoisyOn W0 n Post val lst) (fun w h => h.1) (closed_noisyOn W0 n Post hPc val lst)
      refine wpOp_of_qOp (C := NoisyOn W0 n Post val lst) (K := fun a' => a' = laidOn ops (fun k => if (k == n) = true then val else v k) (lst.setIfInBounds i true) a0 M) hw (fun a' w' hw' ha' => ?_) (hyI.qOp hoi ?_)
      · subst ha'
        exact ih _ val w' (inv.set hi hiM) hcnt ⟨hw'.1, fun h => hw'.2 (by rwa [getD_set_ne false hne] at h)⟩
      · rw [← hdi]
        exact laidOn_put hun (by rw [hin]; rfl) (fun _ _ _ => rfl) M hiM fun j hj hne d hd => hdst' i j hiM hj (Ne.symm hne) d hd
    · -- the call
      have hin' : i = n := by simpa using hin
      subst hin'
      rw [hoi] at h1
      cases h1
      unfold wpOp
      simp only [hoi]
      rw [if_pos (by simp [Region.wanted, hg1])]
      refine .inl ?_
      have hy : NoisyE P (Below W0.heap.size W0) Post o1 (laidOn ops (fun k => if (k == i) = true then val else v k) lst a0 M) :=
        ha.of_slots (fun cs b => Region.noSelect_spec hsel i o1 cs b hoi) fun t ht => laid_slots hB0 hiM hoi hall ht
      have hn := hy w hw.1
      unfold Oper.wp
      revert hn
      generalize (execOp (laidOn ops (fun k => if (k == i) = true then val else v k) lst a0 M).eval o1).run P w = r
      intro hn
      cases r with
      | ok nx w' =>
        cases nx with
        | enter f args =>
          obtain ⟨rfl, hcall⟩ := hn
          simp only [Oper.upon]
          refine Calls.mono hcall fun e w2 he => ?_
          obtain ⟨u2, rfl, hb2, hp2⟩ := he
          have e : (laidOn ops (fun k => if (k == i) = true then val else v k) lst a0 M).put o1.dst u2 = laidOn ops (fun k => if (k == i) = true then u2 else v k) (lst.setIfInBounds i true) a0 M := by
            rw [← hdi]
            refine laidOn_put hun (by simp) (fun j hj _ => ?_) M hiM fun j hj hne d hd => hdst' i j hiM hj (Ne.symm hne) d hd
            simp [hj]
          show wpAny P md ops R _ _ ((laidOn ops (fun k => if (k == i) = true then val else v k) lst a0 M).put o1.dst u2) w2
          rw [e]
          exact ih _ u2 w2 (inv.set hi hiM) hcnt ⟨hw.1.trans (hb2.mono hw.1.size), fun _ => hp2⟩
        | _ => exact absurd hn (by simp [noisyUpon])
      | halt x w' => exact absurd hn (by simp [noisyUpon])
/-- one call whose answer is not fixed ahead, quiet operations before it or behind it, the rest in a forced order -/
theorem wp_quiet_noisy {id : Nat} {R : Exit → Act → World → Prop} {a : Act} {w : World} {l : List Oper} (n M : Nat) (o1 : Oper) (Post : Value → World → Prop) (hm : P.follows .mixedOrders = true) (h1 : l[n]? = some o1) (g1 : o1.guard = none) (hnM : n < M)
    (hB : noisyB .any l.toArray n M = true) (hPc : ∀ u, Closed (Post u))
    (h : wpQE P l.toArray (Below w.heap.size w) (fun a' => NoisyE P (Below w.heap.size w) Post o1 a' ∧ ∀ val W, Below w.heap.size w W → Post val W → wpList P l.toArray R (l.drop M) (a'.put o1.dst val) W) ((l.take M).eraseIdx n) a) : (Code.region id l.toArray true).wp P R a w := by
  have hM : M < l.length := by
    simp only [noisyB, Bool.and_eq_true, decide_eq_true_eq] at hB
    simpa using hB.1.1.1.1.1.1.2
  have ht : (l.take M).length = M := by simp; omega
  have d1 : dstAt l.toArray n = o1.dst := by unfold dstAt; rw [List.getElem?_toArray, h1]; rfl
  have hdst : ∀ j, j < M → j ≠ n → ∀ d, o1.dst = some d → dstAt l.toArray j ≠ some d := fun j hj hne d hd => by
    simp only [noisyB, Bool.and_eq_true, decide_eq_true_eq] at hB
    have := List.all_eq_true.1 (List.all_eq_true.1 hB.1.1.2 n (List.mem_range.2 hnM)) j (List.mem_range.2 hj)
    simp only [d1, hd, Bool.or_eq_true, beq_iff_eq, bne_iff_ne] at this
    exact this.resolve_left (Ne.symm hne)
  have hsel : Region.noSelect l.toArray = true := by
    simp only [noisyB, Bool.and_eq_true, decide_eq_true_eq] at hB
    exact hB.1.1.1.1.1.1.1
  have h' : wpQE P l.toArray (Below w.heap.size w) (fun a' => NoisyE P (Below w.heap.size w) Post o1 a' ∧ ∀ val W, Below w.heap.size w W → Post val W → wpList P l.toArray R (l.drop M) (a'.put o1.dst val) W) (quietOf (fun i => i == n) (l.take M) 0) a := by
    rw [quietOf_one _ _ _ (Nat.zero_le _), Nat.sub_zero]; exact h
  obtain ⟨v, hv, hN, hZ⟩ := wpQE_vals (l.take M) 0 a (fun j hj => by
    have hj' : j < M := by rw [ht] at hj; exact hj
    simp [hj']) h'
  rw [ht] at hN hZ
  refine wp_region_any hm ?_
  have inv : HeadInv .any l.toArray M (Array.replicate l.toArray.size false) :=
    ⟨by simp, fun j _ _ hl => (by rw [getD_replicate_false] at hl; cases hl), fun t _ h1 => getD_in (by simpa using h1) (getD_replicate_false _ _)⟩
  have o1' : l.toArray[n]? = some o1 := by simpa using h1
  have H := any_of_noisy (P := P) (R := R) (W0 := w) (a0 := a) (v := v) (md := .any) (ops := l.toArray) (n := n) (M := M) hPc o1' g1 hnM hB
    (fun i o hi hal ho => by have := hv i o (by rw [ht]; exact hi) (by rw [Nat.zero_add]; exact hal) (by rw [Nat.zero_add]; exact ho); rwa [Nat.zero_add] at this)
    (hN.of_slots (ops := l.toArray) (fun cs b => Region.noSelect_spec hsel n o1 cs b o1') fun t ht => (seq_stop hB hnM o1' ht M (by omega) (Nat.le_refl _)).symm)
    (fun val lst W hl hW => by
      subst hl
      have done : ∀ k, k < M → (Array.ofFn (n := l.toArray.size) fun i => decide (i.val < M)).getD k false = true := fun k hk => done_ofFn _ M k hk (by simp; omega)
      have key : ∀ k, k ≤ M → laidOn l.toArray (fun k => if (k == n) = true then val else v k) (Array.ofFn (n := l.toArray.size) fun i => decide (i.val < M)) a k =
          if k ≤ n then seqOn l.toArray v (fun i => i == n) 0 a k else (seqOn l.toArray v (fun i => i == n) 0 a k).put o1.dst val := by
        intro k
        induction k with
        | zero => intro _; rw [if_pos (Nat.zero_le _)]; rfl
        | succ k ih =>
          intro hk
          unfold laidOn
          rw [done k (by omega), if_pos rfl, ih (by omega)]
          by_cases e : k = n
          · subst e
            rw [if_pos (Nat.le_refl _), if_pos (by simp), if_neg (by omega), d1]
            show _ = (if _ then _ else _ : Act).put _ _
            rw [if_pos (by simp)]
          · have hs : seqOn l.toArray v (fun i => i == n) 0 a (k + 1) = (seqOn l.toArray v (fun i => i == n) 0 a k).put (dstAt l.toArray k) (v k) := by
              show (if _ then _ else _ : Act) = _
              rw [if_neg (by simp [e]), Nat.zero_add]
            have ev : (if (k == n) = true then val else v k) = v k := if_neg (by simp [e])
            rw [ev, hs]
            by_cases hlt : k ≤ n
            · rw [if_pos hlt, if_pos (by omega)]
            · rw [if_neg hlt, if_neg (by omega), Act.put_comm _ _ _ fun d hd => hdst k (by omega) e d hd]
      rw [key M (Nat.le_refl _), if_neg (by omega)]
      have hl2 := hZ val W hW.1 (hW.2 (done n hnM))
      have hd : (l.drop M).length = l.toArray.size - M := by simp
      have := wpAny_of_seq (md := .any) (Q' := R) (l.drop M) M _ _ W (fun j => by simp [List.getElem?_drop]) (by
        rw [hd]
        simp only [noisyB, Bool.and_eq_true] at hB
        exact hB.2) hl2
      rwa [hd] at this)
    M (Array.replicate l.toArray.size false) undef { w with drawn := w.drawn + 1 } inv (undone_none _ _ (by simp; omega)) ⟨(Below.refl _ _).drew, fun h3 => (by rw [getD_replicate_false] at h3; cases h3)⟩
  rw [laidOn_none, show M + (l.toArray.size - M) = l.toArray.size by simp only [List.size_toArray]; omega] at H
  exact H
end
end Go.Proofs.Ytfmhgfnadgaiaaa
