/- A statement whose order Go leaves open, in which several variables are made at any time before they are stored into: one walk serves every order. -/
import Derived.Test.YtnjjcimpcnennaaRegionC
namespace Go.Proofs.Ytnjjcimpcnennaa
open Go Go.RowKit
set_option linter.unusedSimpArgs false
set_option linter.unusedVariables false

section
variable {P : Program} {ops : Array Oper} {md : Region.Mode}

/-- where operation k leaves its value -/
def dstAt (ops : Array Oper) (k : Nat) : Option Tmp := (ops[k]?).bind (·.dst)
/-- the values of the first operations that are done, laid down in the text's order -/
def laidOn (ops : Array Oper) (V : Nat → Value) (lst : Array Bool) (a : Act) : Nat → Act
  | 0 => a
  | k + 1 => if lst.getD k false = true then (laidOn ops V lst a k).put (dstAt ops k) (V k) else laidOn ops V lst a k
theorem put_size (a : Act) (d : Option Tmp) (v : Value) : (a.put d v).tmps.size = a.tmps.size := by cases d <;> simp [Act.put]
theorem laidOn_size (V : Nat → Value) (lst : Array Bool) (a : Act) : ∀ k, (laidOn ops V lst a k).tmps.size = a.tmps.size
  | 0 => rfl
  | k + 1 => by
    unfold laidOn
    split
    · rw [put_size, laidOn_size V lst a k]
    · exact laidOn_size V lst a k
theorem put_other {a : Act} {d : Option Tmp} {v : Value} {t : Nat} (h : d ≠ some t) : (a.put d v).tmps[t]? = a.tmps[t]? := by
  cases d with
  | none => rfl
  | some d => simp only [Act.put]; rw [Array.getElem?_setIfInBounds_ne (fun e => h (by rw [e]))]
theorem laidOn_slot {V V' : Nat → Value} {lst lst' : Array Bool} {a : Act} {t : Nat} : ∀ k, (∀ j, j < k → dstAt ops j = some t → lst.getD j false = lst'.getD j false ∧ V j = V' j) → (laidOn ops V lst a k).tmps[t]? = (laidOn ops V' lst' a k).tmps[t]?
  | 0, _ => rfl
  | k + 1, h => by
    have ih := laidOn_slot (a := a) k fun j hj => h j (by omega)
    by_cases hd : dstAt ops k = some t
    · obtain ⟨h1, h2⟩ := h k (by omega) hd
      unfold laidOn
      rw [h1, h2, hd]
      split
      · show ((laidOn ops V lst a k).tmps.setIfInBounds t (V' k))[t]? = ((laidOn ops V' lst' a k).tmps.setIfInBounds t (V' k))[t]?
        rw [Array.getElem?_setIfInBounds_self, Array.getElem?_setIfInBounds_self, laidOn_size, laidOn_size]
      · exact ih
    · have e1 : ∀ (U : Nat → Value) (ls : Array Bool), (laidOn ops U ls a (k + 1)).tmps[t]? = (laidOn ops U ls a k).tmps[t]? := fun U ls => by
        show (if _ then _ else _ : Act).tmps[t]? = _
        split
        · exact put_other hd
        · rfl
      rw [e1, e1]
      exact ih
theorem laidOn_same {V V' : Nat → Value} {lst lst' : Array Bool} {a : Act} : ∀ k, (∀ j, j < k → lst.getD j false = lst'.getD j false ∧ (lst.getD j false = true → V j = V' j)) → laidOn ops V lst a k = laidOn ops V' lst' a k
  | 0, _ => rfl
  | k + 1, h => by
    have ih := laidOn_same (a := a) k fun j hj => h j (by omega)
    obtain ⟨h1, h2⟩ := h k (by omega)
    unfold laidOn
    rw [ih, ← h1]
    by_cases hd : lst.getD k false = true
    · rw [if_pos hd, if_pos hd, h2 hd]
    · rw [if_neg hd, if_neg hd]
/-- operation i is done now -/
theorem laidOn_put {V V' : Nat → Value} {lst : Array Bool} {a : Act} {i : Nat} {v : Value} (hi : lst.getD i true = false) (hv : V' i = v) (hV : ∀ j, j ≠ i → lst.getD j false = true → V j = V' j) :
    ∀ k, i < k → (∀ j, j < k → j ≠ i → ∀ d, dstAt ops i = some d → dstAt ops j ≠ some d) → (laidOn ops V lst a k).put (dstAt ops i) v = laidOn ops V' (lst.setIfInBounds i true) a k
  | 0, h, _ => by omega
  | k + 1, h, hd => by
    by_cases e : i = k
    · subst e
      have h1 : (lst.setIfInBounds i true).getD i false = true := by
        have hlt : i < lst.size := by
          rcases Nat.lt_or_ge i lst.size with h' | h'
          · exact h'
          · simp [Array.getElem?_eq_none h'] at hi
        simp [hlt]
      have h2 : lst.getD i false = false := getD_both hi
      unfold laidOn
      rw [h1, if_pos rfl, h2, if_neg (by simp), hv]
      congr 1
      exact laidOn_same i fun j hj => ⟨by rw [getD_set_ne false (by omega)], fun hj' => hV j (by omega) hj'⟩
    · have ih := laidOn_put (a := a) hi hv hV k (by omega) fun j hj => hd j (by omega)
      unfold laidOn
      rw [getD_set_ne false e, ← ih]
      by_cases hk : lst.getD k false = true
      · rw [if_pos hk, if_pos hk, hV k (fun h => e h.symm) hk, Act.put_comm _ _ _ fun d hd' he => hd k (by omega) (fun h => e h.symm) d he hd']
      · rw [if_neg hk, if_neg hk]

/-- what an operation yields hangs on the slots alone that it looks at -/
theorem YieldsE.of_slots {C : World → Prop} {o : Oper} {v : Value} {a a' : Act} (hsel : ∀ cs b, o.op ≠ .select cs b) (h : ∀ t, t ∈ o.looksAt ops → a'.tmps[t]? = a.tmps[t]?) (hy : YieldsE P ops C o v a) : YieldsE P ops C o v a' := by
  have e1 : execOp a'.eval o = execOp a.eval o := execOp_congr o hsel fun x hx => by
    cases x with
    | tmp t =>
      have := h t (List.mem_append_left _ (List.mem_filterMap.2 ⟨.tmp t, by simpa using hx, rfl⟩))
      simp [Act.eval, this]
    | _ => rfl
  have e2 : Region.wanted o (yielded ops a'.tmps) = Region.wanted o (yielded ops a.tmps) := by
    unfold Region.wanted
    cases hg : o.guard with
    | none => rfl
    | some gw =>
      obtain ⟨g, want⟩ := gw
      have hyy : yielded ops a'.tmps g = yielded ops a.tmps g := by
        unfold yielded
        cases ht : (ops[g]?).bind (·.dst) with
        | none => rfl
        | some t =>
          have := h t (by simp [Oper.looksAt, hg, ht])
          simp [this]
      simp only [hyy]
  unfold YieldsE QuietE Oper.quietAt at *
  rw [e1, e2]
  exact hy

/-- the values of the quiet operations from number k on, al: which make variables -/
def seqOn (ops : Array Oper) (v : Nat → Value) (al : Nat → Bool) (k : Nat) (a : Act) : Nat → Act
  | 0 => a
  | j + 1 => if al (k + j) = true then seqOn ops v al k a j else (seqOn ops v al k a j).put (dstAt ops (k + j)) (v (k + j))
theorem seqOn_size (v : Nat → Value) (al : Nat → Bool) (k : Nat) (a : Act) : ∀ j, (seqOn ops v al k a j).tmps.size = a.tmps.size
  | 0 => rfl
  | j + 1 => by
    unfold seqOn
    split
    · exact seqOn_size v al k a j
    · rw [put_size, seqOn_size v al k a j]
theorem seqOn_tail (v : Nat → Value) (al : Nat → Bool) (k : Nat) (a : Act) : ∀ j, seqOn ops v al (k + 1) (if al k = true then a else a.put (dstAt ops k) (v k)) j = seqOn ops v al k a (j + 1)
  | 0 => rfl
  | j + 1 => by
    have ih := seqOn_tail v al k a j
    show (if al (k + 1 + j) = true then seqOn ops v al (k + 1) _ j else (seqOn ops v al (k + 1) _ j).put _ _) = (if al (k + (j + 1)) = true then seqOn ops v al k a (j + 1) else (seqOn ops v al k a (j + 1)).put _ _)
    rw [ih, show k + 1 + j = k + (j + 1) by omega]
theorem seqOn_congr {v v' : Nat → Value} {al : Nat → Bool} {k : Nat} {a : Act} : ∀ j, (∀ i, i < j → v (k + i) = v' (k + i)) → seqOn ops v al k a j = seqOn ops v' al k a j
  | 0, _ => rfl
  | j + 1, h => by
    unfold seqOn
    rw [seqOn_congr j fun i hi => h i (by omega), h j (by omega)]
/-- the quiet operations alone -/
def quietOf (al : Nat → Bool) : List Oper → Nat → List Oper
  | [], _ => []
  | o :: l, k => if al k = true then quietOf al l (k + 1) else o :: quietOf al l (k + 1)
theorem wpQE_vals {C : World → Prop} {Z : Act → Prop} {al : Nat → Bool} : ∀ (l : List Oper) (k : Nat) (a : Act), (∀ j, j < l.length → l[j]? = ops[k + j]?) → wpQE P ops C Z (quietOf al l k) a →
    ∃ v : Nat → Value, (∀ j o, j < l.length → al (k + j) = false → ops[k + j]? = some o → YieldsE P ops C o (v (k + j)) (seqOn ops v al k a j)) ∧ Z (seqOn ops v al k a l.length)
  | [], k, a, _, h => ⟨fun _ => undef, fun j o hj => by simp at hj, h⟩
  | o :: l, k, a, hl, h => by
    have h0 : ops[k]? = some o := by simpa using (hl 0 (by simp)).symm
    have hd : dstAt ops k = o.dst := by unfold dstAt; rw [h0]; rfl
    have hl' : ∀ j, j < l.length → l[j]? = ops[k + 1 + j]? := fun j hj => by
      have := hl (j + 1) (by simp; omega)
      rw [show k + 1 + j = k + (j + 1) by omega, ← this]; simp
    by_cases hal : al k = true
    · have h' : wpQE P ops C Z (quietOf al l (k + 1)) a := by
        unfold quietOf at h; rw [if_pos hal] at h; exact h
      obtain ⟨v, h1, h2⟩ := wpQE_vals l (k + 1) _ hl' h'
      have e : ∀ j, seqOn ops v al (k + 1) a j = seqOn ops v al k a (j + 1) := fun j => by
        rw [← seqOn_tail, if_pos hal]
      refine ⟨v, fun j o' hj ha ho' => ?_, ?_⟩
      · cases j with
        | zero => rw [Nat.add_zero, hal] at ha; cases ha
        | succ j =>
          rw [← e j, show k + (j + 1) = k + 1 + j by omega]
          exact h1 j o' (by simpa using hj) (by rw [show k + 1 + j = k + (j + 1) by omega]; exact ha) (by rw [show k + 1 + j = k + (j + 1) by omega]; exact ho')
      · show Z (seqOn ops v al k a (l.length + 1))
        rw [← e]; exact h2
    · have hy : ∃ u, YieldsE P ops C o u a ∧ wpQE P ops C Z (quietOf al l (k + 1)) (a.put o.dst u) := by
        unfold quietOf at h
        rw [if_neg hal] at h
        unfold wpQE at h
        by_cases hw : Region.wanted o (yielded ops a.tmps) = true
        · rw [if_pos hw] at h
          obtain ⟨u, h1, h2⟩ := h
          exact ⟨u, .inl ⟨hw, h1⟩, h2⟩
        · rw [if_neg hw] at h
          exact ⟨undef, .inr ⟨by simpa using hw, rfl⟩, h⟩
      obtain ⟨u, hy1, hK⟩ := hy
      obtain ⟨v, h1, h2⟩ := wpQE_vals l (k + 1) _ hl' hK
      have e : ∀ j, seqOn ops (fun i => if i = k then u else v i) al k a (j + 1) = seqOn ops v al (k + 1) (a.put o.dst u) j := fun j => by
        rw [← seqOn_tail, if_neg hal]
        rw [show (if k = k then u else v k) = u by rw [if_pos rfl], hd]
        exact seqOn_congr j fun i _ => by rw [if_neg (by omega)]
      refine ⟨fun i => if i = k then u else v i, fun j o' hj ha ho' => ?_, ?_⟩
      · cases j with
        | zero =>
          rw [Nat.add_zero, h0] at ho'
          cases ho'
          show YieldsE P ops C o (if k + 0 = k then u else v (k + 0)) a
          rw [if_pos (by omega)]; exact hy1
        | succ j =>
          rw [e j]
          dsimp only
          rw [if_neg (by omega), show k + (j + 1) = k + 1 + j by omega]
          exact h1 j o' (by simpa using hj) (by rw [show k + 1 + j = k + (j + 1) by omega]; exact ha) (by rw [show k + 1 + j = k + (j + 1) by omega]; exact ho')
      · show Z (seqOn ops _ al k a (l.length + 1))
        rw [e]; exact h2

/-- what is known of the world: nothing below B has changed, and each variable that is made lies in a block of its own -/
def MadeOn (W0 : World) (al : Nat → Bool) (M : Nat) (c : Nat → Array Value) (bs : Nat → Nat) (lst : Array Bool) (w : World) : Prop :=
  Below W0.heap.size W0 w ∧ (∀ k, al k = true → k < M → lst.getD k false = true → W0.heap.size ≤ bs k ∧ IsRow w (bs k) ∧ blk w (bs k) = c k) ∧
    ∀ j k, al j = true → j < M → al k = true → k < M → lst.getD j false = true → lst.getD k false = true → j ≠ k → bs j ≠ bs k
theorem closed_madeOn (W0 : World) (al : Nat → Bool) (M : Nat) (c : Nat → Array Value) (bs : Nat → Nat) (lst : Array Bool) : Closed (MadeOn W0 al M c bs lst) := fun w w' h hb =>
  ⟨h.1.trans (hb.mono h.1.size), fun k h1 h2 h3 => by
    obtain ⟨x1, x2, x3⟩ := h.2.1 k h1 h2 h3
    obtain ⟨y1, y2⟩ := keepB hb (isRow_lt x2) x2 x3
    exact ⟨x1, y1, y2⟩, h.2.2⟩
/-- how many of the first M are not done -/
def undone (lst : Array Bool) (M : Nat) : Nat := ((List.range M).filter fun i => !lst.getD i true).length
theorem undone_set {lst : Array Bool} {i : Nat} (hi : lst.getD i true = false) : ∀ M, undone (lst.setIfInBounds i true) M + (if i < M then 1 else 0) = undone lst M
  | 0 => by simp [undone]
  | M + 1 => by
    have ih := undone_set hi M
    have hlt : i < lst.size := by
      rcases Nat.lt_or_ge i lst.size with h' | h'
      · exact h'
      · simp [Array.getElem?_eq_none h'] at hi
    unfold undone at *
    rw [List.range_succ, List.filter_append, List.filter_append, List.length_append, List.length_append]
    by_cases e : i = M
    · subst e
      rw [if_neg (by omega)] at ih
      have h1 : (lst.setIfInBounds i true).getD i true = true := by simp [hlt]
      simp only [List.filter_cons, List.filter_nil, h1, hi]
      simp at ih ⊢
      omega
    · have h1 : (lst.setIfInBounds i true).getD M true = lst.getD M true := getD_set_ne true e
      simp only [List.filter_cons, List.filter_nil, h1]
      by_cases hlt' : i < M
      · rw [if_pos hlt'] at ih
        have e2 : (if i < M + 1 then 1 else 0 : Nat) = 1 := if_pos (by omega)
        rw [e2]
        omega
      · rw [if_neg hlt'] at ih
        have e2 : (if i < M + 1 then 1 else 0 : Nat) = 0 := if_neg (by omega)
        rw [e2]
        omega
theorem undone_pos {lst : Array Bool} : ∀ M, undone lst M ≠ 0 → ∃ i, i < M ∧ lst.getD i true = false ∧ ∀ j, j < i → lst.getD j true = true
  | 0, h => by simp [undone] at h
  | M + 1, h => by
    by_cases h0 : undone lst M = 0
    · have key : ∀ j, j < M → lst.getD j true = true := fun j hj => by
        unfold undone at h0
        rw [List.length_eq_zero_iff, List.filter_eq_nil_iff] at h0
        simpa using h0 j (by simpa using hj)
      refine ⟨M, by omega, ?_, key⟩
      unfold undone at h h0
      rw [List.range_succ, List.filter_append, List.length_append, h0] at h
      cases hm : lst.getD M true
      · rfl
      · simp only [List.filter_cons, List.filter_nil, hm] at h
        simp at h
    · obtain ⟨i, h1, h2, h3⟩ := undone_pos M h0
      exact ⟨i, by omega, h2, h3⟩
theorem undone_zero {lst : Array Bool} {M : Nat} (h : undone lst M = 0) (hM : M ≤ lst.size) (j : Nat) (hj : j < M) : lst.getD j false = true := by
  unfold undone at h
  rw [List.length_eq_zero_iff, List.filter_eq_nil_iff] at h
  have := h j (by simpa using hj)
  have hlt : j < lst.size := by omega
  simp [hlt] at this ⊢
  exact this

/-- the checks on such a region: of the first M operations those of al make variables, the others are quiet; the rest follow in a forced order -/
def madeB (md : Region.Mode) (ops : Array Oper) (al : Nat → Bool) (M : Nat) : Bool :=
  Region.noSelect ops && decide (M < ops.size) && Region.sinkB md ops M && Region.chainB md ops M &&
  ((List.range M).all fun i => match ops[i]? with | some o => o.after.all fun e => !Region.binds md e || decide (e.on < i) | none => true) &&
  ((List.range M).all fun i => (List.range M).all fun j => i == j || (match dstAt ops i with | some d => dstAt ops j != some d | none => true)) &&
  ((List.range M).all fun i => al i || match ops[i]? with
    | some o => (List.range M).all fun j => match dstAt ops j with
      | some d => !(o.looksAt ops).contains d || ((decide (j < i) && !al j) && o.after.any fun e => Region.binds md e && e.on == j)
      | none => true
    | none => true) &&
  Region.seqB md ops (ops.size - M) M (Array.ofFn (n := ops.size) fun i => decide (i.val < M))

theorem any_of_made {R : Exit → Act → World → Prop} {W0 : World} {al : Nat → Bool} {M : Nat} {a0 : Act} {c : Nat → Array Value} {ty : Nat → TypeId} {v : Nat → Value} (hB : madeB md ops al M = true)
    (hq : ∀ i o, i < M → al i = false → ops[i]? = some o → YieldsE P ops (Below W0.heap.size W0) o (v i) (seqOn ops v al 0 a0 i))
    (ha : ∀ i, al i = true → i < M → ∃ o, ops[i]? = some o ∧ o.guard = none ∧ ∀ (a : Act) w, (execOp a.eval o).run P w = .ok (.value (.pointer (some ⟨w.heap.size, 0, none⟩))) (w.alloc (.cells (c i) (ty i))))
    (hfin : ∀ bs lst w, lst = (Array.ofFn (n := ops.size) fun i => decide (i.val < M)) → MadeOn W0 al M c bs lst w → wpAny P md ops R (ops.size - M) lst (laidOn ops (fun k => if al k = true then .pointer (some ⟨bs k, 0, none⟩) else v k) lst a0 M) w) :
    ∀ (u : Nat) (lst : Array Bool) (bs : Nat → Nat) (w : World), HeadInv md ops M lst → undone lst M = u → MadeOn W0 al M c bs lst w →
      wpAny P md ops R (u + (ops.size - M)) lst (laidOn ops (fun k => if al k = true then .pointer (some ⟨bs k, 0, none⟩) else v k) lst a0 M) w := by
  simp only [madeB, Bool.and_eq_true, decide_eq_true_eq] at hB
  obtain ⟨⟨⟨⟨⟨⟨⟨hsel, hMN⟩, hs⟩, hc⟩, hback⟩, hdst⟩, hlook⟩, hseq⟩ := hB
  have hdst' : ∀ i j, i < M → j < M → i ≠ j → ∀ d, dstAt ops i = some d → dstAt ops j ≠ some d := fun i j hi hj hne d hd => by
    have := List.all_eq_true.1 (List.all_eq_true.1 hdst i (List.mem_range.2 hi)) j (List.mem_range.2 hj)
    simp only [hd, Bool.or_eq_true, beq_iff_eq, bne_iff_ne] at this
    exact this.resolve_left hne
  intro u
  induction u with
  | zero =>
    intro lst bs w inv hu hw
    rw [Nat.zero_add]
    refine hfin bs lst w ?_ hw
    apply Array.ext
    · simp [inv.size]
    · intro i h1 h2
      simp only [Array.getElem_ofFn]
      by_cases hi : i < M
      · have := undone_zero hu (by rw [inv.size]; omega) i hi
        simp [h1] at this
        simp [this, hi]
      · have := inv.tail i (by omega) (by rw [← inv.size]; exact h1)
        simp [h1] at this
        simp [this, hi]
  | succ u ih =>
    intro lst bs w inv hu hw
    rw [show u + 1 + (ops.size - M) = (u + (ops.size - M)) + 1 by omega]
    obtain ⟨i0, hi0, hun0, hmin⟩ := undone_pos M (by rw [hu]; omega)
    have hr0 : i0 ∈ Region.ready md ops lst := by
      refine mem_ready.2 ⟨hun0, ops[i0]'(by omega), by simp, fun e he hb => ?_⟩
      have := List.all_eq_true.1 hback i0 (List.mem_range.2 hi0)
      rw [Array.getElem?_eq_getElem (by omega : i0 < ops.size)] at this
      have := (Array.all_eq_true_iff_forall_mem.1 this) e he
      rw [hb] at this
      have hlt : e.on < i0 := by simpa using this
      have h2 := hmin e.on hlt
      have h3 : e.on < lst.size := by rw [inv.size]; omega
      simp [h3] at h2 ⊢
      exact h2
    refine ⟨fun h0 => (by rw [h0] at hr0; cases hr0), fun i hi => ?_⟩
    have hiM : i < M := (Nat.lt_or_ge i M).resolve_right fun h => tail_waits hs hc hMN inv _ i0 rfl hi0 hun0 i h hi
    obtain ⟨hun, oi, hoi, hall⟩ := mem_ready.1 hi
    have hcnt : undone (lst.setIfInBounds i true) M = u := by
      have := undone_set hun M
      rw [if_pos hiM, hu] at this
      omega
    have hdi : dstAt ops i = oi.dst := by unfold dstAt; rw [hoi]; rfl
    by_cases hin : al i = false
    · -- a quiet operation
      have hy := hq i oi hiM hin hoi
      have hy' : YieldsE P ops (Below W0.heap.size W0) oi (v i) (laidOn ops (fun k => if al k = true then .pointer (some ⟨bs k, 0, none⟩) else v k) lst a0 M) := by
        refine hy.of_slots (fun cs b => Region.noSelect_spec hsel i oi cs b hoi) fun t ht => ?_
        have look : ∀ j, j < M → dstAt ops j = some t → j < i ∧ lst.getD j false = true ∧ al j = false := fun j hj hd => by
          have := List.all_eq_true.1 hlook i (List.mem_range.2 hiM)
          rw [hin, Bool.false_or, hoi] at this
          simp only at this
          have := List.all_eq_true.1 this j (List.mem_range.2 hj)
          rw [hd] at this
          simp only [Bool.or_eq_true, Bool.not_eq_true', Bool.and_eq_true, decide_eq_true_eq] at this
          rcases this with h | ⟨⟨h1, h3⟩, h2⟩
          · rw [List.contains_eq_mem] at h
            simp [ht] at h
          · obtain ⟨e, he, h⟩ := any_mem h2
            simp only [Bool.and_eq_true, beq_iff_eq] at h
            exact ⟨h1, by rw [← h.2]; exact hall e he h.1, h3⟩
        -- both are the values done, slot by slot
        have key : ∀ k, k ≤ M → (laidOn ops (fun k => if al k = true then .pointer (some ⟨bs k, 0, none⟩) else v k) lst a0 k).tmps[t]? = (seqOn ops v al 0 a0 (min k i)).tmps[t]? := by
          intro k
          induction k with
          | zero => intro _; rw [Nat.zero_min]; rfl
          | succ k ihk =>
            intro hk
            have ih' := ihk (by omega)
            by_cases hd : dstAt ops k = some t
            · obtain ⟨h1, h2, h3⟩ := look k (by omega) hd
              have e1 : min (k + 1) i = k + 1 := by omega
              have e2 : min k i = k := by omega
              rw [e1]
              rw [e2] at ih'
              unfold laidOn seqOn
              rw [if_pos h2, Nat.zero_add, hd, if_neg (by rw [h3]; simp)]
              have hs1 := seqOn_size (ops := ops) v al 0 a0 k
              simp only [Act.put, Array.getElem?_setIfInBounds_self, laidOn_size, hs1, h3, Bool.false_eq_true, if_false]
            · have e1 : (laidOn ops (fun k => if al k = true then .pointer (some ⟨bs k, 0, none⟩) else v k) lst a0 (k + 1)).tmps[t]? = (laidOn ops (fun k => if al k = true then .pointer (some ⟨bs k, 0, none⟩) else v k) lst a0 k).tmps[t]? := by
                show (if _ then _ else _ : Act).tmps[t]? = _
                split
                · exact put_other hd
                · rfl
              rw [e1, ih']
              by_cases hki : k < i
              · rw [show min (k + 1) i = k + 1 by omega, show min k i = k by omega]
                show _ = (if _ then _ else _ : Act).tmps[t]?
                split
                · rfl
                · rw [put_other (by rw [Nat.zero_add]; exact hd)]
              · rw [show min (k + 1) i = i by omega, show min k i = i by omega]
        have := key M (Nat.le_refl _)
        rw [show min M i = i by omega] at this
        exact this
      have hyI := hy'.at (D := MadeOn W0 al M c bs lst) (fun w h => h.1) (closed_madeOn W0 al M c bs lst)
      refine wpOp_of_qOp (C := MadeOn W0 al M c bs lst) (K := fun a' => a' = laidOn ops (fun k => if al k = true then .pointer (some ⟨bs k, 0, none⟩) else v k) (lst.setIfInBounds i true) a0 M) hw (fun a' w' hw' ha' => ?_) (hyI.qOp hoi ?_)
      · subst ha'
        have nk : ∀ k, al k = true → i ≠ k := fun k h e => by subst e; rw [hin] at h; cases h
        refine ih _ bs w' (inv.set hi hiM) hcnt ⟨hw'.1, fun k h1 h2 h3 => hw'.2.1 k h1 h2 (by rwa [getD_set_ne false (nk k h1)] at h3), fun j k h1 h2 h3 h4 h5 h6 h7 => hw'.2.2 j k h1 h2 h3 h4 (by rwa [getD_set_ne false (nk j h1)] at h5) (by rwa [getD_set_ne false (nk k h3)] at h6) h7⟩
      · rw [← hdi]
        exact laidOn_put hun (by rw [hin]; rfl) (fun _ _ _ => rfl) M hiM fun j hj hne d hd => hdst' i j hiM hj (Ne.symm hne) d hd
    · -- a variable is made
      have hin' : al i = true := by cases h : al i <;> simp_all
      obtain ⟨o', ho', hg, hrun⟩ := ha i hin' hiM
      rw [hoi] at ho'
      cases ho'
      unfold wpOp
      simp only [hoi]
      rw [if_pos (by simp [Region.wanted, hg])]
      refine .inl ?_
      unfold Oper.wp
      rw [hrun]
      simp only [Oper.upon]
      have e : (laidOn ops (fun k => if al k = true then .pointer (some ⟨bs k, 0, none⟩) else v k) lst a0 M).put oi.dst (.pointer (some ⟨w.heap.size, 0, none⟩)) =
          laidOn ops (fun k => if al k = true then .pointer (some ⟨(fun j => if j = i then w.heap.size else bs j) k, 0, none⟩) else v k) (lst.setIfInBounds i true) a0 M := by
        rw [← hdi]
        refine laidOn_put hun (by simp [hin']) (fun j hj _ => ?_) M hiM fun j hj hne d hd => hdst' i j hiM hj (Ne.symm hne) d hd
        simp [hj]
      rw [e]
      refine ih _ _ _ (inv.set hi hiM) hcnt ⟨hw.1.alloc hw.1.size _, fun k h1 h2 h3 => ?_, fun j k h1 h2 h3 h4 h5 h6 h7 => ?_⟩
      · by_cases ek : k = i
        · subst ek
          dsimp only
          rw [if_pos rfl]
          exact ⟨hw.1.size, ⟨_, _, heap_alloc_last _ _⟩, blk_new _ _ _⟩
        · rw [getD_set_ne false (fun h => ek h.symm)] at h3
          obtain ⟨x1, x2, x3⟩ := hw.2.1 k h1 h2 h3
          obtain ⟨y1, y2⟩ := keepB ((Below.refl w.heap.size w).alloc (Nat.le_refl _) _) (isRow_lt x2) x2 x3
          dsimp only
          rw [if_neg ek]
          exact ⟨x1, y1, y2⟩
      · dsimp only
        by_cases ej : j = i
        · subst ej
          rw [getD_set_ne false h7] at h6
          rw [if_pos rfl, if_neg (Ne.symm h7)]
          have := isRow_lt (hw.2.1 k h3 h4 h6).2.1
          omega
        · by_cases ek : k = i
          · subst ek
            rw [getD_set_ne false (Ne.symm h7)] at h5
            rw [if_neg ej, if_pos rfl]
            have := isRow_lt (hw.2.1 j h1 h2 h5).2.1
            omega
          · rw [getD_set_ne false (fun h => ej h.symm)] at h5
            rw [getD_set_ne false (fun h => ek h.symm)] at h6
            rw [if_neg ej, if_neg ek]
            exact hw.2.2 j k h1 h2 h3 h4 h5 h6 h7

/-- in the world W the block b, made since W0, holds c -/
def MadeAt (W0 : World) (c : Array Value) (b : Nat) (W : World) : Prop := W0.heap.size ≤ b ∧ IsRow W b ∧ blk W b = c
theorem undone_none (N M : Nat) (hM : M ≤ N) : undone (Array.replicate N false) M = M := by
  unfold undone
  rw [List.filter_eq_self.2, List.length_range]
  intro i hi
  have : i < N := Nat.lt_of_lt_of_le (List.mem_range.1 hi) hM
  have h2 := getD_in (listed := Array.replicate N false) (by simpa using this) (getD_replicate_false _ i)
  rw [h2]; rfl
theorem laidOn_none (V : Nat → Value) (N : Nat) (a : Act) : ∀ k, laidOn ops V (Array.replicate N false) a k = a
  | 0 => rfl
  | k + 1 => by unfold laidOn; rw [getD_replicate_false, if_neg (by simp), laidOn_none V N a k]
/-- the quiet operations, and the variables of al made at any time, the rest in a forced order -/
theorem wp_quiet_made {id : Nat} {R : Exit → Act → World → Prop} {a : Act} {w : World} {l : List Oper} (al : Nat → Bool) (M : Nat) (c : Nat → Array Value) (ty : Nat → TypeId) (hm : P.follows .mixedOrders = true)
    (hB : madeB .any l.toArray al M = true)
    (ha : ∀ i, al i = true → i < M → ∃ o, l[i]? = some o ∧ o.guard = none ∧ ∀ (a : Act) w, (execOp a.eval o).run P w = .ok (.value (.pointer (some ⟨w.heap.size, 0, none⟩))) (w.alloc (.cells (c i) (ty i))))
    (h : wpQE P l.toArray (Below w.heap.size w) (fun a' => ∀ (v : Nat → Value) bs W, a' = seqOn l.toArray v al 0 a M → MadeOn w al M c bs (Array.ofFn (n := l.toArray.size) fun i => decide (i.val < M)) W →
      wpList P l.toArray R (l.drop M) (laidOn l.toArray (fun k => if al k = true then .pointer (some ⟨bs k, 0, none⟩) else v k) (Array.ofFn (n := l.toArray.size) fun i => decide (i.val < M)) a M) W) (quietOf al (l.take M) 0) a) : (Code.region id l.toArray true).wp P R a w := by
  have hM : M < l.length := by
    simp only [madeB, Bool.and_eq_true, decide_eq_true_eq] at hB
    simpa using hB.1.1.1.1.1.1.2
  have ht : (l.take M).length = M := by simp; omega
  obtain ⟨v, hv, hZ⟩ := wpQE_vals (l.take M) 0 a (fun j hj => by
    have hj' : j < M := by rw [ht] at hj; exact hj
    simp [hj']) h
  rw [ht] at hZ
  refine wp_region_any hm ?_
  have inv : HeadInv .any l.toArray M (Array.replicate l.toArray.size false) :=
    ⟨by simp, fun j _ _ hl => (by rw [getD_replicate_false] at hl; cases hl), fun t _ h1 => getD_in (by simpa using h1) (getD_replicate_false _ _)⟩
  have H := any_of_made (P := P) (R := R) (W0 := w) (a0 := a) (c := c) (ty := ty) (v := v) (al := al) (md := .any) (ops := l.toArray) hB
    (fun i o hi hal ho => by have := hv i o (by rw [ht]; exact hi) (by rw [Nat.zero_add]; exact hal) (by rw [Nat.zero_add]; exact ho); rwa [Nat.zero_add] at this)
    (fun i hi hi2 => by
      obtain ⟨o, h1, h2⟩ := ha i hi hi2
      exact ⟨o, by simpa using h1, h2⟩)
    (fun bs lst W hl hW => by
      subst hl
      have hl2 := hZ v bs W rfl hW
      have hd : (l.drop M).length = l.toArray.size - M := by simp
      have := wpAny_of_seq (md := .any) (Q' := R) (l.drop M) M _ _ W (fun j => by simp [List.getElem?_drop]) (by
        rw [hd]
        simp only [madeB, Bool.and_eq_true] at hB
        exact hB.2) hl2
      rwa [hd] at this)
    M (Array.replicate l.toArray.size false) (fun _ => 0) { w with drawn := w.drawn + 1 } inv (undone_none _ _ (by simp; omega)) ⟨(Below.refl _ _).drew, fun k _ _ h3 => (by rw [getD_replicate_false] at h3; cases h3), fun j k _ _ _ _ h5 => by rw [getD_replicate_false] at h5; cases h5⟩
  rw [laidOn_none, show M + (l.toArray.size - M) = l.toArray.size by simp only [List.size_toArray]; omega] at H
  exact H
theorem done_ofFn (N M k : Nat) (h : k < M) (hM : M ≤ N) : (Array.ofFn (n := N) fun i => decide (i.val < M)).getD k false = true := by
  have : k < N := by omega
  simp [this, h]
theorem quietOf_none {al : Nat → Bool} : ∀ (l : List Oper) (k : Nat), (∀ j, k ≤ j → al j = false) → quietOf al l k = l
  | [], _, _ => rfl
  | o :: l, k, h => by
    unfold quietOf
    rw [if_neg (by rw [h k (Nat.le_refl _)]; simp), quietOf_none l (k + 1) fun j hj => h j (by omega)]
theorem quietOf_one : ∀ (l : List Oper) (k n : Nat), k ≤ n → quietOf (fun i => i == n) l k = l.eraseIdx (n - k)
  | [], _, _, _ => rfl
  | o :: l, k, n, h => by
    unfold quietOf
    by_cases e : k = n
    · subst e
      rw [if_pos (by simp), Nat.sub_self, List.eraseIdx_cons_zero]
      exact quietOf_none l (k + 1) fun j hj => by simp; omega
    · rw [if_neg (by simp [e]), show n - k = (n - (k + 1)) + 1 by omega, List.eraseIdx_cons_succ, quietOf_one l (k + 1) n (by omega)]
theorem quietOf_two : ∀ (l : List Oper) (k n : Nat), k ≤ n → quietOf (fun i => i == n || i == n + 1) l k = (l.eraseIdx (n - k)).eraseIdx (n - k)
  | [], _, _, _ => rfl
  | o :: l, k, n, h => by
    unfold quietOf
    by_cases e : k = n
    · subst e
      rw [if_pos (by simp), Nat.sub_self, List.eraseIdx_cons_zero]
      cases l with
      | nil => rfl
      | cons o2 l =>
        unfold quietOf
        rw [if_pos (by simp), List.eraseIdx_cons_zero]
        exact quietOf_none l (k + 1 + 1) fun j hj => by simp; omega
    · rw [if_neg (by simp; omega), show n - k = (n - (k + 1)) + 1 by omega, List.eraseIdx_cons_succ, List.eraseIdx_cons_succ, quietOf_two l (k + 1) n (by omega)]
/-- one variable -/
theorem wp_quiet_made1 {id : Nat} {R : Exit → Act → World → Prop} {a : Act} {w : World} {l : List Oper} (n M : Nat) (o1 : Oper) (c1 : Array Value) (t1 : TypeId) (hm : P.follows .mixedOrders = true) (h1 : l[n]? = some o1) (g1 : o1.guard = none) (hnM : n < M)
    (hB : madeB .any l.toArray (fun i => i == n) M = true)
    (r1 : ∀ (a : Act) w, (execOp a.eval o1).run P w = .ok (.value (.pointer (some ⟨w.heap.size, 0, none⟩))) (w.alloc (.cells c1 t1)))
    (h : wpQE P l.toArray (Below w.heap.size w) (fun a' => ∀ b1 W, Made w c1 b1 W → wpList P l.toArray R (l.drop M) (a'.put o1.dst (.pointer (some ⟨b1, 0, none⟩))) W) ((l.take M).eraseIdx n) a) : (Code.region id l.toArray true).wp P R a w := by
  have hM : M < l.length := by
    simp only [madeB, Bool.and_eq_true, decide_eq_true_eq] at hB
    simpa using hB.1.1.1.1.1.1.2
  have hdst : ∀ j, j < M → j ≠ n → ∀ d, o1.dst = some d → dstAt l.toArray j ≠ some d := fun j hj hne d hd => by
    simp only [madeB, Bool.and_eq_true, decide_eq_true_eq] at hB
    have := List.all_eq_true.1 (List.all_eq_true.1 hB.1.1.2 n (List.mem_range.2 hnM)) j (List.mem_range.2 hj)
    have d1 : dstAt l.toArray n = o1.dst := by unfold dstAt; rw [List.getElem?_toArray, h1]; rfl
    simp only [d1, hd, Bool.or_eq_true, beq_iff_eq, bne_iff_ne] at this
    exact this.resolve_left (Ne.symm hne)
  have d1 : dstAt l.toArray n = o1.dst := by unfold dstAt; rw [List.getElem?_toArray, h1]; rfl
  refine wp_quiet_made (fun i => i == n) M (fun _ => c1) (fun _ => t1) hm hB (fun i hi _ => by
    obtain rfl : i = n := by simpa using hi
    exact ⟨o1, h1, g1, r1⟩) ?_
  rw [quietOf_one _ _ _ (Nat.zero_le _), Nat.sub_zero]
  refine wpQE_mono (fun a' hz v bs W ha' hW => ?_) _ _ h
  have done : ∀ k, k < M → (Array.ofFn (n := l.toArray.size) fun i => decide (i.val < M)).getD k false = true := fun k hk => done_ofFn _ M k hk (by simp; omega)
  have key : ∀ k, k ≤ M → laidOn l.toArray (fun k => if (k == n) = true then .pointer (some ⟨bs k, 0, none⟩) else v k) (Array.ofFn (n := l.toArray.size) fun i => decide (i.val < M)) a k =
      if k ≤ n then seqOn l.toArray v (fun i => i == n) 0 a k else (seqOn l.toArray v (fun i => i == n) 0 a k).put o1.dst (.pointer (some ⟨bs n, 0, none⟩)) := by
    intro k
    induction k with
    | zero => intro _; rw [if_pos (Nat.zero_le _)]; rfl
    | succ k ih =>
      intro hk
      unfold laidOn
      rw [done k (by omega), if_pos rfl, ih (by omega)]
      by_cases e : k = n
      · subst e
        rw [if_pos (Nat.le_refl _), if_pos (by simp), if_neg (by omega), d1]
        show _ = (if _ then _ else _ : Act).put _ _
        rw [if_pos (by simp)]
      · have e2 : ((k == n) = true) = False := by simp [e]
        have hs : seqOn l.toArray v (fun i => i == n) 0 a (k + 1) = (seqOn l.toArray v (fun i => i == n) 0 a k).put (dstAt l.toArray k) (v k) := by
          show (if _ then _ else _ : Act) = _
          rw [if_neg (by simp [e]), Nat.zero_add]
        have ev : (if (k == n) = true then Value.pointer (some ⟨bs k, 0, none⟩) else v k) = v k := if_neg (by simp [e])
        rw [ev, hs]
        by_cases hlt : k ≤ n
        · rw [if_pos hlt, if_pos (by omega)]
        · rw [if_neg hlt, if_neg (by omega), Act.put_comm _ _ _ fun d hd => hdst k (by omega) e d hd]
  rw [key M (Nat.le_refl _), if_neg (by omega), ← ha']
  obtain ⟨x1, x2, x3⟩ := hW.2.1 n (by simp) hnM (done n hnM)
  exact hz (bs n) W ⟨hW.1, x1, x2, x3⟩
/-- two variables, one behind the other -/
theorem wp_quiet_made2 {id : Nat} {R : Exit → Act → World → Prop} {a : Act} {w : World} {l : List Oper} (n M : Nat) (o1 o2 : Oper) (c1 c2 : Array Value) (t1 t2 : TypeId) (hm : P.follows .mixedOrders = true) (h1 : l[n]? = some o1) (h2 : l[n + 1]? = some o2) (g1 : o1.guard = none) (g2 : o2.guard = none) (hnM : n + 1 < M)
    (hB : madeB .any l.toArray (fun i => i == n || i == n + 1) M = true)
    (r1 : ∀ (a : Act) w, (execOp a.eval o1).run P w = .ok (.value (.pointer (some ⟨w.heap.size, 0, none⟩))) (w.alloc (.cells c1 t1)))
    (r2 : ∀ (a : Act) w, (execOp a.eval o2).run P w = .ok (.value (.pointer (some ⟨w.heap.size, 0, none⟩))) (w.alloc (.cells c2 t2)))
    (h : wpQE P l.toArray (Below w.heap.size w) (fun a' => ∀ b1 b2 W, Below w.heap.size w W → MadeAt w c1 b1 W → MadeAt w c2 b2 W → b1 ≠ b2 →
      wpList P l.toArray R (l.drop M) ((a'.put o1.dst (.pointer (some ⟨b1, 0, none⟩))).put o2.dst (.pointer (some ⟨b2, 0, none⟩))) W) (((l.take M).eraseIdx n).eraseIdx n) a) : (Code.region id l.toArray true).wp P R a w := by
  have hM : M < l.length := by
    simp only [madeB, Bool.and_eq_true, decide_eq_true_eq] at hB
    simpa using hB.1.1.1.1.1.1.2
  have d1 : dstAt l.toArray n = o1.dst := by unfold dstAt; rw [List.getElem?_toArray, h1]; rfl
  have d2 : dstAt l.toArray (n + 1) = o2.dst := by unfold dstAt; rw [List.getElem?_toArray, h2]; rfl
  have hdst : ∀ i j, i < M → j < M → i ≠ j → ∀ d, dstAt l.toArray i = some d → dstAt l.toArray j ≠ some d := fun i j hi hj hne d hd => by
    simp only [madeB, Bool.and_eq_true, decide_eq_true_eq] at hB
    have := List.all_eq_true.1 (List.all_eq_true.1 hB.1.1.2 i (List.mem_range.2 hi)) j (List.mem_range.2 hj)
    simp only [hd, Bool.or_eq_true, beq_iff_eq, bne_iff_ne] at this
    exact this.resolve_left hne
  refine wp_quiet_made (fun i => i == n || i == n + 1) M (fun k => if k = n then c1 else c2) (fun k => if k = n then t1 else t2) hm hB (fun i hi _ => by
    by_cases e : i = n
    · subst e
      exact ⟨o1, h1, g1, fun a w => by rw [if_pos rfl, if_pos rfl]; exact r1 a w⟩
    · obtain rfl : i = n + 1 := by simp at hi; omega
      exact ⟨o2, h2, g2, fun a w => by rw [if_neg (by omega), if_neg (by omega)]; exact r2 a w⟩) ?_
  rw [quietOf_two _ _ _ (Nat.zero_le _), Nat.sub_zero]
  refine wpQE_mono (fun a' hz v bs W ha' hW => ?_) _ _ h
  have done : ∀ k, k < M → (Array.ofFn (n := l.toArray.size) fun i => decide (i.val < M)).getD k false = true := fun k hk => done_ofFn _ M k hk (by simp; omega)
  have key : ∀ k, k ≤ M → laidOn l.toArray (fun k => if (k == n || k == n + 1) = true then .pointer (some ⟨bs k, 0, none⟩) else v k) (Array.ofFn (n := l.toArray.size) fun i => decide (i.val < M)) a k =
      if k ≤ n then seqOn l.toArray v (fun i => i == n || i == n + 1) 0 a k else if k ≤ n + 1 then (seqOn l.toArray v (fun i => i == n || i == n + 1) 0 a k).put o1.dst (.pointer (some ⟨bs n, 0, none⟩))
      else ((seqOn l.toArray v (fun i => i == n || i == n + 1) 0 a k).put o1.dst (.pointer (some ⟨bs n, 0, none⟩))).put o2.dst (.pointer (some ⟨bs (n + 1), 0, none⟩)) := by
    intro k
    induction k with
    | zero => intro _; rw [if_pos (Nat.zero_le _)]; rfl
    | succ k ih =>
      intro hk
      unfold laidOn
      rw [done k (by omega), if_pos rfl, ih (by omega)]
      by_cases e : k = n
      · subst e
        have hs : seqOn l.toArray v (fun i => i == k || i == k + 1) 0 a (k + 1) = seqOn l.toArray v (fun i => i == k || i == k + 1) 0 a k := by
          show (if _ then _ else _ : Act) = _
          rw [if_pos (by simp)]
        rw [if_pos (Nat.le_refl _), if_pos (by simp), if_neg (by omega), if_pos (by omega), d1, hs]
      · by_cases e2 : k = n + 1
        · subst e2
          have hs : seqOn l.toArray v (fun i => i == n || i == n + 1) 0 a (n + 1 + 1) = seqOn l.toArray v (fun i => i == n || i == n + 1) 0 a (n + 1) := by
            show (if _ then _ else _ : Act) = _
            rw [if_pos (by simp)]
          rw [if_neg (by omega), if_pos (Nat.le_refl _), if_pos (by simp), if_neg (by omega), if_neg (by omega), d2, hs]
        · have hs : seqOn l.toArray v (fun i => i == n || i == n + 1) 0 a (k + 1) = (seqOn l.toArray v (fun i => i == n || i == n + 1) 0 a k).put (dstAt l.toArray k) (v k) := by
            show (if _ then _ else _ : Act) = _
            rw [if_neg (by simp [e, e2]), Nat.zero_add]
          have ev : (if (k == n || k == n + 1) = true then Value.pointer (some ⟨bs k, 0, none⟩) else v k) = v k := if_neg (by simp [e, e2])
          rw [ev, hs]
          by_cases hlt : k ≤ n
          · rw [if_pos hlt, if_pos (by omega)]
          · have c1 := fun d hd => hdst n k (by omega) (by omega) (Ne.symm e) d hd
            have c2 := fun d hd => hdst (n + 1) k (by omega) (by omega) (Ne.symm e2) d hd
            rw [d1] at c1
            rw [d2] at c2
            rw [if_neg hlt, if_neg (by omega), if_neg (by omega), if_neg (by omega), Act.put_comm _ _ _ c2, Act.put_comm _ _ _ c1]
  rw [key M (Nat.le_refl _), if_neg (by omega), if_neg (by omega), ← ha']
  have m1 := hW.2.1 n (by simp) (by omega) (done n (by omega))
  have m2 := hW.2.1 (n + 1) (by simp) hnM (done (n + 1) hnM)
  have x1 : (fun k => if k = n then c1 else c2) n = c1 := if_pos rfl
  have x2 : (fun k => if k = n then c1 else c2) (n + 1) = c2 := if_neg (by omega)
  rw [x1] at m1
  rw [x2] at m2
  exact hz (bs n) (bs (n + 1)) W hW.1 m1 m2 (hW.2.2 n (n + 1) (by simp) (by omega) (by simp) (by omega) (done n (by omega)) (done (n + 1) (by omega)) (by omega))
end
end Go.Proofs.Ytnjjcimpcnennaa
