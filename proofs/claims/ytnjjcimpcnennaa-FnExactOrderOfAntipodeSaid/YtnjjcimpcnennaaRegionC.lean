/- A region in which the taking apart of a tuple may pass a later store (gc: late stores): it may be walked as if the store waited for it. -/
import Derived.Test.YtnjjcimpcnennaaRegionB
namespace Go.Proofs.Ytnjjcimpcnennaa
open Go
section
variable {P : Program} {Q : Exit → Act → World → Prop} {md : Region.Mode} {ops ops' : Array Oper} {q s : Nat} {oq os : Oper} {x : Operand} {k : Nat}

theorem yielded_same (hd : ∀ j : Nat, (ops'[j]?).map Oper.dst = (ops[j]?).map Oper.dst) (tmps : Array Value) : yielded ops' tmps = yielded ops tmps := by
  funext j
  have h := hd j
  unfold yielded
  have e : (ops'[j]?).bind Oper.dst = (ops[j]?).bind Oper.dst := by
    cases h1 : ops'[j]? <;> cases h2 : ops[j]? <;> rw [h1, h2] at h <;> simp at h ⊢
    exact h
  rw [e]

theorem wpOp_same (hs : ∀ j, j ≠ s → ops'[j]? = ops[j]?) (hos : ops[s]? = some os) (hos' : ops'[s]? = some { os with after := os.after.push ⟨q, .data⟩ }) (j : Nat) {K : Act → World → Prop} {a : Act} {w : World}
    (h : wpOp P ops' Q j K a w) : wpOp P ops Q j K a w := by
  have hd : ∀ j : Nat, (ops'[j]?).map Oper.dst = (ops[j]?).map Oper.dst := by
    intro j
    by_cases e : j = s
    · subst e; rw [hos, hos']; rfl
    · rw [hs j e]
  unfold wpOp at *
  rw [yielded_same hd] at h
  by_cases e : j = s
  · subst e
    simp only [hos, hos'] at h ⊢
    exact h
  · rw [hs j e] at h
    exact h

/-- what an extract yields does not hang on the world -/
theorem extract_yields (hop : oq.op = .extract x k) (hg : oq.guard = none) (hq : ops[q]? = some oq) {K : Act → World → Prop} {a : Act} {w : World} (h : wpOp P ops Q q K a w) : ∃ v, Yields P ops oq v a ∧ K (a.put oq.dst v) w := by
  unfold wpOp at h
  simp only [hq] at h
  have hw : Region.wanted oq (yielded ops a.tmps) = true := by simp [Region.wanted, hg]
  rw [if_pos hw] at h
  obtain ⟨dst, op, ty, pos, after, guard⟩ := oq
  simp only at hop hg
  subst hop hg
  have ex : execOp a.eval ⟨dst, .extract x k, ty, pos, after, none⟩ = (do pure (Next.value (← Instr.extract (a.eval x) k)) : Sem Next) := rfl
  unfold Oper.wp Oper.asks at h
  rw [ex] at h
  cases hv : a.eval x with
  | tuple vs =>
    cases hk : vs[k]? with
    | some v =>
      refine ⟨v, .inl ⟨hw, fun w => by rw [ex, hv]; simp [Instr.extract, hk]⟩, ?_⟩
      rw [hv] at h
      rcases h with h | ⟨⟨h, _⟩, _⟩
      · simpa [Instr.extract, hk, Oper.upon] using h
      · simp [Instr.extract, hk] at h
        exact absurd (show noRoomEvent ∈ (#[] : Array Event) from h) (by simp)
    | none =>
      rw [hv] at h
      rcases h with h | ⟨⟨h, _⟩, _⟩
      · simp [Instr.extract, hk, Oper.upon, stuck] at h
      · simp [Instr.extract, hk] at h
        exact absurd (show noRoomEvent ∈ (#[] : Array Event) from h) (by simp)
  | _ =>
    rw [hv] at h
    rcases h with h | ⟨⟨h, _⟩, _⟩
    · simp [Instr.extract, Oper.upon, stuck] at h
    · simp [Instr.extract] at h
      exact absurd (show noRoomEvent ∈ (#[] : Array Event) from h) (by simp)

/-- the checks: q is an extract under no guard; where s may come, what q waits for is done; every other operation waits for q, or q for it, or they are apart -/
def lateB (md : Region.Mode) (ops : Array Oper) (q s : Nat) : Bool :=
  match ops[q]?, ops[s]? with
  | some oq, some os =>
    decide (q ≠ s) && oq.guard.isNone && (match oq.op with | .extract _ _ => true | _ => false) && Region.noSelect ops &&
    (oq.after.all fun e => !Region.binds md e || os.after.any fun e' => Region.binds md e' && e'.on == e.on) &&
    ((List.range ops.size).all fun j => j == q || (match ops[j]? with | some oj => (oj.after.any fun e => Region.binds md e && e.on == q) || (oq.after.any fun e => Region.binds md e && e.on == j) || oq.apart ops oj | none => true))
  | _, _ => false

theorem any_mem {xs : Array Edge} {p : Edge → Bool} (h : xs.any p = true) : ∃ e ∈ xs, p e = true := by
  rw [← Array.any_toList, List.any_eq_true] at h
  obtain ⟨e, he, hp⟩ := h
  exact ⟨e, by simpa using he, hp⟩

theorem lateB_spec (h : lateB md ops q s = true) : ∃ oq os x k, ops[q]? = some oq ∧ ops[s]? = some os ∧ q ≠ s ∧ oq.guard = none ∧ oq.op = .extract x k ∧ Region.noSelect ops = true ∧
    (∀ e ∈ oq.after, Region.binds md e = true → ∃ e' ∈ os.after, Region.binds md e' = true ∧ e'.on = e.on) ∧
    (∀ j oj, ops[j]? = some oj → j ≠ q → (∃ e ∈ oj.after, Region.binds md e = true ∧ e.on = q) ∨ (∃ e ∈ oq.after, Region.binds md e = true ∧ e.on = j) ∨ oq.apart ops oj = true) := by
  unfold lateB at h
  split at h
  · rename_i oq os hq hs
    simp only [Bool.and_eq_true, decide_eq_true_eq, Option.isNone_iff_eq_none] at h
    obtain ⟨⟨⟨⟨⟨h1, h2⟩, h3⟩, h4⟩, h5⟩, h6⟩ := h
    split at h3
    · rename_i x k hop
      refine ⟨oq, os, x, k, hq, hs, h1, h2, hop, h4, ?_, ?_⟩
      · intro e he hb
        have := (Array.all_eq_true_iff_forall_mem.1 h5) e he
        rw [hb, Bool.not_true, Bool.false_or] at this
        obtain ⟨e', he', h⟩ := any_mem this
        simp only [Bool.and_eq_true, beq_iff_eq] at h
        exact ⟨e', he', h.1, h.2⟩
      · intro j oj hj hne
        have hlt : j < ops.size := (Array.getElem?_eq_some_iff.1 hj).1
        have := (List.all_eq_true.1 h6) j (List.mem_range.2 hlt)
        simp only [hj, Bool.or_eq_true, beq_iff_eq] at this
        rcases this with h | (h | h) | h
        · exact (hne h).elim
        · obtain ⟨e, he, h⟩ := any_mem h
          simp only [Bool.and_eq_true, beq_iff_eq] at h
          exact .inl ⟨e, he, h.1, h.2⟩
        · obtain ⟨e, he, h⟩ := any_mem h
          simp only [Bool.and_eq_true, beq_iff_eq] at h
          exact .inr (.inl ⟨e, he, h.1, h.2⟩)
        · exact .inr (.inr h)
    · cases h3
  · cases h

/-- the operations with s made to wait for q -/
def waitFor (ops : Array Oper) (q s : Nat) : Array Oper := match ops[s]? with | some os => ops.setIfInBounds s { os with after := os.after.push ⟨q, .data⟩ } | none => ops

theorem wpAny_late (h : lateB md ops q s = true) (hQ : ∀ c a w d v, Q (.panic c) (a.put d v) w → Q (.panic c) a w) :
    ∀ (f : Nat) (lst : Array Bool) (a : Act) (w : World), lst.size = ops.size → wpAny P md (waitFor ops q s) Q f lst a w → wpAny P md ops Q f lst a w := by
  obtain ⟨oq, os, x, k, hq, hs, hne, hg, hop, hsel, hpre, hap⟩ := lateB_spec h
  have hw : waitFor ops q s = ops.setIfInBounds s { os with after := os.after.push ⟨q, .data⟩ } := by unfold waitFor; rw [hs]
  have hlt : s < ops.size := (Array.getElem?_eq_some_iff.1 hs).1
  have hsame : ∀ j, j ≠ s → (waitFor ops q s)[j]? = ops[j]? := fun j hj => by rw [hw, Array.getElem?_setIfInBounds_ne (Ne.symm hj)]
  have hs' : (waitFor ops q s)[s]? = some { os with after := os.after.push ⟨q, .data⟩ } := by rw [hw]; simp [hlt]
  -- who is ready here and not there
  have up : ∀ (lst : Array Bool) j, j ∈ Region.ready md ops lst → (j ≠ s ∨ lst.getD q false = true) → j ∈ Region.ready md (waitFor ops q s) lst := by
    intro lst j hj hc
    obtain ⟨hun, oj, hoj, hall⟩ := mem_ready.1 hj
    by_cases e : j = s
    · subst e
      rw [hs] at hoj
      cases hoj
      refine mem_ready.2 ⟨hun, _, hs', fun e he hb => ?_⟩
      rcases Array.mem_push.1 he with he | rfl
      · exact hall e he hb
      · exact hc.resolve_left (fun h => h rfl)
    · exact mem_ready.2 ⟨hun, oj, by rw [hsame j e]; exact hoj, hall⟩
  have sub : ∀ (lst : Array Bool) j, j ∈ Region.ready md (waitFor ops q s) lst → j ∈ Region.ready md ops lst := by
    intro lst j hj
    obtain ⟨hun, oj, hoj, hall⟩ := mem_ready.1 hj
    by_cases e : j = s
    · subst e
      rw [hs'] at hoj
      cases hoj
      exact mem_ready.2 ⟨hun, _, hs, fun e he hb => hall e (Array.mem_push.2 (.inl he)) hb⟩
    · exact mem_ready.2 ⟨hun, oj, by rw [← hsame j e]; exact hoj, hall⟩
  have down : ∀ (lst : Array Bool), lst.size = ops.size → q ∈ Region.ready md ops lst ∨ lst.getD q false = true ∨ (s ∉ Region.ready md ops lst) := by
    intro lst hsz
    by_cases hsr : s ∈ Region.ready md ops lst
    · obtain ⟨_, oj, hoj, hall⟩ := mem_ready.1 hsr
      rw [hs] at hoj
      cases hoj
      cases hd : lst.getD q false
      · refine .inl (mem_ready.2 ⟨?_, oq, hq, fun e he hb => ?_⟩)
        · have hql : q < lst.size := by rw [hsz]; exact (Array.getElem?_eq_some_iff.1 hq).1
          simp [hql] at hd ⊢
          exact hd
        · obtain ⟨e', he', hb', hon⟩ := hpre e he hb
          rw [← hon]; exact hall e' he' hb'
      · exact .inr (.inl rfl)
    · exact .inr (.inr hsr)
  have same : ∀ (lst : Array Bool), lst.size = ops.size → q ∉ Region.ready md ops lst → ∀ j, j ∈ Region.ready md ops lst → j ∈ Region.ready md (waitFor ops q s) lst := by
    intro lst hsz hqr j hj
    rcases down lst hsz with h | h | h
    · exact (hqr h).elim
    · exact up lst j hj (.inr h)
    · refine up lst j hj (.inl ?_)
      rintro rfl
      exact h hj
  intro f
  induction f with
  | zero =>
    intro lst a w hsz H
    refine ⟨List.eq_nil_iff_forall_not_mem.2 fun j hj => ?_, H.2⟩
    have h0 : ∀ j, j ∉ Region.ready md (waitFor ops q s) lst := List.eq_nil_iff_forall_not_mem.1 H.1
    by_cases hqr : q ∈ Region.ready md ops lst
    · exact h0 q (up lst q hqr (.inl hne))
    · exact h0 j (same lst hsz hqr j hj)
  | succ f ih =>
    intro lst a w hsz H
    by_cases hqr : q ∈ Region.ready md ops lst
    · have h1 := wpOp_same hsame hs hs' q (H.2 q (up lst q hqr (.inl hne)))
      obtain ⟨v, hy, h2⟩ := extract_yields hop hg hq h1
      have h3 := ih _ _ _ (by simp [hsz]) h2
      refine wpAny_first hq (Region.noSelect_spec hsel) (fun c a w h => hQ c a w _ _ h) f lst a w (fun j oj hoj hji hun hno => ?_) hqr hy h3
      rcases hap j oj hoj hji with ⟨e, he, hb, hon⟩ | ⟨e, he, hb, hon⟩ | h
      · exact (hno e he hb hon).elim
      · obtain ⟨_, o', ho', hall⟩ := mem_ready.1 hqr
        rw [hq] at ho'
        cases ho'
        have := hall e he hb
        rw [hon, getD_both hun] at this
        cases this
      · exact h
    · refine ⟨fun h0 => H.1 (List.eq_nil_iff_forall_not_mem.2 fun j hj => ?_), fun j hj => ?_⟩
      · have := sub lst j hj
        rw [h0] at this
        cases this
      · exact wpOp_same hsame hs hs' j (wpOp_mono (fun a w h => ih _ a w (by simp [hsz]) h) (H.2 j (same lst hsz hqr j hj)))

theorem wpQE_same (hd : ∀ j : Nat, (ops'[j]?).map Oper.dst = (ops[j]?).map Oper.dst) {C : World → Prop} {Z : Act → Prop} : ∀ (l : List Oper) (a : Act), wpQE P ops C Z l a → wpQE P ops' C Z l a
  | [], a, h => h
  | o :: l, a, h => by
    unfold wpQE at h ⊢
    rw [yielded_same hd]
    by_cases hw : Region.wanted o (yielded ops a.tmps) = true
    · rw [if_pos hw] at h ⊢
      obtain ⟨v, h1, h2⟩ := h
      exact ⟨v, h1, wpQE_same hd l _ h2⟩
    · rw [if_neg hw] at h ⊢
      exact wpQE_same hd l _ h
theorem wpQE_mono {C : World → Prop} {Z Z' : Act → Prop} (hz : ∀ a, Z a → Z' a) : ∀ (l : List Oper) (a : Act), wpQE P ops C Z l a → wpQE P ops C Z' l a
  | [], a, h => hz a h
  | o :: l, a, h => by
    unfold wpQE at h ⊢
    by_cases hw : Region.wanted o (yielded ops a.tmps) = true
    · rw [if_pos hw] at h ⊢
      obtain ⟨v, h1, h2⟩ := h
      exact ⟨v, h1, wpQE_mono hz l _ h2⟩
    · rw [if_neg hw] at h ⊢
      exact wpQE_mono hz l _ h

theorem wpList_same (hd : ∀ j : Nat, (ops'[j]?).map Oper.dst = (ops[j]?).map Oper.dst) : ∀ (l : List Oper) (a : Act) (w : World), wpList P ops Q l a w → wpList P ops' Q l a w
  | [], a, w, h => h
  | o :: l, a, w, h => by
    unfold wpList at h ⊢
    rw [yielded_same hd]
    by_cases hw : Region.wanted o (yielded ops a.tmps) = true
    · rw [if_pos hw] at h ⊢
      exact h.imp (Oper.wp_mono fun a w h => wpList_same hd l a w h) id
    · rw [if_neg hw] at h ⊢
      exact wpList_same hd l _ w h
theorem wpList_head {after' : Array Edge} {rest : List Oper} {a : Act} {w : World} (h : wpList P ops Q (os :: rest) a w) : wpList P ops Q ({ os with after := after' } :: rest) a w := by
  unfold wpList at h ⊢
  exact h

theorem wpAny_quiet_alloc {R : Exit → Act → World → Prop} {a : Act} {w : World} {l : List Oper} (n : Nat) (oa : Oper) (o : Obj) (C0 : World → Prop) (C1 : Nat → World → Prop) (ha : l[n]? = some oa) (hg : oa.guard = none)
    (hB : allocB .any l.toArray n = true) (hrun : ∀ (a : Act) w, (execOp a.eval oa).run P w = .ok (.value (.pointer (some ⟨w.heap.size, 0, none⟩))) (w.alloc o))
    (k0 : Closed C0) (k1 : ∀ b, Closed (C1 b)) (hsub : ∀ b w, C1 b w → C0 w) (hC1 : ∀ w, C0 w → C1 w.heap.size (w.alloc o)) (hC : C0 w)
    (h : wpQE P l.toArray C0 (fun a' => ∀ b W, C1 b W → wpList P l.toArray R (l.drop (n + 1)) (a'.put oa.dst (.pointer (some ⟨b, 0, none⟩))) W) (l.take n) a) : wpAny P .any l.toArray R l.toArray.size (Array.replicate l.toArray.size false) a w := by
  simp only [allocB, Bool.and_eq_true, decide_eq_true_eq] at hB
  obtain ⟨⟨⟨⟨hsel, hn⟩, hs⟩, hc⟩, hlex⟩ := hB
  have hn' : n + 1 < l.length := by simpa using hn
  have ht : (l.take n).length = n := by simp; omega
  have hd : (l.drop (n + 1)).length = l.toArray.size - n - 1 := by simp; omega
  have inv : HeadInv .any l.toArray (n + 1) (Array.replicate l.toArray.size false) :=
    ⟨by simp, fun j _ _ hl => (by rw [getD_replicate_false] at hl; cases hl), fun t _ h1 => getD_in (by simpa using h1) (getD_replicate_false _ _)⟩
  have hg1 : l.toArray.size - n = (l.toArray.size - n - 1) + 1 := by simp only [List.size_toArray]; omega
  rw [hg1] at hlex
  have ha' : l.toArray[n]? = some oa := by simpa using ha
  have H := headA_lex (P := P) (md := .any) (g := l.toArray.size - n - 1) ha' hsel hs hc hn k0 k1 hsub (fun b a' => ∀ W, C1 b W → wpList P l.toArray R (l.drop (n + 1)) a' W) (fun a h b W => h b W) (l.take n) 0 _ a (fun j hj => by
    have hj' : j < n := by rw [ht] at hj; exact hj
    simp [hj']) (by simpa using ht) inv (by rw [ht]; exact hlex) h
  have := any_of_headA (P := P) (R := R) (g := l.toArray.size - n - 1) ha' hg hrun hC1 (fun b lst a' w' hw' hL => by
    have := wpAny_of_seq (md := .any) (Q' := R) (l.drop (n + 1)) (n + 1) lst a' w' (fun j => by simp [List.getElem?_drop]) (by rw [hd]; exact hL.1) (hL.2 w' hw')
    rwa [hd] at this) _ _ a _ hC H
  rw [ht, show n + 1 + (l.toArray.size - n - 1) = l.toArray.size by simp only [List.size_toArray]; omega] at this
  exact this

/-- wp_quiet_alloc where the taking apart of a tuple (operation q) may pass the store (operation n + 1) -/
theorem wp_quiet_alloc_late {id : Nat} {R : Exit → Act → World → Prop} {a : Act} {w : World} {l : List Oper} (n q : Nat) (oa os : Oper) (o : Obj) (C0 : World → Prop) (C1 : Nat → World → Prop) (hm : P.follows .mixedOrders = true) (ha : l[n]? = some oa) (hos : l[n + 1]? = some os) (hg : oa.guard = none)
    (hL : lateB .any l.toArray q (n + 1) = true) (hB : allocB .any (waitFor l.toArray q (n + 1)) n = true) (hQ : ∀ c a w d v, R (.panic c) (a.put d v) w → R (.panic c) a w)
    (hrun : ∀ (a : Act) w, (execOp a.eval oa).run P w = .ok (.value (.pointer (some ⟨w.heap.size, 0, none⟩))) (w.alloc o))
    (k0 : Closed C0) (k1 : ∀ b, Closed (C1 b)) (hsub : ∀ b w, C1 b w → C0 w) (hC1 : ∀ w, C0 w → C1 w.heap.size (w.alloc o)) (hC : C0 w.drew)
    (h : wpQE P l.toArray C0 (fun a' => ∀ b W, C1 b W → wpList P l.toArray R (l.drop (n + 1)) (a'.put oa.dst (.pointer (some ⟨b, 0, none⟩))) W) (l.take n) a) : (Code.region id l.toArray true).wp P R a w := by
  have hlen : n + 1 < l.length := (List.getElem?_eq_some_iff.1 hos).1
  have e1 : waitFor l.toArray q (n + 1) = (l.set (n + 1) { os with after := os.after.push ⟨q, .data⟩ }).toArray := by
    unfold waitFor
    have : l.toArray[n + 1]? = some os := by simpa using hos
    rw [this]
    simp
  have hd : ∀ j : Nat, ((l.set (n + 1) { os with after := os.after.push ⟨q, .data⟩ }).toArray[j]?).map Oper.dst = (l.toArray[j]?).map Oper.dst := by
    intro j
    simp only [List.getElem?_toArray, List.getElem?_set]
    by_cases e : n + 1 = j
    · subst e; rw [if_pos rfl, if_pos hlen, hos]; rfl
    · rw [if_neg e]
  have e2 : (l.set (n + 1) { os with after := os.after.push ⟨q, .data⟩ }).take n = l.take n := by
    apply List.ext_getElem?
    intro i
    rw [List.getElem?_take, List.getElem?_take]
    by_cases hi : i < n
    · rw [if_pos hi, if_pos hi, List.getElem?_set, if_neg (by omega)]
    · rw [if_neg hi, if_neg hi]
  have e3 : (l.set (n + 1) { os with after := os.after.push ⟨q, .data⟩ }).drop (n + 1) = { os with after := os.after.push ⟨q, .data⟩ } :: l.drop (n + 2) := by
    apply List.ext_getElem?
    intro i
    rw [List.getElem?_drop, List.getElem?_set]
    cases i with
    | zero => simp [hlen]
    | succ i => rw [if_neg (by omega), List.getElem?_cons_succ, List.getElem?_drop, show n + 1 + (i + 1) = n + 2 + i by omega]
  have e4 : l.drop (n + 1) = os :: l.drop (n + 2) := by
    apply List.ext_getElem?
    intro i
    rw [List.getElem?_drop]
    cases i with
    | zero => simpa using hos
    | succ i => rw [List.getElem?_cons_succ, List.getElem?_drop, show n + 1 + (i + 1) = n + 2 + i by omega]
  refine wp_region_any hm ?_
  refine wpAny_late hL hQ _ _ _ _ (by simp) ?_
  rw [e1] at hB ⊢
  have hsz : l.toArray.size = (l.set (n + 1) { os with after := os.after.push ⟨q, .data⟩ }).toArray.size := by simp
  rw [hsz]
  refine wpAny_quiet_alloc n oa o C0 C1 (by rw [List.getElem?_set, if_neg (by omega)]; exact ha) hg hB hrun k0 k1 hsub hC1 hC ?_
  rw [e2]
  refine wpQE_mono (fun a' h b W hW => ?_) _ _ (wpQE_same hd _ _ h)
  rw [e3]
  have := h b W hW
  rw [e4] at this
  exact wpList_head (wpList_same hd _ _ _ this)
end
end Go.Proofs.Ytnjjcimpcnennaa
