/- A region whose tail an earlier move may pass. -/
import Derived.Test.YtjmmmggnbndolaaGreatReg
namespace Go.Proofs.YtjmmmggnbndolaaGreat
open Go
section
variable {P : Program} {Q : Exit → Act → World → Prop} {md : Region.Mode} {ops ops' : Array Oper} {q s : Nat} {oq os : Oper} {x : Operand} {k : Nat}

/-- what a move yields does not hang on the world -/
theorem move_yields {oq : Oper} {x : Operand} {q : Nat} (hop : oq.op = .move x) (hg : oq.guard = none) (hq : ops[q]? = some oq) {K : Act → World → Prop} {a : Act} {w : World} (h : wpOp P ops Q q K a w) : ∃ v, Yields P ops oq v a ∧ K (a.put oq.dst v) w := by
  unfold wpOp at h
  simp only [hq] at h
  have hw : Region.wanted oq (yielded ops a.tmps) = true := by simp [Region.wanted, hg]
  rw [if_pos hw] at h
  obtain ⟨dst, op, ty, pos, after, guard⟩ := oq
  simp only at hop hg
  subst hop hg
  have ex : execOp a.eval ⟨dst, .move x, ty, pos, after, none⟩ = (pure (Next.value (a.eval x)) : Sem Next) := rfl
  unfold Oper.wp Oper.asks at h
  rw [ex] at h
  refine ⟨a.eval x, .inl ⟨hw, fun w => by rw [ex]; rfl⟩, ?_⟩
  rcases h with h | ⟨⟨h, _⟩, _⟩
  · exact h
  · simp at h
    exact absurd (show noRoomEvent ∈ (#[] : Array Event) from h) (by simp)
/-- the checks: q is a move under no guard; where s may come, what q waits for is done; every other operation waits for q, or q for it, or they are apart -/
def lateMB (md : Region.Mode) (ops : Array Oper) (q s : Nat) : Bool :=
  match ops[q]?, ops[s]? with
  | some oq, some os =>
    decide (q ≠ s) && oq.guard.isNone && (match oq.op with | .move _ => true | _ => false) && Region.noSelect ops &&
    (oq.after.all fun e => !Region.binds md e || os.after.any fun e' => Region.binds md e' && e'.on == e.on) &&
    ((List.range ops.size).all fun j => j == q || (match ops[j]? with | some oj => (oj.after.any fun e => Region.binds md e && e.on == q) || (oq.after.any fun e => Region.binds md e && e.on == j) || oq.apart ops oj | none => true))
  | _, _ => false

theorem lateMB_spec (h : lateMB md ops q s = true) : ∃ oq os x, ops[q]? = some oq ∧ ops[s]? = some os ∧ q ≠ s ∧ oq.guard = none ∧ oq.op = .move x ∧ Region.noSelect ops = true ∧
    (∀ e ∈ oq.after, Region.binds md e = true → ∃ e' ∈ os.after, Region.binds md e' = true ∧ e'.on = e.on) ∧
    (∀ j oj, ops[j]? = some oj → j ≠ q → (∃ e ∈ oj.after, Region.binds md e = true ∧ e.on = q) ∨ (∃ e ∈ oq.after, Region.binds md e = true ∧ e.on = j) ∨ oq.apart ops oj = true) := by
  unfold lateMB at h
  split at h
  · rename_i oq os hq hs
    simp only [Bool.and_eq_true, decide_eq_true_eq, Option.isNone_iff_eq_none] at h
    obtain ⟨⟨⟨⟨⟨h1, h2⟩, h3⟩, h4⟩, h5⟩, h6⟩ := h
    split at h3
    · rename_i x hop
      refine ⟨oq, os, x, hq, hs, h1, h2, hop, h4, ?_, ?_⟩
      · intro e he hb
        have := (Array.all_eq_true_iff_forall_mem.1 h5) e he
        rw [hb, Bool.not_true, Bool.false_or] at this
        obtain ⟨e', he', h⟩ := any_mem this
        simp only [Bool.and_eq_true, beq_iff_eq] at h
        exact ⟨e', he', h.1, h.2⟩
      · intro j oj hj hne
        have hlt : j < ops.size := (Array.getElem?_eq_some_iff.1 hj).1
        have := (List.all_eq_true.1 h6) j (List.mem_range.2 hlt)
        simp only [hj, Bool.or_eq_true, beq_iff_eq] at this
        rcases this with h | (h | h) | h
        · exact (hne h).elim
        · obtain ⟨e, he, h⟩ := any_mem h
          simp only [Bool.and_eq_true, beq_iff_eq] at h
          exact .inl ⟨e, he, h.1, h.2⟩
        · obtain ⟨e, he, h⟩ := any_mem h
          simp only [Bool.and_eq_true, beq_iff_eq] at h
          exact .inr (.inl ⟨e, he, h.1, h.2⟩)
        · exact .inr (.inr h)
    · cases h3
  · cases h

theorem wpAny_lateM (h : lateMB md ops q s = true) (hQ : ∀ c a w d v, Q (.panic c) (a.put d v) w → Q (.panic c) a w) :
    ∀ (f : Nat) (lst : Array Bool) (a : Act) (w : World), lst.size = ops.size → wpAny P md (waitFor ops q s) Q f lst a w → wpAny P md ops Q f lst a w := by
  obtain ⟨oq, os, x, hq, hs, hne, hg, hop, hsel, hpre, hap⟩ := lateMB_spec h
  have hw : waitFor ops q s = ops.setIfInBounds s { os with after := os.after.push ⟨q, .data⟩ } := by unfold waitFor; rw [hs]
  have hlt : s < ops.size := (Array.getElem?_eq_some_iff.1 hs).1
  have hsame : ∀ j, j ≠ s → (waitFor ops q s)[j]? = ops[j]? := fun j hj => by rw [hw, Array.getElem?_setIfInBounds_ne (Ne.symm hj)]
  have hs' : (waitFor ops q s)[s]? = some { os with after := os.after.push ⟨q, .data⟩ } := by rw [hw]; simp [hlt]
  -- who is ready here and not there
  have up : ∀ (lst : Array Bool) j, j ∈ Region.ready md ops lst → (j ≠ s ∨ lst.getD q false = true) → j ∈ Region.ready md (waitFor ops q s) lst := by
    intro lst j hj hc
    obtain ⟨hun, oj, hoj, hall⟩ := mem_ready.1 hj
    by_cases e : j = s
    · subst e
      rw [hs] at hoj
      cases hoj
      refine mem_ready.2 ⟨hun, _, hs', fun e he hb => ?_⟩
      rcases Array.mem_push.1 he with he | rfl
      · exact hall e he hb
      · exact hc.resolve_left (fun h => h rfl)
    · exact mem_ready.2 ⟨hun, oj, by rw [hsame j e]; exact hoj, hall⟩
  have sub : ∀ (lst : Array Bool) j, j ∈ Region.ready md (waitFor ops q s) lst → j ∈ Region.ready md ops lst := by
    intro lst j hj
    obtain ⟨hun, oj, hoj, hall⟩ := mem_ready.1 hj
    by_cases e : j = s
    · subst e
      rw [hs'] at hoj
      cases hoj
      exact mem_ready.2 ⟨hun, _, hs, fun e he hb => hall e (Array.mem_push.2 (.inl he)) hb⟩
    · exact mem_ready.2 ⟨hun, oj, by rw [← hsame j e]; exact hoj, hall⟩
  have down : ∀ (lst : Array Bool), lst.size = ops.size → q ∈ Region.ready md ops lst ∨ lst.getD q false = true ∨ (s ∉ Region.ready md ops lst) := by
    intro lst hsz
    by_cases hsr : s ∈ Region.ready md ops lst
    · obtain ⟨_, oj, hoj, hall⟩ := mem_ready.1 hsr
      rw [hs] at hoj
      cases hoj
      cases hd : lst.getD q false
      · refine .inl (mem_ready.2 ⟨?_, oq, hq, fun e he hb => ?_⟩)
        · have hql : q < lst.size := by rw [hsz]; exact (Array.getElem?_eq_some_iff.1 hq).1
          simp [hql] at hd ⊢
          exact hd
        · obtain ⟨e', he', hb', hon⟩ := hpre e he hb
          rw [← hon]; exact hall e' he' hb'
      · exact .inr (.inl rfl)
    · exact .inr (.inr hsr)
  have same : ∀ (lst : Array Bool), lst.size = ops.size → q ∉ Region.ready md ops lst → ∀ j, j ∈ Region.ready md ops lst → j ∈ Region.ready md (waitFor ops q s) lst := by
    intro lst hsz hqr j hj
    rcases down lst hsz with h | h | h
    · exact (hqr h).elim
    · exact up lst j hj (.inr h)
    · refine up lst j hj (.inl ?_)
      rintro rfl
      exact h hj
  intro f
  induction f with
  | zero =>
    intro lst a w hsz H
    refine ⟨List.eq_nil_iff_forall_not_mem.2 fun j hj => ?_, H.2⟩
    have h0 : ∀ j, j ∉ Region.ready md (waitFor ops q s) lst := List.eq_nil_iff_forall_not_mem.1 H.1
    by_cases hqr : q ∈ Region.ready md ops lst
    · exact h0 q (up lst q hqr (.inl hne))
    · exact h0 j (same lst hsz hqr j hj)
  | succ f ih =>
    intro lst a w hsz H
    by_cases hqr : q ∈ Region.ready md ops lst
    · have h1 := wpOp_same hsame hs hs' q (H.2 q (up lst q hqr (.inl hne)))
      obtain ⟨v, hy, h2⟩ := move_yields hop hg hq h1
      have h3 := ih _ _ _ (by simp [hsz]) h2
      refine wpAny_first hq (Region.noSelect_spec hsel) (fun c a w h => hQ c a w _ _ h) f lst a w (fun j oj hoj hji hun hno => ?_) hqr hy h3
      rcases hap j oj hoj hji with ⟨e, he, hb, hon⟩ | ⟨e, he, hb, hon⟩ | h
      · exact (hno e he hb hon).elim
      · obtain ⟨_, o', ho', hall⟩ := mem_ready.1 hqr
        rw [hq] at ho'
        cases ho'
        have := hall e he hb
        rw [hon, getD_both hun] at this
        cases this
      · exact h
    · refine ⟨fun h0 => H.1 (List.eq_nil_iff_forall_not_mem.2 fun j hj => ?_), fun j hj => ?_⟩
      · have := sub lst j hj
        rw [h0] at this
        cases this
      · exact wpOp_same hsame hs hs' j (wpOp_mono (fun a w h => ih _ a w (by simp [hsz]) h) (H.2 j (same lst hsz hqr j hj)))

theorem wpQuiet_same {ops ops' : Array Oper} (hd : ∀ j : Nat, (ops'[j]?).map Oper.dst = (ops[j]?).map Oper.dst) {C : World → Prop} {Z : Act → Prop} : ∀ (l : List Oper) (a : Act), wpQuiet P ops C Z l a → wpQuiet P ops' C Z l a
  | [], a, h => h
  | o :: l, a, h => by
    unfold wpQuiet at h ⊢
    rw [yielded_same hd]
    by_cases hw : Region.wanted o (yielded ops a.tmps) = true
    · rw [if_pos hw] at h ⊢
      obtain ⟨v, h1, h2⟩ := h
      exact ⟨v, h1, wpQuiet_same hd l _ h2⟩
    · rw [if_neg hw] at h ⊢
      exact wpQuiet_same hd l _ h
theorem wpQuiet_weak {ops : Array Oper} {C : World → Prop} {Z Z' : Act → Prop} (hz : ∀ a, Z a → Z' a) : ∀ (l : List Oper) (a : Act), wpQuiet P ops C Z l a → wpQuiet P ops C Z' l a
  | [], a, h => hz a h
  | o :: l, a, h => by
    unfold wpQuiet at h ⊢
    by_cases hw : Region.wanted o (yielded ops a.tmps) = true
    · rw [if_pos hw] at h ⊢
      obtain ⟨v, h1, h2⟩ := h
      exact ⟨v, h1, wpQuiet_weak hz l _ h2⟩
    · rw [if_neg hw] at h ⊢
      exact wpQuiet_weak hz l _ h
theorem wpAny_quiet_tail {R : Exit → Act → World → Prop} {a : Act} {w : World} {l : List Oper} (n : Nat) (C : World → Prop) (hB : Region.lexTailB .any l.toArray n = true) (hC : C w)
    (h : wpQuiet P l.toArray C (fun a' => ∀ w', C w' → wpList P l.toArray R (l.drop n) a' w') (l.take n) a) : wpAny P .any l.toArray R l.toArray.size (Array.replicate l.toArray.size false) a w := by
  simp only [Region.lexTailB, Bool.and_eq_true, decide_eq_true_eq] at hB
  obtain ⟨⟨⟨⟨hsel, hn⟩, hs⟩, hc⟩, hlex⟩ := hB
  have hn' : n < l.length := by simpa using hn
  have ht : (l.take n).length = n := by simp; omega
  have hd : (l.drop n).length = l.toArray.size - n := by simp
  have inv : HeadInv .any l.toArray n (Array.replicate l.toArray.size false) :=
    ⟨by simp, fun j _ _ hl => (by rw [getD_replicate_false] at hl; cases hl), fun t _ h1 => getD_in (by simpa using h1) (getD_replicate_false _ _)⟩
  have H := headQ_lex (P := P) (C := C) (md := .any) (g := l.toArray.size - n) hsel hs hc hn (l.take n) 0 _ a (fun j hj => by
    have hj' : j < n := by rw [ht] at hj; exact hj
    simp [hj']) (by simpa using ht) inv (by rw [ht]; exact hlex) h
  have := any_of_headQ (R := R) (g := l.toArray.size - n) (fun lst a' w' hw' hL => by
    have := wpAny_of_seq (md := .any) (Q' := R) (l.drop n) n lst a' w' (fun j => by simp [List.getElem?_drop]) (by rw [hd]; exact hL.1) (hL.2 w' hw')
    rwa [hd] at this) _ _ a _ hC H
  rw [ht, show n + (l.toArray.size - n) = l.toArray.size by omega] at this
  exact this
/-- wp_quiet_tail where a move (operation q) may pass the first operation of the tail -/
theorem wp_quiet_tail_late {id : Nat} {R : Exit → Act → World → Prop} {a : Act} {w : World} {l : List Oper} (n q : Nat) (os : Oper) (C : World → Prop) (hm : P.follows .mixedOrders = true) (hos : l[n]? = some os)
    (hL : lateMB .any l.toArray q n = true) (hB : Region.lexTailB .any (waitFor l.toArray q n) n = true) (hQ : ∀ c a w d v, R (.panic c) (a.put d v) w → R (.panic c) a w) (hC : C w.drew)
    (h : wpQuiet P l.toArray C (fun a' => ∀ w', C w' → wpList P l.toArray R (l.drop n) a' w') (l.take n) a) : (Code.region id l.toArray true).wp P R a w := by
  have hlen : n < l.length := (List.getElem?_eq_some_iff.1 hos).1
  have e1 : waitFor l.toArray q n = (l.set n { os with after := os.after.push ⟨q, .data⟩ }).toArray := by
    unfold waitFor
    have : l.toArray[n]? = some os := by simpa using hos
    rw [this]
    simp
  have hd : ∀ j : Nat, ((l.set n { os with after := os.after.push ⟨q, .data⟩ }).toArray[j]?).map Oper.dst = (l.toArray[j]?).map Oper.dst := by
    intro j
    simp only [List.getElem?_toArray, List.getElem?_set]
    by_cases e : n = j
    · subst e; rw [if_pos rfl, if_pos hlen, hos]; rfl
    · rw [if_neg e]
  have e2 : (l.set n { os with after := os.after.push ⟨q, .data⟩ }).take n = l.take n := by
    apply List.ext_getElem?
    intro i
    rw [List.getElem?_take, List.getElem?_take]
    by_cases hi : i < n
    · rw [if_pos hi, if_pos hi, List.getElem?_set, if_neg (by omega)]
    · rw [if_neg hi, if_neg hi]
  have e3 : (l.set n { os with after := os.after.push ⟨q, .data⟩ }).drop n = { os with after := os.after.push ⟨q, .data⟩ } :: l.drop (n + 1) := by
    apply List.ext_getElem?
    intro i
    rw [List.getElem?_drop, List.getElem?_set]
    cases i with
    | zero => simp [hlen]
    | succ i => rw [if_neg (by omega), List.getElem?_cons_succ, List.getElem?_drop, show n + (i + 1) = n + 1 + i by omega]
  have e4 : l.drop n = os :: l.drop (n + 1) := by
    apply List.ext_getElem?
    intro i
    rw [List.getElem?_drop]
    cases i with
    | zero => simpa using hos
    | succ i => rw [List.getElem?_cons_succ, List.getElem?_drop, show n + (i + 1) = n + 1 + i by omega]
  refine wp_region_any hm ?_
  refine wpAny_lateM hL hQ _ _ _ _ (by simp) ?_
  rw [e1] at hB ⊢
  have hsz : l.toArray.size = (l.set n { os with after := os.after.push ⟨q, .data⟩ }).toArray.size := by simp
  rw [hsz]
  refine wpAny_quiet_tail n C hB hC ?_
  rw [e2]
  refine wpQuiet_weak (fun a' h w' hw' => ?_) _ _ (wpQuiet_same hd _ _ h)
  rw [e3]
  have := h w' hw'
  rw [e4] at this
  exact wpList_head (wpList_same hd _ _ _ this)
end
end Go.Proofs.YtjmmmggnbndolaaGreat
