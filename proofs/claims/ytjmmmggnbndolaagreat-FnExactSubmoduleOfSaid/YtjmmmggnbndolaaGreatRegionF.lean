/- A region whose quiet head is followed by a call of any kind and the taking apart of its tuple, two extracts in either order: walked as if each waited for the one before. Over any program. -/
import Derived.Test.YtjmmmggnbndolaaGreatRegionE
namespace Go.Proofs.YtjmmmggnbndolaaGreat
open Go
section
variable {P : Program} {Q : Exit → Act → World → Prop}
/-- an operation without its edges -/
def bare (o : Oper) : Oper := { o with after := #[] }
theorem waitFor_get (ops : Array Oper) (q s j : Nat) : ((waitFor ops q s)[j]?).map bare = (ops[j]?).map bare := by
  unfold waitFor
  split
  · rename_i os h
    rw [Array.getElem?_setIfInBounds]
    by_cases e : s = j
    · subst e
      have hs : s < ops.size := (Array.getElem?_eq_some_iff.1 h).1
      rw [if_pos rfl, if_pos hs, h]
      rfl
    · rw [if_neg e]
  · rfl
theorem waitFor_low (ops : Array Oper) (q s j : Nat) (h : j ≠ s) : (waitFor ops q s)[j]? = ops[j]? := by
  unfold waitFor
  split
  · rw [Array.getElem?_setIfInBounds, if_neg (Ne.symm h)]
  · rfl
theorem waitFor_size (ops : Array Oper) (q s : Nat) : (waitFor ops q s).size = ops.size := by
  unfold waitFor
  split
  · simp
  · rfl
theorem bare_dst {ops ops' : Array Oper} (h : ∀ j : Nat, (ops'[j]?).map bare = (ops[j]?).map bare) (j : Nat) : (ops'[j]?).map Oper.dst = (ops[j]?).map Oper.dst := by
  have := congrArg (Option.map Oper.dst) (h j)
  rw [Option.map_map, Option.map_map] at this
  exact this
theorem wpList_bare {ops : Array Oper} : ∀ (l l' : List Oper) (a : Act) (w : World), l.map bare = l'.map bare → wpList P ops Q l a w → wpList P ops Q l' a w
  | [], [], _, _, _, h => h
  | [], _ :: _, _, _, e, _ => by simp at e
  | _ :: _, [], _, _, e, _ => by simp at e
  | o :: l, o' :: l', a, w, e, h => by
    simp only [List.map_cons, List.cons.injEq] at e
    have e1 : o' = { o with after := o'.after } := by
      have := e.1
      unfold bare at this
      cases o; cases o'
      simp only [Oper.mk.injEq] at this ⊢
      simp only [this.1, this.2.1, this.2.2.1, this.2.2.2.1, this.2.2.2.2, and_self]
    rw [e1]
    refine wpList_head ?_
    unfold wpList at h ⊢
    by_cases hw : Region.wanted o (yielded ops a.tmps) = true
    · rw [if_pos hw] at h ⊢
      exact h.imp (Oper.wp_mono fun a w h => wpList_bare l l' a w e.2 h) id
    · rw [if_neg hw] at h ⊢
      exact wpList_bare l l' _ w e.2 h
/-- wp_quiet_tail where the two extracts s and s + 1 may change places, and the second one may pass the assignment s + 2 -/
theorem wp_quiet_tail_two {id : Nat} {R : Exit → Act → World → Prop} {a : Act} {w : World} {l : List Oper} (n s : Nat) (C : World → Prop) (hm : P.follows .mixedOrders = true) (hns : n ≤ s)
    (hL1 : lateB .any l.toArray s (s + 1) = true) (hL2 : lateB .any (waitFor l.toArray s (s + 1)) (s + 1) (s + 2) = true) (hB : Region.lexTailB .any (waitFor (waitFor l.toArray s (s + 1)) (s + 1) (s + 2)) n = true)
    (hQ : ∀ c a w d v, R (.panic c) (a.put d v) w → R (.panic c) a w) (hC : C w.drew)
    (h : wpQuiet P l.toArray C (fun a' => ∀ w', C w' → wpList P l.toArray R (l.drop n) a' w') (l.take n) a) : (Code.region id l.toArray true).wp P R a w := by
  obtain ⟨l', hl'⟩ : ∃ l' : List Oper, l'.toArray = waitFor (waitFor l.toArray s (s + 1)) (s + 1) (s + 2) := ⟨_, Array.toArray_toList⟩
  have hb : ∀ j : Nat, (l'.toArray[j]?).map bare = (l.toArray[j]?).map bare := fun j => by rw [hl', waitFor_get, waitFor_get]
  have hd := bare_dst hb
  have hsz : l.toArray.size = l'.toArray.size := by rw [hl', waitFor_size, waitFor_size]
  have e2 : l'.take n = l.take n := by
    apply List.ext_getElem?
    intro i
    rw [List.getElem?_take, List.getElem?_take]
    by_cases hi : i < n
    · rw [if_pos hi, if_pos hi]
      have : l'.toArray[i]? = l.toArray[i]? := by rw [hl', waitFor_low _ _ _ _ (by omega), waitFor_low _ _ _ _ (by omega)]
      simpa using this
    · rw [if_neg hi, if_neg hi]
  have e3 : (l.drop n).map bare = (l'.drop n).map bare := by
    apply List.ext_getElem?
    intro i
    rw [List.getElem?_map, List.getElem?_map, List.getElem?_drop, List.getElem?_drop]
    have := hb (n + i)
    simp only [List.getElem?_toArray] at this
    exact this.symm
  refine wp_region_any hm ?_
  refine wpAny_late hL1 hQ _ _ _ _ (by simp) ?_
  refine wpAny_late hL2 hQ _ _ _ _ (by rw [waitFor_size]; simp) ?_
  rw [← hl'] at hB ⊢
  rw [hsz]
  refine wpAny_quiet_tail n C hB hC ?_
  rw [e2]
  refine wpQuiet_weak (fun a' h w' hw' => ?_) _ _ (wpQuiet_same hd _ _ h)
  exact wpList_bare _ _ _ _ e3 (wpList_same hd _ _ _ (h w' hw'))
end
end Go.Proofs.YtjmmmggnbndolaaGreat
