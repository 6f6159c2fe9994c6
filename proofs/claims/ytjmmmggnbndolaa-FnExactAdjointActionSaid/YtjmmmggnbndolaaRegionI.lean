/- A statement whose order Go leaves open, in which three variables are made at any time before they are stored into: one walk serves every order. -/
import Derived.Test.YtjmmmggnbndolaaReg
namespace Go.Proofs.Ytjmmmggnbndolaa
open Go Go.RowKit
set_option linter.unusedSimpArgs false
set_option linter.unusedVariables false

section
variable {P : Program} {ops : Array Oper} {md : Region.Mode}
theorem quietOf_three : ∀ (l : List Oper) (k n : Nat), k ≤ n → quietOf (fun i => i == n || i == n + 1 || i == n + 2) l k = ((l.eraseIdx (n - k)).eraseIdx (n - k)).eraseIdx (n - k)
  | [], _, _, _ => rfl
  | o :: l, k, n, h => by
    unfold quietOf
    by_cases e : k = n
    · subst e
      rw [if_pos (by simp), Nat.sub_self, List.eraseIdx_cons_zero]
      cases l with
      | nil => rfl
      | cons o2 l =>
        unfold quietOf
        rw [if_pos (by simp), List.eraseIdx_cons_zero]
        cases l with
        | nil => rfl
        | cons o3 l =>
          unfold quietOf
          rw [if_pos (by simp), List.eraseIdx_cons_zero]
          exact quietOf_none l (k + 1 + 1 + 1) fun j hj => by simp; omega
    · rw [if_neg (by simp; omega), show n - k = (n - (k + 1)) + 1 by omega, List.eraseIdx_cons_succ, List.eraseIdx_cons_succ, List.eraseIdx_cons_succ, quietOf_three l (k + 1) n (by omega)]
/-- three variables, one behind the other -/
theorem wp_quiet_made3 {id : Nat} {R : Exit → Act → World → Prop} {a : Act} {w : World} {l : List Oper} (n M : Nat) (o1 o2 o3 : Oper) (c1 c2 c3 : Array Value) (t1 t2 t3 : TypeId) (hm : P.follows .mixedOrders = true) (h1 : l[n]? = some o1) (h2 : l[n + 1]? = some o2) (h3 : l[n + 2]? = some o3) (g1 : o1.guard = none) (g2 : o2.guard = none) (g3 : o3.guard = none) (hnM : n + 2 < M)
    (hB : madeB .any l.toArray (fun i => i == n || i == n + 1 || i == n + 2) M = true)
    (r1 : ∀ (a : Act) w, (execOp a.eval o1).run P w = .ok (.value (.pointer (some ⟨w.heap.size, 0, none⟩))) (w.alloc (.cells c1 t1)))
    (r2 : ∀ (a : Act) w, (execOp a.eval o2).run P w = .ok (.value (.pointer (some ⟨w.heap.size, 0, none⟩))) (w.alloc (.cells c2 t2)))
    (r3 : ∀ (a : Act) w, (execOp a.eval o3).run P w = .ok (.value (.pointer (some ⟨w.heap.size, 0, none⟩))) (w.alloc (.cells c3 t3)))
    (h : wpQE P l.toArray (Below w.heap.size w) (fun a' => ∀ b1 b2 b3 W, Below w.heap.size w W → MadeAt w c1 b1 W → MadeAt w c2 b2 W → MadeAt w c3 b3 W → b1 ≠ b2 → b1 ≠ b3 → b2 ≠ b3 →
      wpList P l.toArray R (l.drop M) (((a'.put o1.dst (.pointer (some ⟨b1, 0, none⟩))).put o2.dst (.pointer (some ⟨b2, 0, none⟩))).put o3.dst (.pointer (some ⟨b3, 0, none⟩))) W) ((((l.take M).eraseIdx n).eraseIdx n).eraseIdx n) a) : (Code.region id l.toArray true).wp P R a w := by
  have hM : M < l.length := by
    simp only [madeB, Bool.and_eq_true, decide_eq_true_eq] at hB
    simpa using hB.1.1.1.1.1.1.2
  have d1 : dstAt l.toArray n = o1.dst := by unfold dstAt; rw [List.getElem?_toArray, h1]; rfl
  have d2 : dstAt l.toArray (n + 1) = o2.dst := by unfold dstAt; rw [List.getElem?_toArray, h2]; rfl
  have d3 : dstAt l.toArray (n + 2) = o3.dst := by unfold dstAt; rw [List.getElem?_toArray, h3]; rfl
  have hdst : ∀ i j, i < M → j < M → i ≠ j → ∀ d, dstAt l.toArray i = some d → dstAt l.toArray j ≠ some d := fun i j hi hj hne d hd => by
    simp only [madeB, Bool.and_eq_true, decide_eq_true_eq] at hB
    have := List.all_eq_true.1 (List.all_eq_true.1 hB.1.1.2 i (List.mem_range.2 hi)) j (List.mem_range.2 hj)
    simp only [hd, Bool.or_eq_true, beq_iff_eq, bne_iff_ne] at this
    exact this.resolve_left hne
  refine wp_quiet_made (fun i => i == n || i == n + 1 || i == n + 2) M (fun k => if k = n then c1 else if k = n + 1 then c2 else c3) (fun k => if k = n then t1 else if k = n + 1 then t2 else t3) hm hB (fun i hi _ => by
    by_cases e : i = n
    · subst e
      exact ⟨o1, h1, g1, fun a w => by rw [if_pos rfl, if_pos rfl]; exact r1 a w⟩
    · by_cases e2 : i = n + 1
      · subst e2
        exact ⟨o2, h2, g2, fun a w => by rw [if_neg (by omega), if_pos rfl, if_neg (by omega), if_pos rfl]; exact r2 a w⟩
      · obtain rfl : i = n + 2 := by simp at hi; omega
        exact ⟨o3, h3, g3, fun a w => by rw [if_neg (by omega), if_neg (by omega), if_neg (by omega), if_neg (by omega)]; exact r3 a w⟩) ?_
  rw [quietOf_three _ _ _ (Nat.zero_le _), Nat.sub_zero]
  refine wpQE_mono (fun a' hz v bs W ha' hW => ?_) _ _ h
  have done : ∀ k, k < M → (Array.ofFn (n := l.toArray.size) fun i => decide (i.val < M)).getD k false = true := fun k hk => done_ofFn _ M k hk (by simp; omega)
  have key : ∀ k, k ≤ M → laidOn l.toArray (fun k => if (k == n || k == n + 1 || k == n + 2) = true then .pointer (some ⟨bs k, 0, none⟩) else v k) (Array.ofFn (n := l.toArray.size) fun i => decide (i.val < M)) a k =
      if k ≤ n then seqOn l.toArray v (fun i => i == n || i == n + 1 || i == n + 2) 0 a k else if k ≤ n + 1 then (seqOn l.toArray v (fun i => i == n || i == n + 1 || i == n + 2) 0 a k).put o1.dst (.pointer (some ⟨bs n, 0, none⟩))
      else if k ≤ n + 2 then ((seqOn l.toArray v (fun i => i == n || i == n + 1 || i == n + 2) 0 a k).put o1.dst (.pointer (some ⟨bs n, 0, none⟩))).put o2.dst (.pointer (some ⟨bs (n + 1), 0, none⟩))
      else (((seqOn l.toArray v (fun i => i == n || i == n + 1 || i == n + 2) 0 a k).put o1.dst (.pointer (some ⟨bs n, 0, none⟩))).put o2.dst (.pointer (some ⟨bs (n + 1), 0, none⟩))).put o3.dst (.pointer (some ⟨bs (n + 2), 0, none⟩)) := by
    intro k
    induction k with
    | zero => intro _; rw [if_pos (Nat.zero_le _)]; rfl
    | succ k ih =>
      intro hk
      unfold laidOn
      rw [done k (by omega), if_pos rfl, ih (by omega)]
      by_cases e : k = n
      · subst e
        have hs : seqOn l.toArray v (fun i => i == k || i == k + 1 || i == k + 2) 0 a (k + 1) = seqOn l.toArray v (fun i => i == k || i == k + 1 || i == k + 2) 0 a k := by
          show (if _ then _ else _ : Act) = _
          rw [if_pos (by simp)]
        rw [if_pos (Nat.le_refl _), if_pos (by simp), if_neg (by omega), if_pos (by omega), d1, hs]
      · by_cases e2 : k = n + 1
        · subst e2
          have hs : seqOn l.toArray v (fun i => i == n || i == n + 1 || i == n + 2) 0 a (n + 1 + 1) = seqOn l.toArray v (fun i => i == n || i == n + 1 || i == n + 2) 0 a (n + 1) := by
            show (if _ then _ else _ : Act) = _
            rw [if_pos (by simp)]
          rw [if_neg (by omega), if_pos (Nat.le_refl _), if_pos (by simp), if_neg (by omega), if_neg (by omega), if_pos (by omega), d2, hs]
        · by_cases e3 : k = n + 2
          · subst e3
            have hs : seqOn l.toArray v (fun i => i == n || i == n + 1 || i == n + 2) 0 a (n + 2 + 1) = seqOn l.toArray v (fun i => i == n || i == n + 1 || i == n + 2) 0 a (n + 2) := by
              show (if _ then _ else _ : Act) = _
              rw [if_pos (by simp)]
            rw [if_neg (by omega), if_neg (by omega), if_pos (by omega), if_pos (by simp), if_neg (by omega), if_neg (by omega), if_neg (by omega), d3, hs]
          · have hs : seqOn l.toArray v (fun i => i == n || i == n + 1 || i == n + 2) 0 a (k + 1) = (seqOn l.toArray v (fun i => i == n || i == n + 1 || i == n + 2) 0 a k).put (dstAt l.toArray k) (v k) := by
              show (if _ then _ else _ : Act) = _
              rw [if_neg (by simp [e, e2, e3]), Nat.zero_add]
            have ev : (if (k == n || k == n + 1 || k == n + 2) = true then Value.pointer (some ⟨bs k, 0, none⟩) else v k) = v k := if_neg (by simp [e, e2, e3])
            rw [ev, hs]
            by_cases hlt : k ≤ n
            · rw [if_pos hlt, if_pos (by omega)]
            · have c1 := fun d hd => hdst n k (by omega) (by omega) (Ne.symm e) d hd
              have c2 := fun d hd => hdst (n + 1) k (by omega) (by omega) (Ne.symm e2) d hd
              have c3 := fun d hd => hdst (n + 2) k (by omega) (by omega) (Ne.symm e3) d hd
              rw [d1] at c1
              rw [d2] at c2
              rw [d3] at c3
              rw [if_neg hlt, if_neg (by omega), if_neg (by omega), if_neg (by omega), if_neg (by omega), if_neg (by omega), Act.put_comm _ _ _ c3, Act.put_comm _ _ _ c2, Act.put_comm _ _ _ c1]
  rw [key M (Nat.le_refl _), if_neg (by omega), if_neg (by omega), if_neg (by omega), ← ha']
  have m1 := hW.2.1 n (by simp) (by omega) (done n (by omega))
  have m2 := hW.2.1 (n + 1) (by simp) (by omega) (done (n + 1) (by omega))
  have m3 := hW.2.1 (n + 2) (by simp) hnM (done (n + 2) hnM)
  have x1 : (fun k => if k = n then c1 else if k = n + 1 then c2 else c3) n = c1 := if_pos rfl
  have x2 : (fun k => if k = n then c1 else if k = n + 1 then c2 else c3) (n + 1) = c2 := by show (if _ then _ else _) = _; rw [if_neg (by omega), if_pos rfl]
  have x3 : (fun k => if k = n then c1 else if k = n + 1 then c2 else c3) (n + 2) = c3 := by show (if _ then _ else _) = _; rw [if_neg (by omega), if_neg (by omega)]
  rw [x1] at m1
  rw [x2] at m2
  rw [x3] at m3
  exact hz (bs n) (bs (n + 1)) (bs (n + 2)) W hW.1 m1 m2 m3 (hW.2.2 n (n + 1) (by simp) (by omega) (by simp) (by omega) (done n (by omega)) (done (n + 1) (by omega)) (by omega)) (hW.2.2 n (n + 2) (by simp) (by omega) (by simp) (by omega) (done n (by omega)) (done (n + 2) (by omega)) (by omega)) (hW.2.2 (n + 1) (n + 2) (by simp) (by omega) (by simp) (by omega) (done (n + 1) (by omega)) (done (n + 2) (by omega)) (by omega))
end
end Go.Proofs.Ytjmmmggnbndolaa
