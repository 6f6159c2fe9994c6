/- From a walk of a law to its row, for every law of this seat: the arguments read behind the call as before it because nothing below the old heap has changed. -/
import Derived.Test.YtnjjcimpcnennaaClosed
import Derived.Test.YtnjjcimpcnennaaArrT
import Derived.OpenShut
namespace Go.Proofs.Ytnjjcimpcnennaa
open Go.ChangeShapes Go.WideShapes Go.ChangeAt Go.RowKit

theorem trodAll_stays {H : Type} {enc : TypeId × Value → H} {P : Program} (hl : laidOutB P = true) {W W' : World} (hb : Below W.heap.size W W') :
    ∀ (ts : List TypeId), (∀ t ∈ ts, P.readableRec t = true ∧ t < P.types.size) → ∀ (vs : List Value) (ds : List (DataW H)) (ps : List MemPlace), (∀ x ∈ ps, x.block < W.heap.size) →
      DataW.TrodAll enc P W 0 (fun _ => true) true ts vs ds ps → DataW.TrodAll enc P W' 0 (fun b => decide (b < W.heap.size)) true ts vs ds ps
  | [], _, vs, ds, ps, _, h => by
    obtain ⟨rfl, rfl, rfl⟩ := trodAll_nil h
    exact trodAll_mk0
  | t :: ts, hr, vs, ds, ps, hlt, h => by
    obtain ⟨v, vs', d, ds', p, q, rfl, rfl, rfl, h0, h1⟩ := trodAll_cons h
    have ht := hr t (by simp)
    exact trodAll_cons_mk (Below.trod hl ht.1 ht.2 h0 hb (fun x hx => hlt x (by simp [hx]))) (trodAll_stays hl hb ts (fun u hu => hr u (by simp [hu])) vs' ds' q (fun x hx => hlt x (by simp [hx])) h1)

theorem law_post {H : Type} {enc : TypeId × Value → H} {P : Program} {f : Func} {s : ChangeSpec} {W W' : World} {args : Array Value} {ds gs : List (DataW H)} {before : List MemPlace} {tb : TypeId}
    (hl : laidOutB P = true) (hr : (f.params.toList.all fun t => P.readableRec t && decide (t < P.types.size)) = true) (hv : s.vars = []) (hres : f.resultTypes = #[tb]) (htb : P.underlying tb = some .bool)
    (hs : s.fn H (ds ++ gs) = { results := [.lit (.bool true)], args := ds }) (hW : DataW.Whole enc P f.params.toList s.vars false W args.toList ds gs before) (hb : Below W.heap.size W W') :
    s.post enc P f false true false false W args (.bool true) W' := by
  have hW' := hW
  obtain ⟨p, q, hA, hV, rfl, hfz, hnd⟩ := hW
  have hq : q = [] := by
    rw [hv] at hV
    cases gs with
    | nil => exact hV
    | cons g gs => exact hV.elim
  subst hq
  simp only [List.append_nil] at hW'
  refine ⟨ds, gs, p, [], p, [], hW', ?_, ?_, ?_, hb.frame _, fun h => by cases h⟩
  · rw [hs, hres]
    exact trodAll_mk1 (shut_bool htb true)
  · rw [hs]
    exact trodAll_stays hl hb _ (fun t ht => by simpa using (List.all_eq_true.1 hr) t ht) _ _ _ (fun x hx => by simpa using hW'.lt x (by simpa using hx)) hA
  · rw [hs, hv]
    rfl

/-! ### arguments that are arrays of bytes -/
/-- what the cells of a row hold -/
def cellInt (cs : Array Value) (i : Nat) : Int := match cs[i]? with | some (.int _ n) => n | _ => 0
theorem cell_u8 {P : Program} {w : World} {r : Reach} {base u : Nat} {v : Value} (hu : P.underlying u = some (.int .u8)) (h : Cell.okWide P w r base u v) : ∃ n : Int, v = .int .u8 n ∧ 0 ≤ n ∧ n ≤ 255 := by
  unfold Cell.okWide at h
  rw [hu] at h
  cases v <;> simp [Cell.ok, hu] at h
  obtain ⟨rfl, h1⟩ := h
  refine ⟨_, rfl, ?_, ?_⟩ <;> simp [IntKind.has, IntKind.min, IntKind.max, IntKind.signed, IntKind.bits] at h1 <;> omega
theorem open_bytes {P : Program} {w : World} {r : Reach} {base T u n m : Nat} {e : TypeId} {v : Value} (hT : P.underlying T = some (.array m e)) (hc : P.cellsOf T = n) (ht : P.cellTypes P.depth T = some (List.replicate n u)) (hu : P.underlying u = some (.int .u8)) (h : Value.okWide P w r base T v) :
    ∃ f : Nat → Int, v = .agg (row n f) ∧ ∀ i, i < n → 0 ≤ f i ∧ f i ≤ 255 := by
  simp only [Value.okWide, hT] at h
  obtain ⟨cs, rfl, hs, ts, hts, _, hall⟩ := h
  rw [ht] at hts
  simp only [Option.some.injEq] at hts
  subst hts
  rw [hc] at hs
  have key : ∀ i, i < n → ∃ k : Int, cs[i]? = some (.int .u8 k) ∧ 0 ≤ k ∧ k ≤ 255 := by
    intro i hi
    obtain ⟨v, hv⟩ : ∃ v, cs[i]? = some v := ⟨cs[i], by simp [hs, hi]⟩
    obtain ⟨u', h1, h2⟩ := hall i v hv
    have e : u' = u := by
      rw [List.getElem?_replicate] at h1
      split at h1
      · simpa using h1.symm
      · cases h1
    subst e
    obtain ⟨k, rfl, h3, h4⟩ := cell_u8 hu h2
    exact ⟨k, hv, h3, h4⟩
  refine ⟨cellInt cs, ?_, ?_⟩
  · congr 1
    apply Array.ext_getElem?
    intro i
    by_cases hi : i < n
    · obtain ⟨k, h1, _⟩ := key i hi
      rw [row_get? n _ i hi, h1]; simp [cellInt, h1]
    · rw [row_get_none n _ i (by omega)]; simp [hs]; omega
  · intro i hi
    obtain ⟨k, h1, h2, h3⟩ := key i hi
    simp [cellInt, h1, h2, h3]
end Go.Proofs.Ytnjjcimpcnennaa
