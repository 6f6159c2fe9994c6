/- For all arguments impl.SubmoduleOf and the reference model's SubmoduleOf answer the same, in every field, and the answer is the caller's own: the law returns true, and nothing that existed before the call is changed. No condition. -/
import Derived.Test.YtjmmmggnbndolaaGreatN6
import Derived.Test.YtjmmmggnbndolaaGreatWitM
import Derived.Test.YtjmmmggnbndolaaGreatClo
import Derived.ProofKit
namespace Go.Proofs.YtjmmmggnbndolaaGreat.fnExactSubmoduleOf
open Go.ChangeShapes Go.WideShapes Go.ChangeAt Go.RowKit

set_option maxRecDepth 100000 in
theorem lifted (os : Os) (started : os.Started) (H : Type) (enc : TypeId × Value → H) :
    ReturnsInHanded {} Tryz.checked os 3 .any (Rows.fnExactSubmoduleOfSpec.pre6 enc Tryz.prog Tryz.f3 Rows.fnExactSubmoduleOfRow.domain false) (Rows.fnExactSubmoduleOfSpec.post enc Tryz.prog Tryz.f3 false true false false) := by
  refine returnsInHanded_of_change (C := Tryz.checked) own started (by kernel_rfl) Tryz.func3
    (witness_ok (enc := enc) (C := Tryz.checked) false ⟨#[], #[.agg ([Value.int .i64 0, Value.int .i64 0] ++ List.replicate 1104 (Value.int .u8 0)).toArray, .agg ([Value.int .i64 0] ++ List.replicate 512 (Value.int .u8 0)).toArray, .agg (row 8 zf)], []⟩ 8 (by kernel_rfl) (by kernel_rfl) (input_ok (by kernel_rfl) Tryz.func3 (by kernel_rfl) (by kernel_rfl) (by kernel_rfl) (by kernel_rfl) (fun w base j t v ht hv => ?_)) (by kernel_rfl) (by kernel_rfl)) ?_
  · rw [Tryz.params3] at ht
    match j with
    | 0 =>
      obtain rfl : 26 = t := Option.some.inj ht
      obtain rfl : Value.agg ([Value.int .i64 0, Value.int .i64 0] ++ List.replicate 1104 (Value.int .u8 0)).toArray = v := Option.some.inj hv
      exact ok_hop w .any base
    | 1 =>
      obtain rfl : 28 = t := Option.some.inj ht
      obtain rfl : Value.agg ([Value.int .i64 0] ++ List.replicate 512 (Value.int .u8 0)).toArray = v := Option.some.inj hv
      exact ok_mod w .any base
    | 2 =>
      obtain rfl : 22 = t := Option.some.inj ht
      obtain rfl : Value.agg (row 8 zf) = v := Option.some.inj hv
      exact Value.okWide_of_okWideB (by kernel_rfl)
    | j + 3 => simp at ht
  intro W base args ds gs before hval0 hW hcnd _
  have hval : ∀ (j : Nat) t v, Tryz.f3.params[j]? = some t → args[j]? = some v → Value.okWide Tryz.prog W .any base t v := hval0
  have hW' := hW
  obtain ⟨p, q, hA0, hV, rfl, hfz, hnd⟩ := hW
  have hA : DataW.TrodAll enc Tryz.prog W 0 (fun _ => true) true Tryz.f3.params.toList args.toList ds p := hA0
  rw [Tryz.params3] at hA hval
  obtain ⟨v0, vs0, d0, ds0, p0, q0, hargs, rfl, rfl, h0, r0⟩ := trodAll_cons hA
  obtain ⟨v1, vs1, d1, ds1, p1, q1, rfl, rfl, rfl, h1, r1⟩ := trodAll_cons r0
  obtain ⟨v2, vs2, d2, ds2, p2, q2, rfl, rfl, rfl, h2, r2⟩ := trodAll_cons r1
  obtain ⟨rfl, rfl, rfl⟩ := trodAll_nil r2
  obtain rfl : args = #[v0, v1, v2] := by cases args; simp_all
  obtain ⟨rfl, rfl⟩ := trodVars_none hV
  obtain ⟨a0p, a0n, a0, rfl, w0p, w0n, w0⟩ := open_hop (hval 0 26 v0 rfl rfl)
  obtain ⟨a1d, a1, rfl, w1d, w1⟩ := open_mod (hval 1 28 v1 rfl rfl)
  obtain ⟨a2, rfl, w2⟩ := open_bytes (n := 8) (u := 5) Tryz.underlying22 (by kernel_rfl) (by kernel_rfl) Tryz.underlying5 (hval 2 22 v2 rfl rfl)
  clear hA0 hval0
  refine (lawSubmoduleOf a0p a0n a0 a1d a1 a2 W w0p w0n w0 w1d w1 w2).mono fun e W' ⟨he, hb⟩ => ?_
  subst he
  exact ⟨_, rfl, law_post laidOutX (by kernel_rfl) rfl rfl Tryz.underlying4 rfl hW' hb⟩

set_option maxHeartbeats 4000000 in
theorem closed : joinedFacts Tryz.prog 3 Tryz.f3 Rows.fnExactSubmoduleOfSpec Rows.fnExactSubmoduleOfRow = true := by
  refine closed_of _ _ _ _ rfl rfl rfl fun h1 h2 h3 h4 h5 h6 h7 => ?_
  simp only [joinedFacts, Bool.and_eq_true]
  repeat' (with_reducible refine And.intro ?_ ?_)
  all_goals first | (with_reducible assumption) | (as_aux_lemma => kernel_rfl)

theorem over : Rows.fnExactSubmoduleOfRow.holds Tryz.pinned (OpenSpec.ofChange Rows.fnExactSubmoduleOfSpec) :=
  OpenClaim.holds_of_wide 3 Tryz.f3 rfl rfl rfl rfl rfl rfl rfl ⟨rfl, rfl, rfl, rfl, rfl⟩ rfl rfl rfl rfl rfl (by as_aux_lemma => kernel_rfl) Tryz.func3 closed
    (of_decide_eq_true (by as_aux_lemma => kernel_rfl)) (by unfold Func.isWrapper; rw [if_neg (of_decide_eq_false (by as_aux_lemma => kernel_rfl))]; exact ⟨rfl, rfl⟩)
    (fun os started H enc _ => lifted os started H enc)

theorem proved : Rows.FnExactSubmoduleOfSaid := over
#print axioms proved
end Go.Proofs.YtjmmmggnbndolaaGreat.fnExactSubmoduleOf
