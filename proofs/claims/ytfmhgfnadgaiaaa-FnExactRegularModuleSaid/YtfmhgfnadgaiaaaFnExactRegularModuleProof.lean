/- For all arguments impl.RegularModule and the reference model's RegularModule answer the same, in every field, and the answer is the caller's own: the law returns true, and nothing that existed before the call is changed. No condition. -/
import Derived.Test.YtfmhgfnadgaiaaaMR
import Derived.Test.YtfmhgfnadgaiaaaWit
import Derived.Test.YtfmhgfnadgaiaaaClo
import Derived.ProofKit
namespace Go.Proofs.Ytfmhgfnadgaiaaa.fnExactRegularModule
open Go.ChangeShapes Go.WideShapes Go.ChangeAt Go.RowKit

set_option maxRecDepth 100000 in
theorem lifted (os : Os) (started : os.Started) (H : Type) (enc : TypeId × Value → H) :
    ReturnsInHanded {} Try.checked os 9 .any (Rows.fnExactRegularModuleSpec.pre6 enc Try.prog Try.f9 Rows.fnExactRegularModuleRow.domain false) (Rows.fnExactRegularModuleSpec.post enc Try.prog Try.f9 false true false false) := by
  refine returnsInHanded_of_change (C := Try.checked) own started (by kernel_rfl) Try.func9
    (witness_ok (enc := enc) (C := Try.checked) false ⟨#[], #[.agg ([Value.int .i64 0, Value.int .i64 0] ++ List.replicate 1104 (Value.int .u8 0)).toArray], []⟩ 8 (by kernel_rfl) (by kernel_rfl) (input_ok (by kernel_rfl) Try.func9 (by kernel_rfl) (by kernel_rfl) (by kernel_rfl) (by kernel_rfl) (fun w base j t v ht hv => ?_)) (by kernel_rfl) (by kernel_rfl)) ?_
  · rw [Try.params9] at ht
    match j with
    | 0 =>
      obtain rfl : 51 = t := Option.some.inj ht
      obtain rfl : Value.agg ([Value.int .i64 0, Value.int .i64 0] ++ List.replicate 1104 (Value.int .u8 0)).toArray = v := Option.some.inj hv
      exact ok_hop w .any base
    | j + 1 => simp at ht
  intro W base args ds gs before hval0 hW hcnd _
  have hval : ∀ (j : Nat) t v, Try.f9.params[j]? = some t → args[j]? = some v → Value.okWide Try.prog W .any base t v := hval0
  have hW' := hW
  obtain ⟨p, q, hA0, hV, rfl, hfz, hnd⟩ := hW
  have hA : DataW.TrodAll enc Try.prog W 0 (fun _ => true) true Try.f9.params.toList args.toList ds p := hA0
  rw [Try.params9] at hA hval
  obtain ⟨v0, vs0, d0, ds0, p0, q0, hargs, rfl, rfl, h0, r0⟩ := trodAll_cons hA
  obtain ⟨rfl, rfl, rfl⟩ := trodAll_nil r0
  obtain rfl : args = #[v0] := by cases args; simp_all
  obtain ⟨rfl, rfl⟩ := trodVars_none hV
  obtain ⟨a0p, a0n, a0, rfl, w0p, w0n, w0⟩ := open_hop (hval 0 51 v0 rfl rfl)
  clear hA0 hval0
  refine (lawRegularModule a0p a0n a0 W w0p w0n w0).mono fun e W' ⟨he, hb⟩ => ?_
  subst he
  exact ⟨_, rfl, law_post laidOutX (by kernel_rfl) rfl rfl Try.underlying4 rfl hW' hb⟩

set_option maxHeartbeats 4000000 in
theorem closed : joinedFacts Try.prog 9 Try.f9 Rows.fnExactRegularModuleSpec Rows.fnExactRegularModuleRow = true := by
  refine closed_of _ _ _ _ rfl rfl rfl fun h1 h2 h3 h4 h5 h6 h7 => ?_
  simp only [joinedFacts, Bool.and_eq_true]
  repeat' (with_reducible refine And.intro ?_ ?_)
  all_goals first | (with_reducible assumption) | (as_aux_lemma => kernel_rfl)

theorem over : Rows.fnExactRegularModuleRow.holds Try.pinned (OpenSpec.ofChange Rows.fnExactRegularModuleSpec) :=
  OpenClaim.holds_of_wide 9 Try.f9 rfl rfl rfl rfl rfl rfl rfl ⟨rfl, rfl, rfl, rfl, rfl⟩ rfl rfl rfl rfl rfl (by as_aux_lemma => kernel_rfl) Try.func9 closed
    (of_decide_eq_true (by as_aux_lemma => kernel_rfl)) (by unfold Func.isWrapper; rw [if_neg (of_decide_eq_false (by as_aux_lemma => kernel_rfl))]; exact ⟨rfl, rfl⟩)
    (fun os started H enc _ => lifted os started H enc)

theorem proved : Rows.FnExactRegularModuleSaid := over
#print axioms proved
end Go.Proofs.Ytfmhgfnadgaiaaa.fnExactRegularModule
