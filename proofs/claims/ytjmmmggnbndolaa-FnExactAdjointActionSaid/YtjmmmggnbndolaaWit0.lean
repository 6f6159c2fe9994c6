/- The start that fits where an argument is a struct of many cells: they are shown to fit by hand (the check by evaluation outgrows the memory limit). -/
import Derived.Test.YtjmmmggnbndolaaBase
import Derived.Test.YtjmmmggnbndolaaClo
import Derived.ProofKit
namespace Go.Proofs.Ytjmmmggnbndolaa
open Go.ChangeShapes Go.WideShapes Go.ChangeAt Go.RowKit
set_option maxRecDepth 100000
theorem cell_zero {P : Program} {w : World} {r : Reach} {base u : Nat} {k : IntKind} (hu : P.underlying u = some (.int k)) : Cell.okWide P w r base u (.int k 0) := by
  unfold Cell.okWide
  rw [hu]
  simp only [Cell.ok, hu]
  exact ⟨trivial, by cases k <;> simp [IntKind.has, IntKind.min, IntKind.max, IntKind.signed, IntKind.bits]⟩
theorem ok_coa (w : World) (r : Reach) (base : Nat) : Value.okWide Try.prog w r base 35 (.agg ([Value.int .i64 0, Value.int .i64 0] ++ List.replicate 520 (Value.int .u8 0)).toArray) := by
  unfold Value.okWide
  rw [Try.underlying35]
  have hs : ([Value.int .i64 0, Value.int .i64 0] ++ List.replicate 520 (Value.int .u8 0)).toArray.size = 522 := by rw [List.size_toArray, List.length_append, List.length_replicate]; rfl
  have hl : ([2, 2] ++ List.replicate 520 5 : List TypeId).length = 522 := by rw [List.length_append, List.length_replicate]; rfl
  refine ⟨_, rfl, hs.trans (by kernel_rfl), [2, 2] ++ List.replicate 520 5, by kernel_rfl, ⟨1, by rw [hs, hl]⟩, fun i v hv => ?_⟩
  have hi : i < 522 := by rw [← hs]; exact (Array.getElem?_eq_some_iff.1 hv).1
  rw [hl, Nat.mod_eq_of_lt hi]
  rw [List.getElem?_toArray, List.getElem?_append] at hv
  rw [List.getElem?_append]
  simp only [List.length_cons, List.length_nil] at hv ⊢
  by_cases h2 : i < 2
  · rw [if_pos (by omega)] at hv ⊢
    have e : v = .int .i64 0 := by
      match i, h2 with
      | 0, _ => simpa using hv.symm
      | 1, _ => simpa using hv.symm
    subst e
    refine ⟨2, ?_, cell_zero Try.underlying2⟩
    match i, h2 with
    | 0, _ => rfl
    | 1, _ => rfl
  · rw [if_neg (by omega)] at hv ⊢
    rw [List.getElem?_replicate, if_pos (by omega)] at hv ⊢
    have e : v = .int .u8 0 := by simpa using hv.symm
    subst e
    exact ⟨5, rfl, cell_zero Try.underlying5⟩
theorem witness_ok {C : Checked} {os : Os} {f : FuncId} {fn : Func} {s : ChangeSpec} {conds : List PathCond} {apart : Bool} {H : Type} {enc : TypeId × Value → H} (modest : Bool) (i : Input) (fuel : Nat)
    (hv : (World.plainHolding C.prog os i).variablesB C.prog = true)
    (hr : ((World.plainHolding C.prog os i).heap.toList.drop C.prog.globals.size).take ((begin C.prog (fun _ _ => 0) default).world.heap.size - C.prog.globals.size) =
      (begin C.prog (fun _ _ => 0) default).world.heap.toList.drop C.prog.globals.size)
    (hok : ∀ w base, Input.okWide C.prog w .any base f ⟨#[], i.args, []⟩)
    (hpre : s.preB enc C.prog fn conds apart (World.plainHolding C.prog os i).memory i.args fuel = true)
    (hsz : s.sizedB enc C.prog fn apart (World.plainHolding C.prog os i).memory i.args fuel = true) :
    ∃ (w : World) (tape : Tape) (i : Input), w.os = os ∧ (w.forCall tape i).Shaped C.prog ∧ i.vars = [] ∧ Input.okWide C.prog (w.forCall tape i) .any w.heap.size f i ∧
      s.pre6 enc C.prog fn conds apart (w.forCall tape i).memory i.args ∧ ({ modest := modest } : Assume).holds C.prog (lone (Frame.enter C.prog f i.args .normal) [] (w.forCall tape i)) :=
  ⟨World.holding C.prog os i, fun _ _ => 0, ⟨#[], i.args, []⟩, rfl, World.shaped_of_B hv hr, rfl, hok _ _, ⟨ChangeSpec.pre_of_preB hpre, sizedMet_of_sizedB hsz⟩, by
    simp only [Assume.holds]
    exact ⟨by simp, by simp, fun _ => Modest.zero, by simp, by simp⟩⟩
theorem input_ok {P : Program} {f : FuncId} {fn : Func} {args : Array Value} (h1 : P.inits.idxOf? f = none) (h2 : P.funcs[f]? = some fn) (h3 : fn.body.isSome = true) (h4 : fn.ours = false) (h5 : fn.nfree = 0) (h6 : args.size = fn.params.size)
    (h : ∀ w base (j : Nat) t v, fn.params[j]? = some t → args[j]? = some v → Value.okWide P w .any base t v) : ∀ w base, Input.okWide P w .any base f ⟨#[], args, []⟩ := fun w base =>
  ⟨fun _ h => by simp at h, fun _ h => by simp at h, h1, fn, h2, h3, h4, h5, h6, h w base⟩
end Go.Proofs.Ytjmmmggnbndolaa
