/- The start that fits where an argument is a struct of many cells: they are shown to fit by hand (the check by evaluation outgrows the memory limit). -/
import Derived.Test.YtjmmmggnbndolaaGreatBase
import Derived.Test.YtjmmmggnbndolaaGreatClo
import Derived.ProofKit
namespace Go.Proofs.YtjmmmggnbndolaaGreat
open Go.ChangeShapes Go.WideShapes Go.ChangeAt Go.RowKit
set_option maxRecDepth 100000
theorem cell_zero {P : Program} {w : World} {r : Reach} {base u : Nat} {k : IntKind} (hu : P.underlying u = some (.int k)) : Cell.okWide P w r base u (.int k 0) := by
  unfold Cell.okWide
  rw [hu]
  simp only [Cell.ok, hu]
  exact ⟨trivial, by cases k <;> simp [IntKind.has, IntKind.min, IntKind.max, IntKind.signed, IntKind.bits]⟩
theorem witness_ok {C : Checked} {os : Os} {f : FuncId} {fn : Func} {s : ChangeSpec} {conds : List PathCond} {apart : Bool} {H : Type} {enc : TypeId × Value → H} (modest : Bool) (i : Input) (fuel : Nat)
    (hv : (World.plainHolding C.prog os i).variablesB C.prog = true)
    (hr : ((World.plainHolding C.prog os i).heap.toList.drop C.prog.globals.size).take ((begin C.prog (fun _ _ => 0) default).world.heap.size - C.prog.globals.size) =
      (begin C.prog (fun _ _ => 0) default).world.heap.toList.drop C.prog.globals.size)
    (hok : ∀ w base, Input.okWide C.prog w .any base f ⟨#[], i.args, []⟩)
    (hpre : s.preB enc C.prog fn conds apart (World.plainHolding C.prog os i).memory i.args fuel = true)
    (hsz : s.sizedB enc C.prog fn apart (World.plainHolding C.prog os i).memory i.args fuel = true) :
    ∃ (w : World) (tape : Tape) (i : Input), w.os = os ∧ (w.forCall tape i).Shaped C.prog ∧ i.vars = [] ∧ Input.okWide C.prog (w.forCall tape i) .any w.heap.size f i ∧
      s.pre6 enc C.prog fn conds apart (w.forCall tape i).memory i.args ∧ ({ modest := modest } : Assume).holds C.prog (lone (Frame.enter C.prog f i.args .normal) [] (w.forCall tape i)) :=
  ⟨World.holding C.prog os i, fun _ _ => 0, ⟨#[], i.args, []⟩, rfl, World.shaped_of_B hv hr, rfl, hok _ _, ⟨ChangeSpec.pre_of_preB hpre, sizedMet_of_sizedB hsz⟩, by
    simp only [Assume.holds]
    exact ⟨by simp, by simp, fun _ => Modest.zero, by simp, by simp⟩⟩
theorem input_ok {P : Program} {f : FuncId} {fn : Func} {args : Array Value} (h1 : P.inits.idxOf? f = none) (h2 : P.funcs[f]? = some fn) (h3 : fn.body.isSome = true) (h4 : fn.ours = false) (h5 : fn.nfree = 0) (h6 : args.size = fn.params.size)
    (h : ∀ w base (j : Nat) t v, fn.params[j]? = some t → args[j]? = some v → Value.okWide P w .any base t v) : ∀ w base, Input.okWide P w .any base f ⟨#[], args, []⟩ := fun w base =>
  ⟨fun _ h => by simp at h, fun _ h => by simp at h, h1, fn, h2, h3, h4, h5, h6, h w base⟩
end Go.Proofs.YtjmmmggnbndolaaGreat
