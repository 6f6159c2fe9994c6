/- A statement whose order Go leaves open, in which one operation is a call that hands back what is not fixed ahead (a slice that it made), while quiet operations may come before it or behind it. -/
import Derived.Test.YtfmhgfnadgaiaaaGreatReg
namespace Go.Proofs.YtfmhgfnadgaiaaaGreat
open Go Go.RowKit
set_option linter.unusedSimpArgs false
set_option linter.unusedVariables false

section
variable {P : Program} {ops : Array Oper} {md : Region.Mode}

/-- an operation that is a call: it hands back some v and leaves a world, of which Post tells -/
def noisyUpon (P : Program) (w : World) (Post : Value → World → Prop) : Result Next → Prop
  | .ok (.enter f args) w' => w' = w ∧ Calls P f args w fun e w2 => ∃ v, e = .returned v ∧ Below w.heap.size w w2 ∧ Post v w2
  | _ => False
@[go_sem] theorem noisyUpon_enter (P : Program) (w w' : World) (Post : Value → World → Prop) (f : FuncId) (args : Array Value) : noisyUpon P w Post (.ok (.enter f args) w') = (w' = w ∧ Calls P f args w fun e w2 => ∃ v, e = .returned v ∧ Below w.heap.size w w2 ∧ Post v w2) := rfl
def NoisyE (P : Program) (C : World → Prop) (Post : Value → World → Prop) (o : Oper) (a : Act) : Prop := ∀ w, C w → noisyUpon P w Post ((execOp a.eval o).run P w)
theorem NoisyE.of_slots {C : World → Prop} {Post : Value → World → Prop} {o : Oper} {a a' : Act} (hsel : ∀ cs b, o.op ≠ .select cs b) (h : ∀ t, t ∈ o.looksAt ops → a'.tmps[t]? = a.tmps[t]?) (hy : NoisyE P C Post o a) : NoisyE P C Post o a' := by
  have e1 : execOp a'.eval o = execOp a.eval o := execOp_congr o hsel fun x hx => by
    cases x with
    | tmp t =>
      have := h t (List.mem_append_left _ (List.mem_filterMap.2 ⟨.tmp t, by simpa using hx, rfl⟩))
      simp [Act.eval, this]
    | _ => rfl
  unfold NoisyE at *
  rw [e1]
  exact hy
end
end Go.Proofs.YtfmhgfnadgaiaaaGreat
