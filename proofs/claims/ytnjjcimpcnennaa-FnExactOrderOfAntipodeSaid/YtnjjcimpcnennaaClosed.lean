/- Closed facts of the translated program that every row of this seat asks: each is proved once. The order of the program's start is one long text: its letters are laid as a list first (a literal's own list costs the kernel gigabytes). -/
import Derived.Test.YtnjjcimpcnennaaClosed0
import Derived.WalkKit
import Derived.ProofKit
namespace Go.Proofs.Ytnjjcimpcnennaa
theorem laidOutX : laidOutB Try.prog = true := by kernel_rfl
theorem mapsRowedX : mapsRowed Try.prog = true := by kernel_rfl
theorem plainKeysX : Try.prog.plainKeys = Rows.fnExactIsHopfRow.plainKeys := by kernel_rfl
theorem stopsHeardX : Try.prog.stopsHeard = true := by kernel_rfl
theorem own : ownKnob Try.prog.godebug = none := by kernel_rfl

/-- The closed facts of a row but those of the program alone. -/
theorem closed_of (f : FuncId) (fn : Func) (s : ChangeSpec) (c : OpenClaim) (hl : c.lifted = Rows.fnExactIsHopfRow.lifted) (hm : c.make = Rows.fnExactIsHopfRow.make) (hp : c.plainKeys = Rows.fnExactIsHopfRow.plainKeys)
    (h : (laidOutB Try.prog = true → mapsRowed Try.prog = true → (c.plainKeys == Try.prog.plainKeys) = true → Try.prog.stopsHeard = true → Try.prog.mayEnter = true → (c.lifted == Try.prog.liftsFinal) = true → (Try.prog.make == some c.make) = true → joinedFacts Try.prog f fn s c = true)) : joinedFacts Try.prog f fn s c = true :=
  h laidOutX mapsRowedX (by rw [plainKeysX, hp]; simp) stopsHeardX mayEnterX (by rw [liftsX, hl]; simp) (by rw [makeX, hm]; simp)
end Go.Proofs.Ytnjjcimpcnennaa
