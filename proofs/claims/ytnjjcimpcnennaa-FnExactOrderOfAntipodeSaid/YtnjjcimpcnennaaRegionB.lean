/- An operation under no guard, in a quiet walk: taken without a look at the guard (q_skip's 'by rfl' took 120 s in one region). -/
import Derived.Test.YtnjjcimpcnennaaRegionA
namespace Go.Proofs.Ytnjjcimpcnennaa
open Go
section
variable {P : Program} {ops : Array Oper} {C : World → Prop} {Z : Act → Prop} {a : Act} {o : Oper} {rest : List Oper}
theorem q_plain (hg : o.guard = none) (h : ∃ v, (∀ w, C w → o.quietAt P a C w v) ∧ wpQuiet P ops C Z rest (a.put o.dst v)) : wpQuiet P ops C Z (o :: rest) a := by
  refine q_want ?_ h
  simp [Region.wanted, hg]
theorem e_plain (hg : o.guard = none) (h : ∃ v, QuietE P C o a v ∧ wpQE P ops C Z rest (a.put o.dst v)) : wpQE P ops C Z (o :: rest) a := by
  refine e_want ?_ h
  simp [Region.wanted, hg]
end
end Go.Proofs.Ytnjjcimpcnennaa
