/-
  No cell of these rows narrows 'for every input' (looked for: loops, veiled, ifaces, maps, wideKeys, modest, calm, conditions, laid).
  DERIVED. THE GIVEN ROWS OF THIS SEAT. 11 by the template 'for every input the law returns true; each argument reads behind the call as it read before'; 0 by the template 'total and deterministic' (their statements: YtjpdpnplnelgcaaGreatTotals.lean).
  GIVEN WITH THE SEED: the statements are not yours to turn. If you find one false, say at which input.
  Laid BY PROGRAM, IN A SANDBOX (cutbox-rows.mjs): the forced cells as the released guide's own fill.sh prints them over the translation 5264922d010ed860… (all of the seat's roots in one cut). By AI agents, Wed Nov 11 2026. No macro, syntax, notation, axiom, sorry.
-/
import Derived.Test.YtjpdpnplnelgcaaGreatChecked
import GoSem.Claim
import GoSem.ClaimJoined
import GoSem.ClaimMapViews
import Derived.JoinedTies
import Derived.KernelRfl
namespace Go.Proofs.YtjpdpnplnelgcaaGreat
/- THE CELL 'sum', in the pinned program and in every row, IS THE sha256 OF THE DUMP (.gsa) THAT YtjpdpnplnelgcaaGreatProg.lean LOADS. Nothing in Lean hashes anything: it is a label: what it is worth is what the hold of that sum in a sandbox is worth. -/
noncomputable def Tryz.pinned : Pinned := { name := "ytjpdpnplnelgcaagreat", sum := "5264922d010ed8600408e53db2e34500cb33adb512d96774d3211df4441568f6", checked := Tryz.checked }
namespace Rows
def none {H : Type} : Left H := { results := [], args := [] }

/-- 'laws.FnExactLeftIntegral': WHATEVER THE INPUT: true; the input reads as it did. -/
def fnExactLeftIntegralSpec : ChangeSpec := { name := "fnExactLeftIntegral", fn := fun _ => fun
  | [d] => { results := [.lit (.bool true)], args := [d] }
  | _ => none }
def fnExactLeftIntegralRow : OpenClaim := { program := "ytjpdpnplnelgcaagreat", sum := "5264922d010ed8600408e53db2e34500cb33adb512d96774d3211df4441568f6", func := "loop.example/g01230/laws.FnExactLeftIntegral", spec := "fnExactLeftIntegral", unfollowed := true, recurses := true, apart := false }
def FnExactLeftIntegralSaid : Prop := fnExactLeftIntegralRow.holds Tryz.pinned (OpenSpec.ofChange fnExactLeftIntegralSpec)

/-- ITS FALSE NEIGHBOUR: 'it returns false'. Refute it at one input. -/
def fnExactLeftIntegralWrong : ChangeSpec := { name := "fnExactLeftIntegral", fn := fun _ => fun
  | [d] => { results := [.lit (.bool false)], args := [d] }
  | _ => none }
def FnExactLeftIntegralWrongFalsely : Prop := fnExactLeftIntegralRow.holds Tryz.pinned (OpenSpec.ofChange fnExactLeftIntegralWrong)

/-- 'laws.FnExactRightIntegral': WHATEVER THE INPUT: true; the input reads as it did. -/
def fnExactRightIntegralSpec : ChangeSpec := { name := "fnExactRightIntegral", fn := fun _ => fun
  | [d] => { results := [.lit (.bool true)], args := [d] }
  | _ => none }
def fnExactRightIntegralRow : OpenClaim := { program := "ytjpdpnplnelgcaagreat", sum := "5264922d010ed8600408e53db2e34500cb33adb512d96774d3211df4441568f6", func := "loop.example/g01230/laws.FnExactRightIntegral", spec := "fnExactRightIntegral", unfollowed := true, recurses := true, apart := false }
def FnExactRightIntegralSaid : Prop := fnExactRightIntegralRow.holds Tryz.pinned (OpenSpec.ofChange fnExactRightIntegralSpec)

/-- ITS FALSE NEIGHBOUR: 'it returns false'. Refute it at one input. -/
def fnExactRightIntegralWrong : ChangeSpec := { name := "fnExactRightIntegral", fn := fun _ => fun
  | [d] => { results := [.lit (.bool false)], args := [d] }
  | _ => none }
def FnExactRightIntegralWrongFalsely : Prop := fnExactRightIntegralRow.holds Tryz.pinned (OpenSpec.ofChange fnExactRightIntegralWrong)

/-- 'laws.FnExactIsUnimodular': WHATEVER THE INPUT: true; the input reads as it did. -/
def fnExactIsUnimodularSpec : ChangeSpec := { name := "fnExactIsUnimodular", fn := fun _ => fun
  | [d] => { results := [.lit (.bool true)], args := [d] }
  | _ => none }
def fnExactIsUnimodularRow : OpenClaim := { program := "ytjpdpnplnelgcaagreat", sum := "5264922d010ed8600408e53db2e34500cb33adb512d96774d3211df4441568f6", func := "loop.example/g01230/laws.FnExactIsUnimodular", spec := "fnExactIsUnimodular", unfollowed := true, recurses := true, apart := false }
def FnExactIsUnimodularSaid : Prop := fnExactIsUnimodularRow.holds Tryz.pinned (OpenSpec.ofChange fnExactIsUnimodularSpec)

/-- ITS FALSE NEIGHBOUR: 'it returns false'. Refute it at one input. -/
def fnExactIsUnimodularWrong : ChangeSpec := { name := "fnExactIsUnimodular", fn := fun _ => fun
  | [d] => { results := [.lit (.bool false)], args := [d] }
  | _ => none }
def FnExactIsUnimodularWrongFalsely : Prop := fnExactIsUnimodularRow.holds Tryz.pinned (OpenSpec.ofChange fnExactIsUnimodularWrong)

/-- 'laws.FnExactModularForm': WHATEVER THE INPUT: true; the input reads as it did. -/
def fnExactModularFormSpec : ChangeSpec := { name := "fnExactModularForm", fn := fun _ => fun
  | [d] => { results := [.lit (.bool true)], args := [d] }
  | _ => none }
def fnExactModularFormRow : OpenClaim := { program := "ytjpdpnplnelgcaagreat", sum := "5264922d010ed8600408e53db2e34500cb33adb512d96774d3211df4441568f6", func := "loop.example/g01230/laws.FnExactModularForm", spec := "fnExactModularForm", unfollowed := true, recurses := true, apart := false }
def FnExactModularFormSaid : Prop := fnExactModularFormRow.holds Tryz.pinned (OpenSpec.ofChange fnExactModularFormSpec)

/-- ITS FALSE NEIGHBOUR: 'it returns false'. Refute it at one input. -/
def fnExactModularFormWrong : ChangeSpec := { name := "fnExactModularForm", fn := fun _ => fun
  | [d] => { results := [.lit (.bool false)], args := [d] }
  | _ => none }
def FnExactModularFormWrongFalsely : Prop := fnExactModularFormRow.holds Tryz.pinned (OpenSpec.ofChange fnExactModularFormWrong)

/-- 'laws.FnExactModularElement': WHATEVER THE INPUT: true; the input reads as it did. -/
def fnExactModularElementSpec : ChangeSpec := { name := "fnExactModularElement", fn := fun _ => fun
  | [d] => { results := [.lit (.bool true)], args := [d] }
  | _ => none }
def fnExactModularElementRow : OpenClaim := { program := "ytjpdpnplnelgcaagreat", sum := "5264922d010ed8600408e53db2e34500cb33adb512d96774d3211df4441568f6", func := "loop.example/g01230/laws.FnExactModularElement", spec := "fnExactModularElement", unfollowed := true, recurses := true, apart := false }
def FnExactModularElementSaid : Prop := fnExactModularElementRow.holds Tryz.pinned (OpenSpec.ofChange fnExactModularElementSpec)

/-- ITS FALSE NEIGHBOUR: 'it returns false'. Refute it at one input. -/
def fnExactModularElementWrong : ChangeSpec := { name := "fnExactModularElement", fn := fun _ => fun
  | [d] => { results := [.lit (.bool false)], args := [d] }
  | _ => none }
def FnExactModularElementWrongFalsely : Prop := fnExactModularElementRow.holds Tryz.pinned (OpenSpec.ofChange fnExactModularElementWrong)

/-- 'laws.FnExactIsSemisimple': WHATEVER THE INPUT: true; the input reads as it did. -/
def fnExactIsSemisimpleSpec : ChangeSpec := { name := "fnExactIsSemisimple", fn := fun _ => fun
  | [d] => { results := [.lit (.bool true)], args := [d] }
  | _ => none }
def fnExactIsSemisimpleRow : OpenClaim := { program := "ytjpdpnplnelgcaagreat", sum := "5264922d010ed8600408e53db2e34500cb33adb512d96774d3211df4441568f6", func := "loop.example/g01230/laws.FnExactIsSemisimple", spec := "fnExactIsSemisimple", unfollowed := true, recurses := true, apart := false }
def FnExactIsSemisimpleSaid : Prop := fnExactIsSemisimpleRow.holds Tryz.pinned (OpenSpec.ofChange fnExactIsSemisimpleSpec)

/-- ITS FALSE NEIGHBOUR: 'it returns false'. Refute it at one input. -/
def fnExactIsSemisimpleWrong : ChangeSpec := { name := "fnExactIsSemisimple", fn := fun _ => fun
  | [d] => { results := [.lit (.bool false)], args := [d] }
  | _ => none }
def FnExactIsSemisimpleWrongFalsely : Prop := fnExactIsSemisimpleRow.holds Tryz.pinned (OpenSpec.ofChange fnExactIsSemisimpleWrong)

/-- 'laws.FnExactIsCosemisimple': WHATEVER THE INPUT: true; the input reads as it did. -/
def fnExactIsCosemisimpleSpec : ChangeSpec := { name := "fnExactIsCosemisimple", fn := fun _ => fun
  | [d] => { results := [.lit (.bool true)], args := [d] }
  | _ => none }
def fnExactIsCosemisimpleRow : OpenClaim := { program := "ytjpdpnplnelgcaagreat", sum := "5264922d010ed8600408e53db2e34500cb33adb512d96774d3211df4441568f6", func := "loop.example/g01230/laws.FnExactIsCosemisimple", spec := "fnExactIsCosemisimple", unfollowed := true, recurses := true, apart := false }
def FnExactIsCosemisimpleSaid : Prop := fnExactIsCosemisimpleRow.holds Tryz.pinned (OpenSpec.ofChange fnExactIsCosemisimpleSpec)

/-- ITS FALSE NEIGHBOUR: 'it returns false'. Refute it at one input. -/
def fnExactIsCosemisimpleWrong : ChangeSpec := { name := "fnExactIsCosemisimple", fn := fun _ => fun
  | [d] => { results := [.lit (.bool false)], args := [d] }
  | _ => none }
def FnExactIsCosemisimpleWrongFalsely : Prop := fnExactIsCosemisimpleRow.holds Tryz.pinned (OpenSpec.ofChange fnExactIsCosemisimpleWrong)

/-- 'laws.FnExactNormedIntegral': WHATEVER THE INPUT: true; the input reads as it did. -/
def fnExactNormedIntegralSpec : ChangeSpec := { name := "fnExactNormedIntegral", fn := fun _ => fun
  | [d] => { results := [.lit (.bool true)], args := [d] }
  | _ => none }
def fnExactNormedIntegralRow : OpenClaim := { program := "ytjpdpnplnelgcaagreat", sum := "5264922d010ed8600408e53db2e34500cb33adb512d96774d3211df4441568f6", func := "loop.example/g01230/laws.FnExactNormedIntegral", spec := "fnExactNormedIntegral", unfollowed := true, recurses := true, apart := false }
def FnExactNormedIntegralSaid : Prop := fnExactNormedIntegralRow.holds Tryz.pinned (OpenSpec.ofChange fnExactNormedIntegralSpec)

/-- ITS FALSE NEIGHBOUR: 'it returns false'. Refute it at one input. -/
def fnExactNormedIntegralWrong : ChangeSpec := { name := "fnExactNormedIntegral", fn := fun _ => fun
  | [d] => { results := [.lit (.bool false)], args := [d] }
  | _ => none }
def FnExactNormedIntegralWrongFalsely : Prop := fnExactNormedIntegralRow.holds Tryz.pinned (OpenSpec.ofChange fnExactNormedIntegralWrong)

/-- 'laws.FnExactCointegral': WHATEVER THE INPUT: true; the input reads as it did. -/
def fnExactCointegralSpec : ChangeSpec := { name := "fnExactCointegral", fn := fun _ => fun
  | [d] => { results := [.lit (.bool true)], args := [d] }
  | _ => none }
def fnExactCointegralRow : OpenClaim := { program := "ytjpdpnplnelgcaagreat", sum := "5264922d010ed8600408e53db2e34500cb33adb512d96774d3211df4441568f6", func := "loop.example/g01230/laws.FnExactCointegral", spec := "fnExactCointegral", unfollowed := true, recurses := true, apart := false }
def FnExactCointegralSaid : Prop := fnExactCointegralRow.holds Tryz.pinned (OpenSpec.ofChange fnExactCointegralSpec)

/-- ITS FALSE NEIGHBOUR: 'it returns false'. Refute it at one input. -/
def fnExactCointegralWrong : ChangeSpec := { name := "fnExactCointegral", fn := fun _ => fun
  | [d] => { results := [.lit (.bool false)], args := [d] }
  | _ => none }
def FnExactCointegralWrongFalsely : Prop := fnExactCointegralRow.holds Tryz.pinned (OpenSpec.ofChange fnExactCointegralWrong)

/-- 'laws.FnExactFormOf': WHATEVER THE INPUT: true; the input reads as it did. -/
def fnExactFormOfSpec : ChangeSpec := { name := "fnExactFormOf", fn := fun _ => fun
  | [d] => { results := [.lit (.bool true)], args := [d] }
  | _ => none }
def fnExactFormOfRow : OpenClaim := { program := "ytjpdpnplnelgcaagreat", sum := "5264922d010ed8600408e53db2e34500cb33adb512d96774d3211df4441568f6", func := "loop.example/g01230/laws.FnExactFormOf", spec := "fnExactFormOf", unfollowed := true, recurses := true, apart := false }
def FnExactFormOfSaid : Prop := fnExactFormOfRow.holds Tryz.pinned (OpenSpec.ofChange fnExactFormOfSpec)

/-- ITS FALSE NEIGHBOUR: 'it returns false'. Refute it at one input. -/
def fnExactFormOfWrong : ChangeSpec := { name := "fnExactFormOf", fn := fun _ => fun
  | [d] => { results := [.lit (.bool false)], args := [d] }
  | _ => none }
def FnExactFormOfWrongFalsely : Prop := fnExactFormOfRow.holds Tryz.pinned (OpenSpec.ofChange fnExactFormOfWrong)

/-- 'laws.FnExactRankOfForm': WHATEVER THE INPUT: true; the input reads as it did. -/
def fnExactRankOfFormSpec : ChangeSpec := { name := "fnExactRankOfForm", fn := fun _ => fun
  | [d] => { results := [.lit (.bool true)], args := [d] }
  | _ => none }
def fnExactRankOfFormRow : OpenClaim := { program := "ytjpdpnplnelgcaagreat", sum := "5264922d010ed8600408e53db2e34500cb33adb512d96774d3211df4441568f6", func := "loop.example/g01230/laws.FnExactRankOfForm", spec := "fnExactRankOfForm", unfollowed := true, recurses := true, apart := false }
def FnExactRankOfFormSaid : Prop := fnExactRankOfFormRow.holds Tryz.pinned (OpenSpec.ofChange fnExactRankOfFormSpec)

/-- ITS FALSE NEIGHBOUR: 'it returns false'. Refute it at one input. -/
def fnExactRankOfFormWrong : ChangeSpec := { name := "fnExactRankOfForm", fn := fun _ => fun
  | [d] => { results := [.lit (.bool false)], args := [d] }
  | _ => none }
def FnExactRankOfFormWrongFalsely : Prop := fnExactRankOfFormRow.holds Tryz.pinned (OpenSpec.ofChange fnExactRankOfFormWrong)

/- THE SECOND FORM. 'bulk': how many values and letters a reading holds, each counted each time it is reached (what is shared counts as often as it is met; a slice's spare places count too). A statement '..UptoSaid' is the law's where the arguments, and the package variables that the reading takes, are together of bulk at most 1048576: NARROWER than '..Said'. Prove '..Said' where nothing that the law and all that it calls make is longer than what came in: it says more and counts as full. Else prove '..UptoSaid'. A law counts once. -/
mutual
def uptoBulk {H : Type} : DataW H → Nat
  | .lit (.string bytes) => bytes.length + 1
  | .lit _ => 1
  | .nil => 1
  | .ptr d => uptoBulk d + 1
  | .slice elems spare => uptoBulkAll elems + uptoBulkAll spare + 1
  | .agg parts => uptoBulkAll parts + 1
  | .iface _ d => uptoBulk d + 1
  | .map entries => uptoBulkEntries entries + 1
  | .held _ => 1
def uptoBulkAll {H : Type} : List (DataW H) → Nat
  | [] => 0
  | d :: r => uptoBulk d + uptoBulkAll r
def uptoBulkEntries {H : Type} : List (Lit × DataW H) → Nat
  | [] => 0
  | x :: r => uptoBulkEntry x + uptoBulkEntries r
def uptoBulkEntry {H : Type} : Lit × DataW H → Nat
  | (.string bytes, d) => bytes.length + uptoBulk d + 1
  | (_, d) => uptoBulk d + 1
 end
def uptoSmall : (H : Type) → List (DataW H) → Bool := fun _ ds => decide (uptoBulkAll ds ≤ 1048576)
def OpenSpec.upto (s : _root_.Go.ChangeSpec) : _root_.Go.OpenSpec := { _root_.Go.OpenSpec.ofChange s with cond := some uptoSmall }

/-- 'laws.FnExactLeftIntegral', WHERE WHAT IT READS IS OF BULK AT MOST 1048576: true; the input reads as it did. -/
def fnExactLeftIntegralUptoRow : OpenClaim := { program := "ytjpdpnplnelgcaagreat", sum := "5264922d010ed8600408e53db2e34500cb33adb512d96774d3211df4441568f6", func := "loop.example/g01230/laws.FnExactLeftIntegral", spec := "fnExactLeftIntegral", unfollowed := true, recurses := true, apart := false, narrowed := true }
def FnExactLeftIntegralUptoSaid : Prop := fnExactLeftIntegralUptoRow.holds Tryz.pinned (OpenSpec.upto fnExactLeftIntegralSpec)

/-- 'laws.FnExactRightIntegral', WHERE WHAT IT READS IS OF BULK AT MOST 1048576: true; the input reads as it did. -/
def fnExactRightIntegralUptoRow : OpenClaim := { program := "ytjpdpnplnelgcaagreat", sum := "5264922d010ed8600408e53db2e34500cb33adb512d96774d3211df4441568f6", func := "loop.example/g01230/laws.FnExactRightIntegral", spec := "fnExactRightIntegral", unfollowed := true, recurses := true, apart := false, narrowed := true }
def FnExactRightIntegralUptoSaid : Prop := fnExactRightIntegralUptoRow.holds Tryz.pinned (OpenSpec.upto fnExactRightIntegralSpec)

/-- 'laws.FnExactIsUnimodular', WHERE WHAT IT READS IS OF BULK AT MOST 1048576: true; the input reads as it did. -/
def fnExactIsUnimodularUptoRow : OpenClaim := { program := "ytjpdpnplnelgcaagreat", sum := "5264922d010ed8600408e53db2e34500cb33adb512d96774d3211df4441568f6", func := "loop.example/g01230/laws.FnExactIsUnimodular", spec := "fnExactIsUnimodular", unfollowed := true, recurses := true, apart := false, narrowed := true }
def FnExactIsUnimodularUptoSaid : Prop := fnExactIsUnimodularUptoRow.holds Tryz.pinned (OpenSpec.upto fnExactIsUnimodularSpec)

/-- 'laws.FnExactModularForm', WHERE WHAT IT READS IS OF BULK AT MOST 1048576: true; the input reads as it did. -/
def fnExactModularFormUptoRow : OpenClaim := { program := "ytjpdpnplnelgcaagreat", sum := "5264922d010ed8600408e53db2e34500cb33adb512d96774d3211df4441568f6", func := "loop.example/g01230/laws.FnExactModularForm", spec := "fnExactModularForm", unfollowed := true, recurses := true, apart := false, narrowed := true }
def FnExactModularFormUptoSaid : Prop := fnExactModularFormUptoRow.holds Tryz.pinned (OpenSpec.upto fnExactModularFormSpec)

/-- 'laws.FnExactModularElement', WHERE WHAT IT READS IS OF BULK AT MOST 1048576: true; the input reads as it did. -/
def fnExactModularElementUptoRow : OpenClaim := { program := "ytjpdpnplnelgcaagreat", sum := "5264922d010ed8600408e53db2e34500cb33adb512d96774d3211df4441568f6", func := "loop.example/g01230/laws.FnExactModularElement", spec := "fnExactModularElement", unfollowed := true, recurses := true, apart := false, narrowed := true }
def FnExactModularElementUptoSaid : Prop := fnExactModularElementUptoRow.holds Tryz.pinned (OpenSpec.upto fnExactModularElementSpec)

/-- 'laws.FnExactIsSemisimple', WHERE WHAT IT READS IS OF BULK AT MOST 1048576: true; the input reads as it did. -/
def fnExactIsSemisimpleUptoRow : OpenClaim := { program := "ytjpdpnplnelgcaagreat", sum := "5264922d010ed8600408e53db2e34500cb33adb512d96774d3211df4441568f6", func := "loop.example/g01230/laws.FnExactIsSemisimple", spec := "fnExactIsSemisimple", unfollowed := true, recurses := true, apart := false, narrowed := true }
def FnExactIsSemisimpleUptoSaid : Prop := fnExactIsSemisimpleUptoRow.holds Tryz.pinned (OpenSpec.upto fnExactIsSemisimpleSpec)

/-- 'laws.FnExactIsCosemisimple', WHERE WHAT IT READS IS OF BULK AT MOST 1048576: true; the input reads as it did. -/
def fnExactIsCosemisimpleUptoRow : OpenClaim := { program := "ytjpdpnplnelgcaagreat", sum := "5264922d010ed8600408e53db2e34500cb33adb512d96774d3211df4441568f6", func := "loop.example/g01230/laws.FnExactIsCosemisimple", spec := "fnExactIsCosemisimple", unfollowed := true, recurses := true, apart := false, narrowed := true }
def FnExactIsCosemisimpleUptoSaid : Prop := fnExactIsCosemisimpleUptoRow.holds Tryz.pinned (OpenSpec.upto fnExactIsCosemisimpleSpec)

/-- 'laws.FnExactNormedIntegral', WHERE WHAT IT READS IS OF BULK AT MOST 1048576: true; the input reads as it did. -/
def fnExactNormedIntegralUptoRow : OpenClaim := { program := "ytjpdpnplnelgcaagreat", sum := "5264922d010ed8600408e53db2e34500cb33adb512d96774d3211df4441568f6", func := "loop.example/g01230/laws.FnExactNormedIntegral", spec := "fnExactNormedIntegral", unfollowed := true, recurses := true, apart := false, narrowed := true }
def FnExactNormedIntegralUptoSaid : Prop := fnExactNormedIntegralUptoRow.holds Tryz.pinned (OpenSpec.upto fnExactNormedIntegralSpec)

/-- 'laws.FnExactCointegral', WHERE WHAT IT READS IS OF BULK AT MOST 1048576: true; the input reads as it did. -/
def fnExactCointegralUptoRow : OpenClaim := { program := "ytjpdpnplnelgcaagreat", sum := "5264922d010ed8600408e53db2e34500cb33adb512d96774d3211df4441568f6", func := "loop.example/g01230/laws.FnExactCointegral", spec := "fnExactCointegral", unfollowed := true, recurses := true, apart := false, narrowed := true }
def FnExactCointegralUptoSaid : Prop := fnExactCointegralUptoRow.holds Tryz.pinned (OpenSpec.upto fnExactCointegralSpec)

/-- 'laws.FnExactFormOf', WHERE WHAT IT READS IS OF BULK AT MOST 1048576: true; the input reads as it did. -/
def fnExactFormOfUptoRow : OpenClaim := { program := "ytjpdpnplnelgcaagreat", sum := "5264922d010ed8600408e53db2e34500cb33adb512d96774d3211df4441568f6", func := "loop.example/g01230/laws.FnExactFormOf", spec := "fnExactFormOf", unfollowed := true, recurses := true, apart := false, narrowed := true }
def FnExactFormOfUptoSaid : Prop := fnExactFormOfUptoRow.holds Tryz.pinned (OpenSpec.upto fnExactFormOfSpec)

/-- 'laws.FnExactRankOfForm', WHERE WHAT IT READS IS OF BULK AT MOST 1048576: true; the input reads as it did. -/
def fnExactRankOfFormUptoRow : OpenClaim := { program := "ytjpdpnplnelgcaagreat", sum := "5264922d010ed8600408e53db2e34500cb33adb512d96774d3211df4441568f6", func := "loop.example/g01230/laws.FnExactRankOfForm", spec := "fnExactRankOfForm", unfollowed := true, recurses := true, apart := false, narrowed := true }
def FnExactRankOfFormUptoSaid : Prop := fnExactRankOfFormUptoRow.holds Tryz.pinned (OpenSpec.upto fnExactRankOfFormSpec)

end Rows
end Go.Proofs.YtjpdpnplnelgcaaGreat
