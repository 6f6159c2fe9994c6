/-
  No cell of these rows narrows 'for every input' (looked for: loops, veiled, ifaces, maps, wideKeys, modest, calm, conditions, laid).
  DERIVED. THE GIVEN ROWS OF THIS SEAT. 11 by the template 'for every input the law returns true; each argument reads behind the call as it read before'; 0 by the template 'total and deterministic' (their statements: YtfmhgfnadgaiaaaGreatTotals.lean).
  GIVEN WITH THE SEED: the statements are not yours to turn. If you find one false, say at which input.
  Laid BY PROGRAM, IN A SANDBOX (cutbox-rows.mjs): the forced cells as the released guide's own fill.sh prints them over the translation 635f5be314668d60… (all of the seat's roots in one cut). By AI agents, Wed Nov 11 2026. No macro, syntax, notation, axiom, sorry.
-/
import Derived.Test.YtfmhgfnadgaiaaaGreatChecked
import GoSem.Claim
import GoSem.ClaimJoined
import GoSem.ClaimMapViews
import Derived.JoinedTies
import Derived.KernelRfl
namespace Go.Proofs.YtfmhgfnadgaiaaaGreat
/- THE CELL 'sum', in the pinned program and in every row, IS THE sha256 OF THE DUMP (.gsa) THAT YtfmhgfnadgaiaaaGreatProg.lean LOADS. Nothing in Lean hashes anything: it is a label: what it is worth is what the hold of that sum in a sandbox is worth. -/
noncomputable def Tryz.pinned : Pinned := { name := "ytfmhgfnadgaiaaagreat", sum := "635f5be314668d608c5b4cac0187152e029f2822cf80a0040e98c3139bb2d095", checked := Tryz.checked }
namespace Rows
def none {H : Type} : Left H := { results := [], args := [] }

/-- 'laws.FnExactRankOfForm': WHATEVER THE INPUT: true; the input reads as it did. -/
def fnExactRankOfFormSpec : ChangeSpec := { name := "fnExactRankOfForm", fn := fun _ => fun
  | [d] => { results := [.lit (.bool true)], args := [d] }
  | _ => none }
def fnExactRankOfFormRow : OpenClaim := { program := "ytfmhgfnadgaiaaagreat", sum := "635f5be314668d608c5b4cac0187152e029f2822cf80a0040e98c3139bb2d095", func := "loop.example/g01230/laws.FnExactRankOfForm", spec := "fnExactRankOfForm", unfollowed := true, recurses := true, apart := false }
def FnExactRankOfFormSaid : Prop := fnExactRankOfFormRow.holds Tryz.pinned (OpenSpec.ofChange fnExactRankOfFormSpec)

/-- ITS FALSE NEIGHBOUR: 'it returns false'. Refute it at one input. -/
def fnExactRankOfFormWrong : ChangeSpec := { name := "fnExactRankOfForm", fn := fun _ => fun
  | [d] => { results := [.lit (.bool false)], args := [d] }
  | _ => none }
def FnExactRankOfFormWrongFalsely : Prop := fnExactRankOfFormRow.holds Tryz.pinned (OpenSpec.ofChange fnExactRankOfFormWrong)

/-- 'laws.FnExactSumModule': WHATEVER THE INPUT: true; the input reads as it did. -/
def fnExactSumModuleSpec : ChangeSpec := { name := "fnExactSumModule", fn := fun _ => fun
  | [d1, d2, d3] => { results := [.lit (.bool true)], args := [d1, d2, d3] }
  | _ => none }
def fnExactSumModuleRow : OpenClaim := { program := "ytfmhgfnadgaiaaagreat", sum := "635f5be314668d608c5b4cac0187152e029f2822cf80a0040e98c3139bb2d095", func := "loop.example/g01230/laws.FnExactSumModule", spec := "fnExactSumModule", unfollowed := true, recurses := true, apart := false }
def FnExactSumModuleSaid : Prop := fnExactSumModuleRow.holds Tryz.pinned (OpenSpec.ofChange fnExactSumModuleSpec)

/-- ITS FALSE NEIGHBOUR: 'it returns false'. Refute it at one input. -/
def fnExactSumModuleWrong : ChangeSpec := { name := "fnExactSumModule", fn := fun _ => fun
  | [d1, d2, d3] => { results := [.lit (.bool false)], args := [d1, d2, d3] }
  | _ => none }
def FnExactSumModuleWrongFalsely : Prop := fnExactSumModuleRow.holds Tryz.pinned (OpenSpec.ofChange fnExactSumModuleWrong)

/-- 'laws.FnExactTensorModule': WHATEVER THE INPUT: true; the input reads as it did. -/
def fnExactTensorModuleSpec : ChangeSpec := { name := "fnExactTensorModule", fn := fun _ => fun
  | [d1, d2, d3] => { results := [.lit (.bool true)], args := [d1, d2, d3] }
  | _ => none }
def fnExactTensorModuleRow : OpenClaim := { program := "ytfmhgfnadgaiaaagreat", sum := "635f5be314668d608c5b4cac0187152e029f2822cf80a0040e98c3139bb2d095", func := "loop.example/g01230/laws.FnExactTensorModule", spec := "fnExactTensorModule", unfollowed := true, recurses := true, apart := false }
def FnExactTensorModuleSaid : Prop := fnExactTensorModuleRow.holds Tryz.pinned (OpenSpec.ofChange fnExactTensorModuleSpec)

/-- ITS FALSE NEIGHBOUR: 'it returns false'. Refute it at one input. -/
def fnExactTensorModuleWrong : ChangeSpec := { name := "fnExactTensorModule", fn := fun _ => fun
  | [d1, d2, d3] => { results := [.lit (.bool false)], args := [d1, d2, d3] }
  | _ => none }
def FnExactTensorModuleWrongFalsely : Prop := fnExactTensorModuleRow.holds Tryz.pinned (OpenSpec.ofChange fnExactTensorModuleWrong)

/-- 'laws.FnExactDualModule': WHATEVER THE INPUT: true; the input reads as it did. -/
def fnExactDualModuleSpec : ChangeSpec := { name := "fnExactDualModule", fn := fun _ => fun
  | [d1, d2] => { results := [.lit (.bool true)], args := [d1, d2] }
  | _ => none }
def fnExactDualModuleRow : OpenClaim := { program := "ytfmhgfnadgaiaaagreat", sum := "635f5be314668d608c5b4cac0187152e029f2822cf80a0040e98c3139bb2d095", func := "loop.example/g01230/laws.FnExactDualModule", spec := "fnExactDualModule", unfollowed := true, recurses := true, apart := false }
def FnExactDualModuleSaid : Prop := fnExactDualModuleRow.holds Tryz.pinned (OpenSpec.ofChange fnExactDualModuleSpec)

/-- ITS FALSE NEIGHBOUR: 'it returns false'. Refute it at one input. -/
def fnExactDualModuleWrong : ChangeSpec := { name := "fnExactDualModule", fn := fun _ => fun
  | [d1, d2] => { results := [.lit (.bool false)], args := [d1, d2] }
  | _ => none }
def FnExactDualModuleWrongFalsely : Prop := fnExactDualModuleRow.holds Tryz.pinned (OpenSpec.ofChange fnExactDualModuleWrong)

/-- 'laws.FnExactInvariantsOf': WHATEVER THE INPUT: true; the input reads as it did. -/
def fnExactInvariantsOfSpec : ChangeSpec := { name := "fnExactInvariantsOf", fn := fun _ => fun
  | [d1, d2] => { results := [.lit (.bool true)], args := [d1, d2] }
  | _ => none }
def fnExactInvariantsOfRow : OpenClaim := { program := "ytfmhgfnadgaiaaagreat", sum := "635f5be314668d608c5b4cac0187152e029f2822cf80a0040e98c3139bb2d095", func := "loop.example/g01230/laws.FnExactInvariantsOf", spec := "fnExactInvariantsOf", unfollowed := true, recurses := true, apart := false }
def FnExactInvariantsOfSaid : Prop := fnExactInvariantsOfRow.holds Tryz.pinned (OpenSpec.ofChange fnExactInvariantsOfSpec)

/-- ITS FALSE NEIGHBOUR: 'it returns false'. Refute it at one input. -/
def fnExactInvariantsOfWrong : ChangeSpec := { name := "fnExactInvariantsOf", fn := fun _ => fun
  | [d1, d2] => { results := [.lit (.bool false)], args := [d1, d2] }
  | _ => none }
def FnExactInvariantsOfWrongFalsely : Prop := fnExactInvariantsOfRow.holds Tryz.pinned (OpenSpec.ofChange fnExactInvariantsOfWrong)

/-- 'laws.FnExactCharacterOf': WHATEVER THE INPUT: true; the input reads as it did. -/
def fnExactCharacterOfSpec : ChangeSpec := { name := "fnExactCharacterOf", fn := fun _ => fun
  | [d1, d2] => { results := [.lit (.bool true)], args := [d1, d2] }
  | _ => none }
def fnExactCharacterOfRow : OpenClaim := { program := "ytfmhgfnadgaiaaagreat", sum := "635f5be314668d608c5b4cac0187152e029f2822cf80a0040e98c3139bb2d095", func := "loop.example/g01230/laws.FnExactCharacterOf", spec := "fnExactCharacterOf", unfollowed := true, recurses := true, apart := false }
def FnExactCharacterOfSaid : Prop := fnExactCharacterOfRow.holds Tryz.pinned (OpenSpec.ofChange fnExactCharacterOfSpec)

/-- ITS FALSE NEIGHBOUR: 'it returns false'. Refute it at one input. -/
def fnExactCharacterOfWrong : ChangeSpec := { name := "fnExactCharacterOf", fn := fun _ => fun
  | [d1, d2] => { results := [.lit (.bool false)], args := [d1, d2] }
  | _ => none }
def FnExactCharacterOfWrongFalsely : Prop := fnExactCharacterOfRow.holds Tryz.pinned (OpenSpec.ofChange fnExactCharacterOfWrong)

/-- 'laws.FnExactSubmoduleOf': WHATEVER THE INPUT: true; the input reads as it did. -/
def fnExactSubmoduleOfSpec : ChangeSpec := { name := "fnExactSubmoduleOf", fn := fun _ => fun
  | [d1, d2, d3] => { results := [.lit (.bool true)], args := [d1, d2, d3] }
  | _ => none }
def fnExactSubmoduleOfRow : OpenClaim := { program := "ytfmhgfnadgaiaaagreat", sum := "635f5be314668d608c5b4cac0187152e029f2822cf80a0040e98c3139bb2d095", func := "loop.example/g01230/laws.FnExactSubmoduleOf", spec := "fnExactSubmoduleOf", unfollowed := true, recurses := true, apart := false }
def FnExactSubmoduleOfSaid : Prop := fnExactSubmoduleOfRow.holds Tryz.pinned (OpenSpec.ofChange fnExactSubmoduleOfSpec)

/-- ITS FALSE NEIGHBOUR: 'it returns false'. Refute it at one input. -/
def fnExactSubmoduleOfWrong : ChangeSpec := { name := "fnExactSubmoduleOf", fn := fun _ => fun
  | [d1, d2, d3] => { results := [.lit (.bool false)], args := [d1, d2, d3] }
  | _ => none }
def FnExactSubmoduleOfWrongFalsely : Prop := fnExactSubmoduleOfRow.holds Tryz.pinned (OpenSpec.ofChange fnExactSubmoduleOfWrong)

/-- 'laws.FnExactIsSubmodule': WHATEVER THE INPUT: true; the input reads as it did. -/
def fnExactIsSubmoduleSpec : ChangeSpec := { name := "fnExactIsSubmodule", fn := fun _ => fun
  | [d1, d2, d3] => { results := [.lit (.bool true)], args := [d1, d2, d3] }
  | _ => none }
def fnExactIsSubmoduleRow : OpenClaim := { program := "ytfmhgfnadgaiaaagreat", sum := "635f5be314668d608c5b4cac0187152e029f2822cf80a0040e98c3139bb2d095", func := "loop.example/g01230/laws.FnExactIsSubmodule", spec := "fnExactIsSubmodule", unfollowed := true, recurses := true, apart := false }
def FnExactIsSubmoduleSaid : Prop := fnExactIsSubmoduleRow.holds Tryz.pinned (OpenSpec.ofChange fnExactIsSubmoduleSpec)

/-- ITS FALSE NEIGHBOUR: 'it returns false'. Refute it at one input. -/
def fnExactIsSubmoduleWrong : ChangeSpec := { name := "fnExactIsSubmodule", fn := fun _ => fun
  | [d1, d2, d3] => { results := [.lit (.bool false)], args := [d1, d2, d3] }
  | _ => none }
def FnExactIsSubmoduleWrongFalsely : Prop := fnExactIsSubmoduleRow.holds Tryz.pinned (OpenSpec.ofChange fnExactIsSubmoduleWrong)

/-- 'laws.FnExactQuotientModule': WHATEVER THE INPUT: true; the input reads as it did. -/
def fnExactQuotientModuleSpec : ChangeSpec := { name := "fnExactQuotientModule", fn := fun _ => fun
  | [d1, d2, d3] => { results := [.lit (.bool true)], args := [d1, d2, d3] }
  | _ => none }
def fnExactQuotientModuleRow : OpenClaim := { program := "ytfmhgfnadgaiaaagreat", sum := "635f5be314668d608c5b4cac0187152e029f2822cf80a0040e98c3139bb2d095", func := "loop.example/g01230/laws.FnExactQuotientModule", spec := "fnExactQuotientModule", unfollowed := true, recurses := true, apart := false }
def FnExactQuotientModuleSaid : Prop := fnExactQuotientModuleRow.holds Tryz.pinned (OpenSpec.ofChange fnExactQuotientModuleSpec)

/-- ITS FALSE NEIGHBOUR: 'it returns false'. Refute it at one input. -/
def fnExactQuotientModuleWrong : ChangeSpec := { name := "fnExactQuotientModule", fn := fun _ => fun
  | [d1, d2, d3] => { results := [.lit (.bool false)], args := [d1, d2, d3] }
  | _ => none }
def FnExactQuotientModuleWrongFalsely : Prop := fnExactQuotientModuleRow.holds Tryz.pinned (OpenSpec.ofChange fnExactQuotientModuleWrong)

/-- 'laws.FnExactIsModuleMap': WHATEVER THE INPUT: true; the input reads as it did. -/
def fnExactIsModuleMapSpec : ChangeSpec := { name := "fnExactIsModuleMap", fn := fun _ => fun
  | [d1, d2, d3, d4] => { results := [.lit (.bool true)], args := [d1, d2, d3, d4] }
  | _ => none }
def fnExactIsModuleMapRow : OpenClaim := { program := "ytfmhgfnadgaiaaagreat", sum := "635f5be314668d608c5b4cac0187152e029f2822cf80a0040e98c3139bb2d095", func := "loop.example/g01230/laws.FnExactIsModuleMap", spec := "fnExactIsModuleMap", unfollowed := true, recurses := true, apart := false }
def FnExactIsModuleMapSaid : Prop := fnExactIsModuleMapRow.holds Tryz.pinned (OpenSpec.ofChange fnExactIsModuleMapSpec)

/-- ITS FALSE NEIGHBOUR: 'it returns false'. Refute it at one input. -/
def fnExactIsModuleMapWrong : ChangeSpec := { name := "fnExactIsModuleMap", fn := fun _ => fun
  | [d1, d2, d3, d4] => { results := [.lit (.bool false)], args := [d1, d2, d3, d4] }
  | _ => none }
def FnExactIsModuleMapWrongFalsely : Prop := fnExactIsModuleMapRow.holds Tryz.pinned (OpenSpec.ofChange fnExactIsModuleMapWrong)

/-- 'laws.FnExactDimensionOfMaps': WHATEVER THE INPUT: true; the input reads as it did. -/
def fnExactDimensionOfMapsSpec : ChangeSpec := { name := "fnExactDimensionOfMaps", fn := fun _ => fun
  | [d1, d2, d3] => { results := [.lit (.bool true)], args := [d1, d2, d3] }
  | _ => none }
def fnExactDimensionOfMapsRow : OpenClaim := { program := "ytfmhgfnadgaiaaagreat", sum := "635f5be314668d608c5b4cac0187152e029f2822cf80a0040e98c3139bb2d095", func := "loop.example/g01230/laws.FnExactDimensionOfMaps", spec := "fnExactDimensionOfMaps", unfollowed := true, recurses := true, apart := false }
def FnExactDimensionOfMapsSaid : Prop := fnExactDimensionOfMapsRow.holds Tryz.pinned (OpenSpec.ofChange fnExactDimensionOfMapsSpec)

/-- ITS FALSE NEIGHBOUR: 'it returns false'. Refute it at one input. -/
def fnExactDimensionOfMapsWrong : ChangeSpec := { name := "fnExactDimensionOfMaps", fn := fun _ => fun
  | [d1, d2, d3] => { results := [.lit (.bool false)], args := [d1, d2, d3] }
  | _ => none }
def FnExactDimensionOfMapsWrongFalsely : Prop := fnExactDimensionOfMapsRow.holds Tryz.pinned (OpenSpec.ofChange fnExactDimensionOfMapsWrong)

/- THE SECOND FORM. 'bulk': how many values and letters a reading holds, each counted each time it is reached (what is shared counts as often as it is met; a slice's spare places count too). A statement '..UptoSaid' is the law's where the arguments, and the package variables that the reading takes, are together of bulk at most 1048576: NARROWER than '..Said'. Prove '..Said' where nothing that the law and all that it calls make is longer than what came in: it says more and counts as full. Else prove '..UptoSaid'. A law counts once. -/
mutual
def uptoBulk {H : Type} : DataW H → Nat
  | .lit (.string bytes) => bytes.length + 1
  | .lit _ => 1
  | .nil => 1
  | .ptr d => uptoBulk d + 1
  | .slice elems spare => uptoBulkAll elems + uptoBulkAll spare + 1
  | .agg parts => uptoBulkAll parts + 1
  | .iface _ d => uptoBulk d + 1
  | .map entries => uptoBulkEntries entries + 1
  | .held _ => 1
def uptoBulkAll {H : Type} : List (DataW H) → Nat
  | [] => 0
  | d :: r => uptoBulk d + uptoBulkAll r
def uptoBulkEntries {H : Type} : List (Lit × DataW H) → Nat
  | [] => 0
  | x :: r => uptoBulkEntry x + uptoBulkEntries r
def uptoBulkEntry {H : Type} : Lit × DataW H → Nat
  | (.string bytes, d) => bytes.length + uptoBulk d + 1
  | (_, d) => uptoBulk d + 1
 end
def uptoSmall : (H : Type) → List (DataW H) → Bool := fun _ ds => decide (uptoBulkAll ds ≤ 1048576)
def OpenSpec.upto (s : _root_.Go.ChangeSpec) : _root_.Go.OpenSpec := { _root_.Go.OpenSpec.ofChange s with cond := some uptoSmall }

/-- 'laws.FnExactRankOfForm', WHERE WHAT IT READS IS OF BULK AT MOST 1048576: true; the input reads as it did. -/
def fnExactRankOfFormUptoRow : OpenClaim := { program := "ytfmhgfnadgaiaaagreat", sum := "635f5be314668d608c5b4cac0187152e029f2822cf80a0040e98c3139bb2d095", func := "loop.example/g01230/laws.FnExactRankOfForm", spec := "fnExactRankOfForm", unfollowed := true, recurses := true, apart := false, narrowed := true }
def FnExactRankOfFormUptoSaid : Prop := fnExactRankOfFormUptoRow.holds Tryz.pinned (OpenSpec.upto fnExactRankOfFormSpec)

/-- 'laws.FnExactSumModule', WHERE WHAT IT READS IS OF BULK AT MOST 1048576: true; the input reads as it did. -/
def fnExactSumModuleUptoRow : OpenClaim := { program := "ytfmhgfnadgaiaaagreat", sum := "635f5be314668d608c5b4cac0187152e029f2822cf80a0040e98c3139bb2d095", func := "loop.example/g01230/laws.FnExactSumModule", spec := "fnExactSumModule", unfollowed := true, recurses := true, apart := false, narrowed := true }
def FnExactSumModuleUptoSaid : Prop := fnExactSumModuleUptoRow.holds Tryz.pinned (OpenSpec.upto fnExactSumModuleSpec)

/-- 'laws.FnExactTensorModule', WHERE WHAT IT READS IS OF BULK AT MOST 1048576: true; the input reads as it did. -/
def fnExactTensorModuleUptoRow : OpenClaim := { program := "ytfmhgfnadgaiaaagreat", sum := "635f5be314668d608c5b4cac0187152e029f2822cf80a0040e98c3139bb2d095", func := "loop.example/g01230/laws.FnExactTensorModule", spec := "fnExactTensorModule", unfollowed := true, recurses := true, apart := false, narrowed := true }
def FnExactTensorModuleUptoSaid : Prop := fnExactTensorModuleUptoRow.holds Tryz.pinned (OpenSpec.upto fnExactTensorModuleSpec)

/-- 'laws.FnExactDualModule', WHERE WHAT IT READS IS OF BULK AT MOST 1048576: true; the input reads as it did. -/
def fnExactDualModuleUptoRow : OpenClaim := { program := "ytfmhgfnadgaiaaagreat", sum := "635f5be314668d608c5b4cac0187152e029f2822cf80a0040e98c3139bb2d095", func := "loop.example/g01230/laws.FnExactDualModule", spec := "fnExactDualModule", unfollowed := true, recurses := true, apart := false, narrowed := true }
def FnExactDualModuleUptoSaid : Prop := fnExactDualModuleUptoRow.holds Tryz.pinned (OpenSpec.upto fnExactDualModuleSpec)

/-- 'laws.FnExactInvariantsOf', WHERE WHAT IT READS IS OF BULK AT MOST 1048576: true; the input reads as it did. -/
def fnExactInvariantsOfUptoRow : OpenClaim := { program := "ytfmhgfnadgaiaaagreat", sum := "635f5be314668d608c5b4cac0187152e029f2822cf80a0040e98c3139bb2d095", func := "loop.example/g01230/laws.FnExactInvariantsOf", spec := "fnExactInvariantsOf", unfollowed := true, recurses := true, apart := false, narrowed := true }
def FnExactInvariantsOfUptoSaid : Prop := fnExactInvariantsOfUptoRow.holds Tryz.pinned (OpenSpec.upto fnExactInvariantsOfSpec)

/-- 'laws.FnExactCharacterOf', WHERE WHAT IT READS IS OF BULK AT MOST 1048576: true; the input reads as it did. -/
def fnExactCharacterOfUptoRow : OpenClaim := { program := "ytfmhgfnadgaiaaagreat", sum := "635f5be314668d608c5b4cac0187152e029f2822cf80a0040e98c3139bb2d095", func := "loop.example/g01230/laws.FnExactCharacterOf", spec := "fnExactCharacterOf", unfollowed := true, recurses := true, apart := false, narrowed := true }
def FnExactCharacterOfUptoSaid : Prop := fnExactCharacterOfUptoRow.holds Tryz.pinned (OpenSpec.upto fnExactCharacterOfSpec)

/-- 'laws.FnExactSubmoduleOf', WHERE WHAT IT READS IS OF BULK AT MOST 1048576: true; the input reads as it did. -/
def fnExactSubmoduleOfUptoRow : OpenClaim := { program := "ytfmhgfnadgaiaaagreat", sum := "635f5be314668d608c5b4cac0187152e029f2822cf80a0040e98c3139bb2d095", func := "loop.example/g01230/laws.FnExactSubmoduleOf", spec := "fnExactSubmoduleOf", unfollowed := true, recurses := true, apart := false, narrowed := true }
def FnExactSubmoduleOfUptoSaid : Prop := fnExactSubmoduleOfUptoRow.holds Tryz.pinned (OpenSpec.upto fnExactSubmoduleOfSpec)

/-- 'laws.FnExactIsSubmodule', WHERE WHAT IT READS IS OF BULK AT MOST 1048576: true; the input reads as it did. -/
def fnExactIsSubmoduleUptoRow : OpenClaim := { program := "ytfmhgfnadgaiaaagreat", sum := "635f5be314668d608c5b4cac0187152e029f2822cf80a0040e98c3139bb2d095", func := "loop.example/g01230/laws.FnExactIsSubmodule", spec := "fnExactIsSubmodule", unfollowed := true, recurses := true, apart := false, narrowed := true }
def FnExactIsSubmoduleUptoSaid : Prop := fnExactIsSubmoduleUptoRow.holds Tryz.pinned (OpenSpec.upto fnExactIsSubmoduleSpec)

/-- 'laws.FnExactQuotientModule', WHERE WHAT IT READS IS OF BULK AT MOST 1048576: true; the input reads as it did. -/
def fnExactQuotientModuleUptoRow : OpenClaim := { program := "ytfmhgfnadgaiaaagreat", sum := "635f5be314668d608c5b4cac0187152e029f2822cf80a0040e98c3139bb2d095", func := "loop.example/g01230/laws.FnExactQuotientModule", spec := "fnExactQuotientModule", unfollowed := true, recurses := true, apart := false, narrowed := true }
def FnExactQuotientModuleUptoSaid : Prop := fnExactQuotientModuleUptoRow.holds Tryz.pinned (OpenSpec.upto fnExactQuotientModuleSpec)

/-- 'laws.FnExactIsModuleMap', WHERE WHAT IT READS IS OF BULK AT MOST 1048576: true; the input reads as it did. -/
def fnExactIsModuleMapUptoRow : OpenClaim := { program := "ytfmhgfnadgaiaaagreat", sum := "635f5be314668d608c5b4cac0187152e029f2822cf80a0040e98c3139bb2d095", func := "loop.example/g01230/laws.FnExactIsModuleMap", spec := "fnExactIsModuleMap", unfollowed := true, recurses := true, apart := false, narrowed := true }
def FnExactIsModuleMapUptoSaid : Prop := fnExactIsModuleMapUptoRow.holds Tryz.pinned (OpenSpec.upto fnExactIsModuleMapSpec)

/-- 'laws.FnExactDimensionOfMaps', WHERE WHAT IT READS IS OF BULK AT MOST 1048576: true; the input reads as it did. -/
def fnExactDimensionOfMapsUptoRow : OpenClaim := { program := "ytfmhgfnadgaiaaagreat", sum := "635f5be314668d608c5b4cac0187152e029f2822cf80a0040e98c3139bb2d095", func := "loop.example/g01230/laws.FnExactDimensionOfMaps", spec := "fnExactDimensionOfMaps", unfollowed := true, recurses := true, apart := false, narrowed := true }
def FnExactDimensionOfMapsUptoSaid : Prop := fnExactDimensionOfMapsUptoRow.holds Tryz.pinned (OpenSpec.upto fnExactDimensionOfMapsSpec)

end Rows
end Go.Proofs.YtfmhgfnadgaiaaaGreat
