/-
  NARROWER THAN 'FOR EVERY INPUT', by the rows' own cells (each row's printed sentence says how): FnWeights: laid · FnGreat: laid · FnExactInBoth: laid · FnExactSmallestGreat: laid · FnExactMaskOf: laid · FnExactOfMask: laid · FnExactLeastShared: laid.
  DERIVED. THE GIVEN ROWS OF THIS SEAT. 7 by the template 'for every input the law returns true; each argument reads behind the call as it read before'; 0 by the template 'total and deterministic' (their statements: YtpopefopmbmgaaaDoorTotals.lean).
  GIVEN WITH THE SEED: the statements are not yours to turn. If you find one false, say at which input.
  Laid BY PROGRAM, IN A SANDBOX (cutbox-rows.mjs): the forced cells as the released guide's own fill.sh prints them over the translation b535b1f3e3f84dd9… (all of the seat's roots in one cut). By AI agents, Wed Nov 11 2026. No macro, syntax, notation, axiom, sorry.
-/
import Derived.Test.YtpopefopmbmgaaaDoorChecked
import GoSem.Claim
import GoSem.ClaimJoined
import GoSem.ClaimMapViews
import Derived.JoinedTies
import Derived.KernelRfl
namespace Go.Proofs.YtpopefopmbmgaaaDoor
/- THE CELL 'sum', in the pinned program and in every row, IS THE sha256 OF THE DUMP (.gsa) THAT YtpopefopmbmgaaaDoorProg.lean LOADS. Nothing in Lean hashes anything: it is a label: what it is worth is what the hold of that sum in a sandbox is worth. -/
noncomputable def Tryd.pinned : Pinned := { name := "ytpopefopmbmgaaadoor", sum := "b535b1f3e3f84dd97af07eb249b371aad9a1200501ecb878a187e4554afc734a", checked := Tryd.checked }
namespace Rows
def none {H : Type} : Left H := { results := [], args := [] }

/- WHAT THE LISTED PACKAGE-LEVEL VARIABLES READ AS WHEN THE CALL BEGINS. Each datum BY PROGRAM (the guide's laid-datum.mjs) off the statement by which the dump's own 'gosem.cut.vars' lays the variable. In a bare row this is a premise. The card (YtpopefopmbmgaaaDoorCards.lean) ties it to the program's text. -/
def laid_loop_example_g00564_impl_voterBits {H : Type} : DataW H := .agg [.lit (.int .i64 1), .lit (.int .i64 2), .lit (.int .i64 4), .lit (.int .i64 8), .lit (.int .i64 16), .lit (.int .i64 32), .lit (.int .i64 64), .lit (.int .i64 128), .lit (.int .i64 256), .lit (.int .i64 512)]

/-- 'laws.FnWeights': WHATEVER THE INPUT: true; the input reads as it did. -/
def fnWeightsSpec : ChangeSpec := { name := "fnWeights", vars := ["loop.example/g00564/impl.voterBits"], fn := fun _ => fun
  | [d1, d2, g1] => { results := [.lit (.bool true)], args := [d1, d2], vars := [g1] }
  | _ => none }
def fnWeightsRow : OpenClaim := { program := "ytpopefopmbmgaaadoor", sum := "b535b1f3e3f84dd97af07eb249b371aad9a1200501ecb878a187e4554afc734a", func := "loop.example/g00564/laws.FnWeights", spec := "fnWeights", named := ["loop.example/g00564/impl.voterBits"], apart := false, laid := [("loop.example/g00564/impl.voterBits", laid_loop_example_g00564_impl_voterBits)] }
def FnWeightsSaid : Prop := fnWeightsRow.holds Tryd.pinned (OpenSpec.ofChange fnWeightsSpec)

/-- ITS FALSE NEIGHBOUR: 'it returns false'. Refute it at one input. -/
def fnWeightsWrong : ChangeSpec := { name := "fnWeights", vars := ["loop.example/g00564/impl.voterBits"], fn := fun _ => fun
  | [d1, d2, g1] => { results := [.lit (.bool false)], args := [d1, d2], vars := [g1] }
  | _ => none }
def FnWeightsWrongFalsely : Prop := fnWeightsRow.holds Tryd.pinned (OpenSpec.ofChange fnWeightsWrong)

/-- 'laws.FnGreat': WHATEVER THE INPUT: true; the input reads as it did. -/
def fnGreatSpec : ChangeSpec := { name := "fnGreat", vars := ["loop.example/g00564/impl.voterBits"], fn := fun _ => fun
  | [d1, d2, g1] => { results := [.lit (.bool true)], args := [d1, d2], vars := [g1] }
  | _ => none }
def fnGreatRow : OpenClaim := { program := "ytpopefopmbmgaaadoor", sum := "b535b1f3e3f84dd97af07eb249b371aad9a1200501ecb878a187e4554afc734a", func := "loop.example/g00564/laws.FnGreat", spec := "fnGreat", named := ["loop.example/g00564/impl.voterBits"], apart := false, laid := [("loop.example/g00564/impl.voterBits", laid_loop_example_g00564_impl_voterBits)] }
def FnGreatSaid : Prop := fnGreatRow.holds Tryd.pinned (OpenSpec.ofChange fnGreatSpec)

/-- ITS FALSE NEIGHBOUR: 'it returns false'. Refute it at one input. -/
def fnGreatWrong : ChangeSpec := { name := "fnGreat", vars := ["loop.example/g00564/impl.voterBits"], fn := fun _ => fun
  | [d1, d2, g1] => { results := [.lit (.bool false)], args := [d1, d2], vars := [g1] }
  | _ => none }
def FnGreatWrongFalsely : Prop := fnGreatRow.holds Tryd.pinned (OpenSpec.ofChange fnGreatWrong)

/-- 'laws.FnExactInBoth': WHATEVER THE INPUT: true; the input reads as it did. -/
def fnExactInBothSpec : ChangeSpec := { name := "fnExactInBoth", vars := ["loop.example/g00564/impl.voterBits"], fn := fun _ => fun
  | [d1, d2, g1] => { results := [.lit (.bool true)], args := [d1, d2], vars := [g1] }
  | _ => none }
def fnExactInBothRow : OpenClaim := { program := "ytpopefopmbmgaaadoor", sum := "b535b1f3e3f84dd97af07eb249b371aad9a1200501ecb878a187e4554afc734a", func := "loop.example/g00564/laws.FnExactInBoth", spec := "fnExactInBoth", named := ["loop.example/g00564/impl.voterBits"], apart := false, laid := [("loop.example/g00564/impl.voterBits", laid_loop_example_g00564_impl_voterBits)] }
def FnExactInBothSaid : Prop := fnExactInBothRow.holds Tryd.pinned (OpenSpec.ofChange fnExactInBothSpec)

/-- ITS FALSE NEIGHBOUR: 'it returns false'. Refute it at one input. -/
def fnExactInBothWrong : ChangeSpec := { name := "fnExactInBoth", vars := ["loop.example/g00564/impl.voterBits"], fn := fun _ => fun
  | [d1, d2, g1] => { results := [.lit (.bool false)], args := [d1, d2], vars := [g1] }
  | _ => none }
def FnExactInBothWrongFalsely : Prop := fnExactInBothRow.holds Tryd.pinned (OpenSpec.ofChange fnExactInBothWrong)

/-- 'laws.FnExactSmallestGreat': WHATEVER THE INPUT: true; the input reads as it did. -/
def fnExactSmallestGreatSpec : ChangeSpec := { name := "fnExactSmallestGreat", vars := ["loop.example/g00564/impl.voterBits"], fn := fun _ => fun
  | [d, g1] => { results := [.lit (.bool true)], args := [d], vars := [g1] }
  | _ => none }
def fnExactSmallestGreatRow : OpenClaim := { program := "ytpopefopmbmgaaadoor", sum := "b535b1f3e3f84dd97af07eb249b371aad9a1200501ecb878a187e4554afc734a", func := "loop.example/g00564/laws.FnExactSmallestGreat", spec := "fnExactSmallestGreat", named := ["loop.example/g00564/impl.voterBits"], apart := false, laid := [("loop.example/g00564/impl.voterBits", laid_loop_example_g00564_impl_voterBits)] }
def FnExactSmallestGreatSaid : Prop := fnExactSmallestGreatRow.holds Tryd.pinned (OpenSpec.ofChange fnExactSmallestGreatSpec)

/-- ITS FALSE NEIGHBOUR: 'it returns false'. Refute it at one input. -/
def fnExactSmallestGreatWrong : ChangeSpec := { name := "fnExactSmallestGreat", vars := ["loop.example/g00564/impl.voterBits"], fn := fun _ => fun
  | [d, g1] => { results := [.lit (.bool false)], args := [d], vars := [g1] }
  | _ => none }
def FnExactSmallestGreatWrongFalsely : Prop := fnExactSmallestGreatRow.holds Tryd.pinned (OpenSpec.ofChange fnExactSmallestGreatWrong)

/-- 'laws.FnExactMaskOf': WHATEVER THE INPUT: true; the input reads as it did. -/
def fnExactMaskOfSpec : ChangeSpec := { name := "fnExactMaskOf", vars := ["loop.example/g00564/impl.voterBits"], fn := fun _ => fun
  | [d, g1] => { results := [.lit (.bool true)], args := [d], vars := [g1] }
  | _ => none }
def fnExactMaskOfRow : OpenClaim := { program := "ytpopefopmbmgaaadoor", sum := "b535b1f3e3f84dd97af07eb249b371aad9a1200501ecb878a187e4554afc734a", func := "loop.example/g00564/laws.FnExactMaskOf", spec := "fnExactMaskOf", named := ["loop.example/g00564/impl.voterBits"], apart := false, laid := [("loop.example/g00564/impl.voterBits", laid_loop_example_g00564_impl_voterBits)] }
def FnExactMaskOfSaid : Prop := fnExactMaskOfRow.holds Tryd.pinned (OpenSpec.ofChange fnExactMaskOfSpec)

/-- ITS FALSE NEIGHBOUR: 'it returns false'. Refute it at one input. -/
def fnExactMaskOfWrong : ChangeSpec := { name := "fnExactMaskOf", vars := ["loop.example/g00564/impl.voterBits"], fn := fun _ => fun
  | [d, g1] => { results := [.lit (.bool false)], args := [d], vars := [g1] }
  | _ => none }
def FnExactMaskOfWrongFalsely : Prop := fnExactMaskOfRow.holds Tryd.pinned (OpenSpec.ofChange fnExactMaskOfWrong)

/-- 'laws.FnExactOfMask': WHATEVER THE INPUT: true; the input reads as it did. -/
def fnExactOfMaskSpec : ChangeSpec := { name := "fnExactOfMask", vars := ["loop.example/g00564/impl.voterBits"], fn := fun _ => fun
  | [d, g1] => { results := [.lit (.bool true)], args := [d], vars := [g1] }
  | _ => none }
def fnExactOfMaskRow : OpenClaim := { program := "ytpopefopmbmgaaadoor", sum := "b535b1f3e3f84dd97af07eb249b371aad9a1200501ecb878a187e4554afc734a", func := "loop.example/g00564/laws.FnExactOfMask", spec := "fnExactOfMask", named := ["loop.example/g00564/impl.voterBits"], apart := false, laid := [("loop.example/g00564/impl.voterBits", laid_loop_example_g00564_impl_voterBits)] }
def FnExactOfMaskSaid : Prop := fnExactOfMaskRow.holds Tryd.pinned (OpenSpec.ofChange fnExactOfMaskSpec)

/-- ITS FALSE NEIGHBOUR: 'it returns false'. Refute it at one input. -/
def fnExactOfMaskWrong : ChangeSpec := { name := "fnExactOfMask", vars := ["loop.example/g00564/impl.voterBits"], fn := fun _ => fun
  | [d, g1] => { results := [.lit (.bool false)], args := [d], vars := [g1] }
  | _ => none }
def FnExactOfMaskWrongFalsely : Prop := fnExactOfMaskRow.holds Tryd.pinned (OpenSpec.ofChange fnExactOfMaskWrong)

/-- 'laws.FnExactLeastShared': WHATEVER THE INPUT: true; the input reads as it did. -/
def fnExactLeastSharedSpec : ChangeSpec := { name := "fnExactLeastShared", vars := ["loop.example/g00564/impl.voterBits"], fn := fun _ => fun
  | [d, g1] => { results := [.lit (.bool true)], args := [d], vars := [g1] }
  | _ => none }
def fnExactLeastSharedRow : OpenClaim := { program := "ytpopefopmbmgaaadoor", sum := "b535b1f3e3f84dd97af07eb249b371aad9a1200501ecb878a187e4554afc734a", func := "loop.example/g00564/laws.FnExactLeastShared", spec := "fnExactLeastShared", named := ["loop.example/g00564/impl.voterBits"], apart := false, laid := [("loop.example/g00564/impl.voterBits", laid_loop_example_g00564_impl_voterBits)] }
def FnExactLeastSharedSaid : Prop := fnExactLeastSharedRow.holds Tryd.pinned (OpenSpec.ofChange fnExactLeastSharedSpec)

/-- ITS FALSE NEIGHBOUR: 'it returns false'. Refute it at one input. -/
def fnExactLeastSharedWrong : ChangeSpec := { name := "fnExactLeastShared", vars := ["loop.example/g00564/impl.voterBits"], fn := fun _ => fun
  | [d, g1] => { results := [.lit (.bool false)], args := [d], vars := [g1] }
  | _ => none }
def FnExactLeastSharedWrongFalsely : Prop := fnExactLeastSharedRow.holds Tryd.pinned (OpenSpec.ofChange fnExactLeastSharedWrong)

/- THE SECOND FORM. 'bulk': how many values and letters a reading holds, each counted each time it is reached (what is shared counts as often as it is met; a slice's spare places count too). A statement '..UptoSaid' is the law's where the arguments, and the package variables that the reading takes, are together of bulk at most 1048576: NARROWER than '..Said'. Prove '..Said' where nothing that the law and all that it calls make is longer than what came in: it says more and counts as full. Else prove '..UptoSaid'. A law counts once. -/
mutual
def uptoBulk {H : Type} : DataW H → Nat
  | .lit (.string bytes) => bytes.length + 1
  | .lit _ => 1
  | .nil => 1
  | .ptr d => uptoBulk d + 1
  | .slice elems spare => uptoBulkAll elems + uptoBulkAll spare + 1
  | .agg parts => uptoBulkAll parts + 1
  | .iface _ d => uptoBulk d + 1
  | .map entries => uptoBulkEntries entries + 1
  | .held _ => 1
def uptoBulkAll {H : Type} : List (DataW H) → Nat
  | [] => 0
  | d :: r => uptoBulk d + uptoBulkAll r
def uptoBulkEntries {H : Type} : List (Lit × DataW H) → Nat
  | [] => 0
  | x :: r => uptoBulkEntry x + uptoBulkEntries r
def uptoBulkEntry {H : Type} : Lit × DataW H → Nat
  | (.string bytes, d) => bytes.length + uptoBulk d + 1
  | (_, d) => uptoBulk d + 1
 end
def uptoSmall : (H : Type) → List (DataW H) → Bool := fun _ ds => decide (uptoBulkAll ds ≤ 1048576)
def OpenSpec.upto (s : _root_.Go.ChangeSpec) : _root_.Go.OpenSpec := { _root_.Go.OpenSpec.ofChange s with cond := some uptoSmall }

/-- 'laws.FnWeights', WHERE WHAT IT READS IS OF BULK AT MOST 1048576: true; the input reads as it did. -/
def fnWeightsUptoRow : OpenClaim := { program := "ytpopefopmbmgaaadoor", sum := "b535b1f3e3f84dd97af07eb249b371aad9a1200501ecb878a187e4554afc734a", func := "loop.example/g00564/laws.FnWeights", spec := "fnWeights", named := ["loop.example/g00564/impl.voterBits"], apart := false, laid := [("loop.example/g00564/impl.voterBits", laid_loop_example_g00564_impl_voterBits)], narrowed := true }
def FnWeightsUptoSaid : Prop := fnWeightsUptoRow.holds Tryd.pinned (OpenSpec.upto fnWeightsSpec)

/-- 'laws.FnGreat', WHERE WHAT IT READS IS OF BULK AT MOST 1048576: true; the input reads as it did. -/
def fnGreatUptoRow : OpenClaim := { program := "ytpopefopmbmgaaadoor", sum := "b535b1f3e3f84dd97af07eb249b371aad9a1200501ecb878a187e4554afc734a", func := "loop.example/g00564/laws.FnGreat", spec := "fnGreat", named := ["loop.example/g00564/impl.voterBits"], apart := false, laid := [("loop.example/g00564/impl.voterBits", laid_loop_example_g00564_impl_voterBits)], narrowed := true }
def FnGreatUptoSaid : Prop := fnGreatUptoRow.holds Tryd.pinned (OpenSpec.upto fnGreatSpec)

/-- 'laws.FnExactInBoth', WHERE WHAT IT READS IS OF BULK AT MOST 1048576: true; the input reads as it did. -/
def fnExactInBothUptoRow : OpenClaim := { program := "ytpopefopmbmgaaadoor", sum := "b535b1f3e3f84dd97af07eb249b371aad9a1200501ecb878a187e4554afc734a", func := "loop.example/g00564/laws.FnExactInBoth", spec := "fnExactInBoth", named := ["loop.example/g00564/impl.voterBits"], apart := false, laid := [("loop.example/g00564/impl.voterBits", laid_loop_example_g00564_impl_voterBits)], narrowed := true }
def FnExactInBothUptoSaid : Prop := fnExactInBothUptoRow.holds Tryd.pinned (OpenSpec.upto fnExactInBothSpec)

/-- 'laws.FnExactSmallestGreat', WHERE WHAT IT READS IS OF BULK AT MOST 1048576: true; the input reads as it did. -/
def fnExactSmallestGreatUptoRow : OpenClaim := { program := "ytpopefopmbmgaaadoor", sum := "b535b1f3e3f84dd97af07eb249b371aad9a1200501ecb878a187e4554afc734a", func := "loop.example/g00564/laws.FnExactSmallestGreat", spec := "fnExactSmallestGreat", named := ["loop.example/g00564/impl.voterBits"], apart := false, laid := [("loop.example/g00564/impl.voterBits", laid_loop_example_g00564_impl_voterBits)], narrowed := true }
def FnExactSmallestGreatUptoSaid : Prop := fnExactSmallestGreatUptoRow.holds Tryd.pinned (OpenSpec.upto fnExactSmallestGreatSpec)

/-- 'laws.FnExactMaskOf', WHERE WHAT IT READS IS OF BULK AT MOST 1048576: true; the input reads as it did. -/
def fnExactMaskOfUptoRow : OpenClaim := { program := "ytpopefopmbmgaaadoor", sum := "b535b1f3e3f84dd97af07eb249b371aad9a1200501ecb878a187e4554afc734a", func := "loop.example/g00564/laws.FnExactMaskOf", spec := "fnExactMaskOf", named := ["loop.example/g00564/impl.voterBits"], apart := false, laid := [("loop.example/g00564/impl.voterBits", laid_loop_example_g00564_impl_voterBits)], narrowed := true }
def FnExactMaskOfUptoSaid : Prop := fnExactMaskOfUptoRow.holds Tryd.pinned (OpenSpec.upto fnExactMaskOfSpec)

/-- 'laws.FnExactOfMask', WHERE WHAT IT READS IS OF BULK AT MOST 1048576: true; the input reads as it did. -/
def fnExactOfMaskUptoRow : OpenClaim := { program := "ytpopefopmbmgaaadoor", sum := "b535b1f3e3f84dd97af07eb249b371aad9a1200501ecb878a187e4554afc734a", func := "loop.example/g00564/laws.FnExactOfMask", spec := "fnExactOfMask", named := ["loop.example/g00564/impl.voterBits"], apart := false, laid := [("loop.example/g00564/impl.voterBits", laid_loop_example_g00564_impl_voterBits)], narrowed := true }
def FnExactOfMaskUptoSaid : Prop := fnExactOfMaskUptoRow.holds Tryd.pinned (OpenSpec.upto fnExactOfMaskSpec)

/-- 'laws.FnExactLeastShared', WHERE WHAT IT READS IS OF BULK AT MOST 1048576: true; the input reads as it did. -/
def fnExactLeastSharedUptoRow : OpenClaim := { program := "ytpopefopmbmgaaadoor", sum := "b535b1f3e3f84dd97af07eb249b371aad9a1200501ecb878a187e4554afc734a", func := "loop.example/g00564/laws.FnExactLeastShared", spec := "fnExactLeastShared", named := ["loop.example/g00564/impl.voterBits"], apart := false, laid := [("loop.example/g00564/impl.voterBits", laid_loop_example_g00564_impl_voterBits)], narrowed := true }
def FnExactLeastSharedUptoSaid : Prop := fnExactLeastSharedUptoRow.holds Tryd.pinned (OpenSpec.upto fnExactLeastSharedSpec)

end Rows
end Go.Proofs.YtpopefopmbmgaaaDoor
