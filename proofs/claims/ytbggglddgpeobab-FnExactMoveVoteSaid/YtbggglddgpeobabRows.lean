/-
  No cell of these rows narrows 'for every input' (looked for: loops, veiled, ifaces, maps, wideKeys, modest, calm, conditions, laid).
  DERIVED. THE GIVEN ROWS OF THIS SEAT. 11 by the template 'for every input the law returns true; each argument reads behind the call as it read before'; 0 by the template 'total and deterministic' (their statements: YtbggglddgpeobabTotals.lean).
  GIVEN WITH THE SEED: the statements are not yours to turn. If you find one false, say at which input.
  Laid BY PROGRAM, IN A SANDBOX (cutbox-rows.mjs): the forced cells as the released guide's own fill.sh prints them over the translation babd0c2e30230fa1… (all of the seat's roots in one cut). By AI agents, Wed Nov 11 2026. No macro, syntax, notation, axiom, sorry.
-/
import Derived.Test.YtbggglddgpeobabChecked
import GoSem.Claim
import GoSem.ClaimJoined
import GoSem.ClaimMapViews
import Derived.JoinedTies
import Derived.KernelRfl
namespace Go.Proofs.Ytbggglddgpeobab
/- THE CELL 'sum', in the pinned program and in every row, IS THE sha256 OF THE DUMP (.gsa) THAT YtbggglddgpeobabProg.lean LOADS. Nothing in Lean hashes anything: it is a label: what it is worth is what the hold of that sum in a sandbox is worth. -/
noncomputable def Try.pinned : Pinned := { name := "ytbggglddgpeobab", sum := "babd0c2e30230fa193df0fca95f0bad00a227e7d373e83a83600280c051d387e", checked := Try.checked }
namespace Rows
def none {H : Type} : Left H := { results := [], args := [] }

/-- 'laws.FnHeads': WHATEVER THE INPUT: true; the input reads as it did. -/
def fnHeadsSpec : ChangeSpec := { name := "fnHeads", fn := fun _ => fun
  | [d1, d2] => { results := [.lit (.bool true)], args := [d1, d2] }
  | _ => none }
def fnHeadsRow : OpenClaim := { program := "ytbggglddgpeobab", sum := "babd0c2e30230fa193df0fca95f0bad00a227e7d373e83a83600280c051d387e", func := "loop.example/g00564/laws.FnHeads", spec := "fnHeads", unfollowed := true, recurses := true, apart := false }
def FnHeadsSaid : Prop := fnHeadsRow.holds Try.pinned (OpenSpec.ofChange fnHeadsSpec)

/-- ITS FALSE NEIGHBOUR: 'it returns false'. Refute it at one input. -/
def fnHeadsWrong : ChangeSpec := { name := "fnHeads", fn := fun _ => fun
  | [d1, d2] => { results := [.lit (.bool false)], args := [d1, d2] }
  | _ => none }
def FnHeadsWrongFalsely : Prop := fnHeadsRow.holds Try.pinned (OpenSpec.ofChange fnHeadsWrong)

/-- 'laws.FnExactSubWeights': WHATEVER THE INPUT: true; the input reads as it did. -/
def fnExactSubWeightsSpec : ChangeSpec := { name := "fnExactSubWeights", fn := fun _ => fun
  | [d1, d2] => { results := [.lit (.bool true)], args := [d1, d2] }
  | _ => none }
def fnExactSubWeightsRow : OpenClaim := { program := "ytbggglddgpeobab", sum := "babd0c2e30230fa193df0fca95f0bad00a227e7d373e83a83600280c051d387e", func := "loop.example/g00564/laws.FnExactSubWeights", spec := "fnExactSubWeights", apart := false }
def FnExactSubWeightsSaid : Prop := fnExactSubWeightsRow.holds Try.pinned (OpenSpec.ofChange fnExactSubWeightsSpec)

/-- ITS FALSE NEIGHBOUR: 'it returns false'. Refute it at one input. -/
def fnExactSubWeightsWrong : ChangeSpec := { name := "fnExactSubWeights", fn := fun _ => fun
  | [d1, d2] => { results := [.lit (.bool false)], args := [d1, d2] }
  | _ => none }
def FnExactSubWeightsWrongFalsely : Prop := fnExactSubWeightsRow.holds Try.pinned (OpenSpec.ofChange fnExactSubWeightsWrong)

/-- 'laws.FnExactHeadFrom': WHATEVER THE INPUT: true; the input reads as it did. -/
def fnExactHeadFromSpec : ChangeSpec := { name := "fnExactHeadFrom", fn := fun _ => fun
  | [d1, d2, d3] => { results := [.lit (.bool true)], args := [d1, d2, d3] }
  | _ => none }
def fnExactHeadFromRow : OpenClaim := { program := "ytbggglddgpeobab", sum := "babd0c2e30230fa193df0fca95f0bad00a227e7d373e83a83600280c051d387e", func := "loop.example/g00564/laws.FnExactHeadFrom", spec := "fnExactHeadFrom", apart := false }
def FnExactHeadFromSaid : Prop := fnExactHeadFromRow.holds Try.pinned (OpenSpec.ofChange fnExactHeadFromSpec)

/-- ITS FALSE NEIGHBOUR: 'it returns false'. Refute it at one input. -/
def fnExactHeadFromWrong : ChangeSpec := { name := "fnExactHeadFrom", fn := fun _ => fun
  | [d1, d2, d3] => { results := [.lit (.bool false)], args := [d1, d2, d3] }
  | _ => none }
def FnExactHeadFromWrongFalsely : Prop := fnExactHeadFromRow.holds Try.pinned (OpenSpec.ofChange fnExactHeadFromWrong)

/-- 'laws.FnExactIsHeaviest': WHATEVER THE INPUT: true; the input reads as it did. -/
def fnExactIsHeaviestSpec : ChangeSpec := { name := "fnExactIsHeaviest", fn := fun _ => fun
  | [d1, d2, d3] => { results := [.lit (.bool true)], args := [d1, d2, d3] }
  | _ => none }
def fnExactIsHeaviestRow : OpenClaim := { program := "ytbggglddgpeobab", sum := "babd0c2e30230fa193df0fca95f0bad00a227e7d373e83a83600280c051d387e", func := "loop.example/g00564/laws.FnExactIsHeaviest", spec := "fnExactIsHeaviest", apart := false }
def FnExactIsHeaviestSaid : Prop := fnExactIsHeaviestRow.holds Try.pinned (OpenSpec.ofChange fnExactIsHeaviestSpec)

/-- ITS FALSE NEIGHBOUR: 'it returns false'. Refute it at one input. -/
def fnExactIsHeaviestWrong : ChangeSpec := { name := "fnExactIsHeaviest", fn := fun _ => fun
  | [d1, d2, d3] => { results := [.lit (.bool false)], args := [d1, d2, d3] }
  | _ => none }
def FnExactIsHeaviestWrongFalsely : Prop := fnExactIsHeaviestRow.holds Try.pinned (OpenSpec.ofChange fnExactIsHeaviestWrong)

/-- 'laws.FnExactAddWeight': WHATEVER THE INPUT: true; the input reads as it did. -/
def fnExactAddWeightSpec : ChangeSpec := { name := "fnExactAddWeight", fn := fun _ => fun
  | [d1, d2, d3, d4] => { results := [.lit (.bool true)], args := [d1, d2, d3, d4] }
  | _ => none }
def fnExactAddWeightRow : OpenClaim := { program := "ytbggglddgpeobab", sum := "babd0c2e30230fa193df0fca95f0bad00a227e7d373e83a83600280c051d387e", func := "loop.example/g00564/laws.FnExactAddWeight", spec := "fnExactAddWeight", apart := false }
def FnExactAddWeightSaid : Prop := fnExactAddWeightRow.holds Try.pinned (OpenSpec.ofChange fnExactAddWeightSpec)

/-- ITS FALSE NEIGHBOUR: 'it returns false'. Refute it at one input. -/
def fnExactAddWeightWrong : ChangeSpec := { name := "fnExactAddWeight", fn := fun _ => fun
  | [d1, d2, d3, d4] => { results := [.lit (.bool false)], args := [d1, d2, d3, d4] }
  | _ => none }
def FnExactAddWeightWrongFalsely : Prop := fnExactAddWeightRow.holds Try.pinned (OpenSpec.ofChange fnExactAddWeightWrong)

/-- 'laws.FnExactMoveVote': WHATEVER THE INPUT: true; the input reads as it did. -/
def fnExactMoveVoteSpec : ChangeSpec := { name := "fnExactMoveVote", fn := fun _ => fun
  | [d1, d2, d3, d4, d5] => { results := [.lit (.bool true)], args := [d1, d2, d3, d4, d5] }
  | _ => none }
def fnExactMoveVoteRow : OpenClaim := { program := "ytbggglddgpeobab", sum := "babd0c2e30230fa193df0fca95f0bad00a227e7d373e83a83600280c051d387e", func := "loop.example/g00564/laws.FnExactMoveVote", spec := "fnExactMoveVote", apart := false }
def FnExactMoveVoteSaid : Prop := fnExactMoveVoteRow.holds Try.pinned (OpenSpec.ofChange fnExactMoveVoteSpec)

/-- ITS FALSE NEIGHBOUR: 'it returns false'. Refute it at one input. -/
def fnExactMoveVoteWrong : ChangeSpec := { name := "fnExactMoveVote", fn := fun _ => fun
  | [d1, d2, d3, d4, d5] => { results := [.lit (.bool false)], args := [d1, d2, d3, d4, d5] }
  | _ => none }
def FnExactMoveVoteWrongFalsely : Prop := fnExactMoveVoteRow.holds Try.pinned (OpenSpec.ofChange fnExactMoveVoteWrong)

/-- 'laws.FnExactHeadOf': WHATEVER THE INPUT: true; the input reads as it did. -/
def fnExactHeadOfSpec : ChangeSpec := { name := "fnExactHeadOf", fn := fun _ => fun
  | [d1, d2, d3] => { results := [.lit (.bool true)], args := [d1, d2, d3] }
  | _ => none }
def fnExactHeadOfRow : OpenClaim := { program := "ytbggglddgpeobab", sum := "babd0c2e30230fa193df0fca95f0bad00a227e7d373e83a83600280c051d387e", func := "loop.example/g00564/laws.FnExactHeadOf", spec := "fnExactHeadOf", recurses := true, apart := false }
def FnExactHeadOfSaid : Prop := fnExactHeadOfRow.holds Try.pinned (OpenSpec.ofChange fnExactHeadOfSpec)

/-- ITS FALSE NEIGHBOUR: 'it returns false'. Refute it at one input. -/
def fnExactHeadOfWrong : ChangeSpec := { name := "fnExactHeadOf", fn := fun _ => fun
  | [d1, d2, d3] => { results := [.lit (.bool false)], args := [d1, d2, d3] }
  | _ => none }
def FnExactHeadOfWrongFalsely : Prop := fnExactHeadOfRow.holds Try.pinned (OpenSpec.ofChange fnExactHeadOfWrong)

/-- 'laws.FnExactMarginAt': WHATEVER THE INPUT: true; the input reads as it did. -/
def fnExactMarginAtSpec : ChangeSpec := { name := "fnExactMarginAt", fn := fun _ => fun
  | [d1, d2, d3] => { results := [.lit (.bool true)], args := [d1, d2, d3] }
  | _ => none }
def fnExactMarginAtRow : OpenClaim := { program := "ytbggglddgpeobab", sum := "babd0c2e30230fa193df0fca95f0bad00a227e7d373e83a83600280c051d387e", func := "loop.example/g00564/laws.FnExactMarginAt", spec := "fnExactMarginAt", apart := false }
def FnExactMarginAtSaid : Prop := fnExactMarginAtRow.holds Try.pinned (OpenSpec.ofChange fnExactMarginAtSpec)

/-- ITS FALSE NEIGHBOUR: 'it returns false'. Refute it at one input. -/
def fnExactMarginAtWrong : ChangeSpec := { name := "fnExactMarginAt", fn := fun _ => fun
  | [d1, d2, d3] => { results := [.lit (.bool false)], args := [d1, d2, d3] }
  | _ => none }
def FnExactMarginAtWrongFalsely : Prop := fnExactMarginAtRow.holds Try.pinned (OpenSpec.ofChange fnExactMarginAtWrong)

/-- 'laws.FnExactSafeBlocks': WHATEVER THE INPUT: true; the input reads as it did. -/
def fnExactSafeBlocksSpec : ChangeSpec := { name := "fnExactSafeBlocks", fn := fun _ => fun
  | [d1, d2, d3] => { results := [.lit (.bool true)], args := [d1, d2, d3] }
  | _ => none }
def fnExactSafeBlocksRow : OpenClaim := { program := "ytbggglddgpeobab", sum := "babd0c2e30230fa193df0fca95f0bad00a227e7d373e83a83600280c051d387e", func := "loop.example/g00564/laws.FnExactSafeBlocks", spec := "fnExactSafeBlocks", unfollowed := true, recurses := true, apart := false }
def FnExactSafeBlocksSaid : Prop := fnExactSafeBlocksRow.holds Try.pinned (OpenSpec.ofChange fnExactSafeBlocksSpec)

/-- ITS FALSE NEIGHBOUR: 'it returns false'. Refute it at one input. -/
def fnExactSafeBlocksWrong : ChangeSpec := { name := "fnExactSafeBlocks", fn := fun _ => fun
  | [d1, d2, d3] => { results := [.lit (.bool false)], args := [d1, d2, d3] }
  | _ => none }
def FnExactSafeBlocksWrongFalsely : Prop := fnExactSafeBlocksRow.holds Try.pinned (OpenSpec.ofChange fnExactSafeBlocksWrong)

/-- 'laws.FnTree': WHATEVER THE INPUT: true; the input reads as it did. -/
def fnTreeSpec : ChangeSpec := { name := "fnTree", fn := fun _ => fun
  | [d1, d2] => { results := [.lit (.bool true)], args := [d1, d2] }
  | _ => none }
def fnTreeRow : OpenClaim := { program := "ytbggglddgpeobab", sum := "babd0c2e30230fa193df0fca95f0bad00a227e7d373e83a83600280c051d387e", func := "loop.example/g00564/laws.FnTree", spec := "fnTree", unfollowed := true, recurses := true, apart := false }
def FnTreeSaid : Prop := fnTreeRow.holds Try.pinned (OpenSpec.ofChange fnTreeSpec)

/-- ITS FALSE NEIGHBOUR: 'it returns false'. Refute it at one input. -/
def fnTreeWrong : ChangeSpec := { name := "fnTree", fn := fun _ => fun
  | [d1, d2] => { results := [.lit (.bool false)], args := [d1, d2] }
  | _ => none }
def FnTreeWrongFalsely : Prop := fnTreeRow.holds Try.pinned (OpenSpec.ofChange fnTreeWrong)

/-- 'laws.FnSparse': WHATEVER THE INPUT: true; the input reads as it did. -/
def fnSparseSpec : ChangeSpec := { name := "fnSparse", fn := fun _ => fun
  | [d1, d2] => { results := [.lit (.bool true)], args := [d1, d2] }
  | _ => none }
def fnSparseRow : OpenClaim := { program := "ytbggglddgpeobab", sum := "babd0c2e30230fa193df0fca95f0bad00a227e7d373e83a83600280c051d387e", func := "loop.example/g00564/laws.FnSparse", spec := "fnSparse", unfollowed := true, recurses := true, apart := false }
def FnSparseSaid : Prop := fnSparseRow.holds Try.pinned (OpenSpec.ofChange fnSparseSpec)

/-- ITS FALSE NEIGHBOUR: 'it returns false'. Refute it at one input. -/
def fnSparseWrong : ChangeSpec := { name := "fnSparse", fn := fun _ => fun
  | [d1, d2] => { results := [.lit (.bool false)], args := [d1, d2] }
  | _ => none }
def FnSparseWrongFalsely : Prop := fnSparseRow.holds Try.pinned (OpenSpec.ofChange fnSparseWrong)

/- THE SECOND FORM. 'bulk': how many values and letters a reading holds, each counted each time it is reached (what is shared counts as often as it is met; a slice's spare places count too). A statement '..UptoSaid' is the law's where the arguments, and the package variables that the reading takes, are together of bulk at most 1048576: NARROWER than '..Said'. Prove '..Said' where nothing that the law and all that it calls make is longer than what came in: it says more and counts as full. Else prove '..UptoSaid'. A law counts once. -/
mutual
def uptoBulk {H : Type} : DataW H → Nat
  | .lit (.string bytes) => bytes.length + 1
  | .lit _ => 1
  | .nil => 1
  | .ptr d => uptoBulk d + 1
  | .slice elems spare => uptoBulkAll elems + uptoBulkAll spare + 1
  | .agg parts => uptoBulkAll parts + 1
  | .iface _ d => uptoBulk d + 1
  | .map entries => uptoBulkEntries entries + 1
  | .held _ => 1
def uptoBulkAll {H : Type} : List (DataW H) → Nat
  | [] => 0
  | d :: r => uptoBulk d + uptoBulkAll r
def uptoBulkEntries {H : Type} : List (Lit × DataW H) → Nat
  | [] => 0
  | x :: r => uptoBulkEntry x + uptoBulkEntries r
def uptoBulkEntry {H : Type} : Lit × DataW H → Nat
  | (.string bytes, d) => bytes.length + uptoBulk d + 1
  | (_, d) => uptoBulk d + 1
 end
def uptoSmall : (H : Type) → List (DataW H) → Bool := fun _ ds => decide (uptoBulkAll ds ≤ 1048576)
def OpenSpec.upto (s : _root_.Go.ChangeSpec) : _root_.Go.OpenSpec := { _root_.Go.OpenSpec.ofChange s with cond := some uptoSmall }

/-- 'laws.FnHeads', WHERE WHAT IT READS IS OF BULK AT MOST 1048576: true; the input reads as it did. -/
def fnHeadsUptoRow : OpenClaim := { program := "ytbggglddgpeobab", sum := "babd0c2e30230fa193df0fca95f0bad00a227e7d373e83a83600280c051d387e", func := "loop.example/g00564/laws.FnHeads", spec := "fnHeads", unfollowed := true, recurses := true, apart := false, narrowed := true }
def FnHeadsUptoSaid : Prop := fnHeadsUptoRow.holds Try.pinned (OpenSpec.upto fnHeadsSpec)

/-- 'laws.FnExactSubWeights', WHERE WHAT IT READS IS OF BULK AT MOST 1048576: true; the input reads as it did. -/
def fnExactSubWeightsUptoRow : OpenClaim := { program := "ytbggglddgpeobab", sum := "babd0c2e30230fa193df0fca95f0bad00a227e7d373e83a83600280c051d387e", func := "loop.example/g00564/laws.FnExactSubWeights", spec := "fnExactSubWeights", apart := false, narrowed := true }
def FnExactSubWeightsUptoSaid : Prop := fnExactSubWeightsUptoRow.holds Try.pinned (OpenSpec.upto fnExactSubWeightsSpec)

/-- 'laws.FnExactHeadFrom', WHERE WHAT IT READS IS OF BULK AT MOST 1048576: true; the input reads as it did. -/
def fnExactHeadFromUptoRow : OpenClaim := { program := "ytbggglddgpeobab", sum := "babd0c2e30230fa193df0fca95f0bad00a227e7d373e83a83600280c051d387e", func := "loop.example/g00564/laws.FnExactHeadFrom", spec := "fnExactHeadFrom", apart := false, narrowed := true }
def FnExactHeadFromUptoSaid : Prop := fnExactHeadFromUptoRow.holds Try.pinned (OpenSpec.upto fnExactHeadFromSpec)

/-- 'laws.FnExactIsHeaviest', WHERE WHAT IT READS IS OF BULK AT MOST 1048576: true; the input reads as it did. -/
def fnExactIsHeaviestUptoRow : OpenClaim := { program := "ytbggglddgpeobab", sum := "babd0c2e30230fa193df0fca95f0bad00a227e7d373e83a83600280c051d387e", func := "loop.example/g00564/laws.FnExactIsHeaviest", spec := "fnExactIsHeaviest", apart := false, narrowed := true }
def FnExactIsHeaviestUptoSaid : Prop := fnExactIsHeaviestUptoRow.holds Try.pinned (OpenSpec.upto fnExactIsHeaviestSpec)

/-- 'laws.FnExactAddWeight', WHERE WHAT IT READS IS OF BULK AT MOST 1048576: true; the input reads as it did. -/
def fnExactAddWeightUptoRow : OpenClaim := { program := "ytbggglddgpeobab", sum := "babd0c2e30230fa193df0fca95f0bad00a227e7d373e83a83600280c051d387e", func := "loop.example/g00564/laws.FnExactAddWeight", spec := "fnExactAddWeight", apart := false, narrowed := true }
def FnExactAddWeightUptoSaid : Prop := fnExactAddWeightUptoRow.holds Try.pinned (OpenSpec.upto fnExactAddWeightSpec)

/-- 'laws.FnExactMoveVote', WHERE WHAT IT READS IS OF BULK AT MOST 1048576: true; the input reads as it did. -/
def fnExactMoveVoteUptoRow : OpenClaim := { program := "ytbggglddgpeobab", sum := "babd0c2e30230fa193df0fca95f0bad00a227e7d373e83a83600280c051d387e", func := "loop.example/g00564/laws.FnExactMoveVote", spec := "fnExactMoveVote", apart := false, narrowed := true }
def FnExactMoveVoteUptoSaid : Prop := fnExactMoveVoteUptoRow.holds Try.pinned (OpenSpec.upto fnExactMoveVoteSpec)

/-- 'laws.FnExactHeadOf', WHERE WHAT IT READS IS OF BULK AT MOST 1048576: true; the input reads as it did. -/
def fnExactHeadOfUptoRow : OpenClaim := { program := "ytbggglddgpeobab", sum := "babd0c2e30230fa193df0fca95f0bad00a227e7d373e83a83600280c051d387e", func := "loop.example/g00564/laws.FnExactHeadOf", spec := "fnExactHeadOf", recurses := true, apart := false, narrowed := true }
def FnExactHeadOfUptoSaid : Prop := fnExactHeadOfUptoRow.holds Try.pinned (OpenSpec.upto fnExactHeadOfSpec)

/-- 'laws.FnExactMarginAt', WHERE WHAT IT READS IS OF BULK AT MOST 1048576: true; the input reads as it did. -/
def fnExactMarginAtUptoRow : OpenClaim := { program := "ytbggglddgpeobab", sum := "babd0c2e30230fa193df0fca95f0bad00a227e7d373e83a83600280c051d387e", func := "loop.example/g00564/laws.FnExactMarginAt", spec := "fnExactMarginAt", apart := false, narrowed := true }
def FnExactMarginAtUptoSaid : Prop := fnExactMarginAtUptoRow.holds Try.pinned (OpenSpec.upto fnExactMarginAtSpec)

/-- 'laws.FnExactSafeBlocks', WHERE WHAT IT READS IS OF BULK AT MOST 1048576: true; the input reads as it did. -/
def fnExactSafeBlocksUptoRow : OpenClaim := { program := "ytbggglddgpeobab", sum := "babd0c2e30230fa193df0fca95f0bad00a227e7d373e83a83600280c051d387e", func := "loop.example/g00564/laws.FnExactSafeBlocks", spec := "fnExactSafeBlocks", unfollowed := true, recurses := true, apart := false, narrowed := true }
def FnExactSafeBlocksUptoSaid : Prop := fnExactSafeBlocksUptoRow.holds Try.pinned (OpenSpec.upto fnExactSafeBlocksSpec)

/-- 'laws.FnTree', WHERE WHAT IT READS IS OF BULK AT MOST 1048576: true; the input reads as it did. -/
def fnTreeUptoRow : OpenClaim := { program := "ytbggglddgpeobab", sum := "babd0c2e30230fa193df0fca95f0bad00a227e7d373e83a83600280c051d387e", func := "loop.example/g00564/laws.FnTree", spec := "fnTree", unfollowed := true, recurses := true, apart := false, narrowed := true }
def FnTreeUptoSaid : Prop := fnTreeUptoRow.holds Try.pinned (OpenSpec.upto fnTreeSpec)

/-- 'laws.FnSparse', WHERE WHAT IT READS IS OF BULK AT MOST 1048576: true; the input reads as it did. -/
def fnSparseUptoRow : OpenClaim := { program := "ytbggglddgpeobab", sum := "babd0c2e30230fa193df0fca95f0bad00a227e7d373e83a83600280c051d387e", func := "loop.example/g00564/laws.FnSparse", spec := "fnSparse", unfollowed := true, recurses := true, apart := false, narrowed := true }
def FnSparseUptoSaid : Prop := fnSparseUptoRow.holds Try.pinned (OpenSpec.upto fnSparseSpec)

end Rows
end Go.Proofs.Ytbggglddgpeobab
